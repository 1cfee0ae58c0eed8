/-
  What the library's comparisons answer at rows that hold the same; whether a name is among others; whether names are few. Conditions: how the arguments lie, and their sizes.
-/
import Derived.Test.YtbheeahdbimeiaaStbS
namespace Go.Proofs.Ytbheeahdbimeiaa
open Go.RowKit Go.Maps
set_option linter.unusedVariables false
set_option linter.unusedSimpArgs false

set_option maxHeartbeats 1000000 in
theorem bytesEq_same (u v : Value) (t : List Int) (w : World) (hu : BysO w u t) (hv : BysO w v t) :
    Calls Try.prog 12 #[u, v] w fun e w' => e = .returned (.bool true) ∧ w = w' := by
  have h1 := conv_any hu
  have h2 := conv_any hv
  go_enter Try.func12, Try.ntmps12
  go_wp2_with fail
  go_ret
  exact ⟨rfl, rfl⟩
theorem BysO.pre {W : World} {aa : Option Addr} {l ca : Nat} {t r : List Int} (h : BysO W (.slice aa l ca) (t ++ r)) : BysO W (.slice aa t.length ca) t := by
  rcases h with ⟨h | ⟨a, c, h⟩, h0⟩ | ⟨g, off, cap, h, hc, hm, hg, hx⟩
  · cases h
    have : t = [] := by have := (show t ++ r = [] by simpa using h0); exact (List.append_eq_nil_iff.1 this).1
    subst this
    exact .inl ⟨.inl rfl, rfl⟩
  · cases h
    have : t = [] := by have := (show t ++ r = [] by simpa using h0); exact (List.append_eq_nil_iff.1 this).1
    subst this
    exact .inl ⟨.inr ⟨_, _, rfl⟩, rfl⟩
  · cases h
    rw [List.length_map, List.length_append] at hc
    refine .inr ⟨g, off, ca, by rw [List.length_map], by rw [List.length_map]; omega, hm, hg, fun k x hk => hx k x ?_⟩
    rw [List.getElem?_map] at hk ⊢
    rw [List.getElem?_append_left (by
      obtain ⟨z, hz, _⟩ := Option.map_eq_some_iff.1 hk
      exact (List.getElem?_eq_some_iff.1 hz).1)]
    exact hk
set_option maxHeartbeats 1000000 in
theorem hasPrefix_same (u v : Value) (t r : List Int) (w : World) (hu : BysO w u (t ++ r)) (hv : BysO w v t) :
    Calls Try.prog 24 #[u, v] w fun e w' => e = .returned (.bool true) ∧ w = w' := by
  obtain ⟨ua, uc, rfl⟩ := hu.slice
  obtain ⟨va, vc, rfl⟩ := hv.slice
  have hca : t.length ≤ uc := by
    have := hu.cap
    rw [List.length_append] at this
    omega
  have EQ := Lib.hid (fun X => bytesEq_same (.slice ua t.length X) (.slice va t.length vc) t w)
  have HP := Lib.hid hu.pre
  have HV := Lib.hid hv
  have hge : (t.length : Int) ≤ ((t ++ r).length : Int) := by rw [List.length_append]; omega
  have hge3 : ¬ (((t ++ r).length : Int) < (t.length : Int)) := by omega
  have hge2 : t.length ≤ (t ++ r).length := by rw [List.length_append]; omega
  generalize (t ++ r).length = N at *
  clear hu hv
  go_enter Try.func24, Try.ntmps24
  go_wp2_with fail
  refine (EQ.out _ HP.out HV.out).mono ?_
  rintro e w1 ⟨rfl, rfl⟩
  go_wp2_with fail
  go_ret
  exact ⟨rfl, rfl⟩
set_option maxHeartbeats 1000000 in
theorem intsEq_same (u v : Value) (l : List Int) (w : World) (hu : NusO w u l) (hv : NusO w v l) :
    Calls Try.prog 13 #[u, v] w fun e w' => e = .returned (.bool true) ∧ Below w.heap.size w w' := by
  have HU := Lib.hid hu
  have HV := Lib.hid hv
  have hlen := hu.len
  unfold maxLen at hlen
  obtain ⟨ua, uc, rfl⟩ := hu.slice
  obtain ⟨va, vc, rfl⟩ := hv.slice
  clear hu hv
  go_enter Try.func13, Try.ntmps13
  go_wp2_with fail
  go_loopw [13] (fun iv wr => ∃ (k m : Nat), k ≤ l.length ∧ iv = .int .i64 (k : Int) ∧ wr = w.drewN m) (fun iv _ => l.length - (intOf iv).toNat)
  case atStart => exact ⟨0, 0, Nat.zero_le _, rfl, rfl⟩
  case round =>
    obtain ⟨k, m, hk, rfl, rfl⟩ := hrel
    by_cases hlt : (k : Int) < (l.length : Int)
    · obtain ⟨g, off, cap, x, hx, hvv, hg, x0⟩ := HU.out.at (k := k) (by omega)
      cases hvv
      obtain ⟨g', off', cap', y, hy, hvv, hg', y0⟩ := HV.out.at (k := k) (by omega)
      cases hvv
      have hxy : x = y := by rw [hx] at hy; injection hy
      subst hxy
      have w9 : IntKind.i64.wrap ((k : Int) + 1) = ((k + 1 : Nat) : Int) := by rw [IntWalk.i64_in _ (by omega)]; omega
      have kp : (0 : Int) ≤ (k : Int) := by omega
      clear hx hy
      go_wp2_with fail
      go_quiet (fail)
      go_wp2_with fail
      go_roundw
      case rel => exact ⟨k + 1, _, by omega, by first | rfl | rw [← w9], by first | rfl | trivial⟩
      case measure => simp [intOf]; omega
    · go_wp2_with fail
      go_ret
      exact ⟨rfl, below_drewN (Below.refl _ _) _⟩
set_option maxHeartbeats 1000000 in
theorem rowsEq_same (u v : Value) (R : List (Nat × BA)) (B C : Nat) (w : World) (hu : w.ownsRow B 41 2 u R.length (flatR R)) (hv : w.ownsRow C 41 2 v R.length (flatR R)) (hlen : R.length ≤ 1048576) :
    Calls Try.prog 20 #[u, v] w fun e w' => e = .returned (.bool true) ∧ Below w.heap.size w w' := by
  have HU := Lib.hid hu
  have HV := Lib.hid hv
  obtain ⟨ua, uc, rfl⟩ := own_sliceN hu
  obtain ⟨va, vc, rfl⟩ := own_sliceN hv
  clear hu hv
  go_enter Try.func20, Try.ntmps20
  go_wp2_with fail
  go_loopw [13] (fun iv wr => ∃ (k m : Nat), k ≤ R.length ∧ iv = .int .i64 (k : Int) ∧ wr = w.drewN m) (fun iv _ => R.length - (intOf iv).toNat)
  case atStart => exact ⟨0, 0, Nat.zero_le _, rfl, rfl⟩
  case round =>
    obtain ⟨k, m, hk, rfl, rfl⟩ := hrel
    by_cases hlt : (k : Int) < (R.length : Int)
    · obtain ⟨g, cap, x, hx, hvv, hg, x0, x1⟩ := rows2_at HU.out (k := k) (by omega)
      cases hvv
      obtain ⟨g', cap', y, hy, hvv, hg', y0, y1⟩ := rows2_at HV.out (k := k) (by omega)
      cases hvv
      have hxy : x = y := by rw [hx] at hy; injection hy
      subst hxy
      have w9 : IntKind.i64.wrap ((k : Int) + 1) = ((k + 1 : Nat) : Int) := by rw [IntWalk.i64_in _ (by omega)]; omega
      have kp : (0 : Int) ≤ (k : Int) := by omega
      clear hx hy
      go_wp2_with fail
      go_quiet (fail)
      go_wp2_with fail
      go_roundw
      case rel => exact ⟨k + 1, _, by omega, by first | rfl | rw [← w9], by first | rfl | trivial⟩
      case measure => simp [intOf]; omega
    · go_wp2_with fail
      go_ret
      exact ⟨rfl, below_drewN (Below.refl _ _) _⟩
end Go.Proofs.Ytbheeahdbimeiaa
