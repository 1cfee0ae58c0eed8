/-
  What each call of the program's decimal and of the document's digits returns. Conditions: what the variables of the library hold (Good), and the sizes that each lemma states.
-/
import Derived.Test.YtefglodkcddgiaaDoorNamesA
namespace Go.Proofs.YtefglodkcddgiaaDoor
open Go.RowKit

/-- the cells of the package-level table of parts -/
def partsC : List Value := [.string ⟨#[115]⟩, .int .i64 2, .int .i64 1, .string ⟨#[]⟩, .int .i64 0, .int .i64 3, .string ⟨#[99]⟩, .int .i64 0, .int .i64 4, .string ⟨#[99]⟩, .int .i64 0, .int .i64 4, .string ⟨#[]⟩, .int .i64 0, .int .i64 3]
/-- the package-level variables hold what their text lays -/
structure Good (w : World) : Prop where
  size : 9 ≤ w.heap.size
  syn : ∃ te pe, w.cell? ⟨1, 0, none⟩ = some (.iface te pe)
  rng : ∃ te pe, w.cell? ⟨2, 0, none⟩ = some (.iface te pe)
  most : ∃ m : Int, w.cell? ⟨4, 0, none⟩ = some (.int .i64 m)
  parts : ∀ (j : Nat) v, partsC[j]? = some v → w.cell? ⟨0, j, none⟩ = some v
theorem Good.keep {w w' : World} {B : Nat} (h : Good w) (hB : 9 ≤ B) (hb : Below B w w') : Good w' := by
  have hs := hb.size
  refine ⟨Nat.le_trans h.size hs, ?_, ?_, ?_, ?_⟩
  · obtain ⟨te, pe, hc⟩ := h.syn
    exact ⟨te, pe, (hb.cell (p := ⟨1, 0, none⟩) (by show 1 < B; omega)).trans hc⟩
  · obtain ⟨te, pe, hc⟩ := h.rng
    exact ⟨te, pe, (hb.cell (p := ⟨2, 0, none⟩) (by show 2 < B; omega)).trans hc⟩
  · obtain ⟨m, hc⟩ := h.most
    exact ⟨m, (hb.cell (p := ⟨4, 0, none⟩) (by show 4 < B; omega)).trans hc⟩
  · intro j v hj
    exact (hb.cell (p := ⟨0, j, none⟩) (by show 0 < B; omega)).trans (h.parts j v hj)
theorem Good.thn {w w' : World} (h : Good w) (hb : Below w.heap.size w w') : Good w' := h.keep h.size hb
theorem Good.drewN {w : World} (h : Good w) (n : Nat) : Good (w.drewN n) := h.keep h.size (below_drewN (Below.refl _ _) n)

/-! ### the document's digits -/
theorem dig0 (lo hi : Nat) : dig [] lo hi = none := dig_none fun n _ _ e => by have := (dd_len n).1; rw [e] at this; simp at this
theorem dig3 {s : List UInt8} (h : 2 < s.length) (lo hi : Nat) : dig s lo hi = none := dig_none fun n _ _ e => by have := (dd_len n).2; rw [e] at this; omega
theorem dd_head : ∀ n, n < 100 → (∀ c ∈ dd n, 48 ≤ c.toNat ∧ c.toNat ≤ 57) ∧ ((dd n).length = 2 → (dd n).head? ≠ some 48) := by decide +kernel
theorem dig_bad {s : List UInt8} {hi : Nat} (hh : hi < 100) {c : UInt8} (hc : c ∈ s) (h : c.toNat < 48 ∨ 57 < c.toNat) (lo : Nat) : dig s lo hi = none := dig_none fun n _ h2 e => by
  have := (dd_head n (by omega)).1 c (e ▸ hc); omega
theorem dig_zero {b : UInt8} {hi : Nat} (hh : hi < 100) (lo : Nat) : dig [48, b] lo hi = none := dig_none fun n _ h2 e => by
  have := (dd_head n (by omega)).2 (by rw [e]; rfl); rw [e] at this; exact this rfl
theorem dig_over {s : List UInt8} {hi n : Nat} (hn : n < 100) (e : dd n = s) (h : hi < n) (lo : Nat) : dig s lo hi = none := dig_none fun m _ h2 e' => by
  have := dd_inj m (by omega) n hn (e'.trans e.symm); omega
def DigOut (s : List UInt8) (hi : Nat) (v : Int) (b : Bool) : Prop := (b = true ∧ ∃ n : Nat, dig s 0 hi = some n ∧ v = (n : Int)) ∨ (b = false ∧ dig s 0 hi = none ∧ 0 ≤ v ∧ v ≤ 99)
set_option maxHeartbeats 1000000 in
theorem digits_long (s : ByteArray) (hi : Nat) (w : World) (h : 2 < s.size) :
    Calls Tryd.prog 23 #[.string s, .int .i64 (hi : Int)] w fun e w' => ∃ v b, e = .returned (.tuple #[.int .i64 v, .bool b]) ∧ DigOut s.data.toList hi v b ∧ w = w' := by
  have R := Lib.hid (show DigOut s.data.toList hi 0 false from .inr ⟨rfl, dig3 (s := s.data.toList) h _ _, by decide, by decide⟩)
  have h' : 2 < (s.size : Int) := by omega
  have g1 : (s.toList == []) = false := lit_no (l := []) (fun e => by rw [e] at h; exact absurd h (by decide))
  clear h
  go_enter Tryd.func23, Tryd.ntmps23
  go_wp2
  go_ret2
  exact ⟨_, _, rfl, R.out, rfl⟩
set_option maxHeartbeats 1000000 in
theorem digits_any (s : ByteArray) (hi : Nat) (w : World) (hh : hi < 100) :
    Calls Tryd.prog 23 #[.string s, .int .i64 (hi : Int)] w fun e w' => ∃ v b, e = .returned (.tuple #[.int .i64 v, .bool b]) ∧ DigOut s.data.toList hi v b ∧ w = w' := by
  obtain ⟨⟨l⟩⟩ := s
  match l with
  | [] =>
    have R := Lib.hid (show DigOut [] hi 0 false from .inr ⟨rfl, dig0 _ _, by decide, by decide⟩)
    go_enter Tryd.func23, Tryd.ntmps23
    go_wp2
    go_ret2
    exact ⟨_, _, rfl, R.out, rfl⟩
  | [a] =>
    have hu := a.toNat_lt
    have gx : (⟨⟨[a]⟩⟩ : ByteArray)[0]'(show 0 < 1 by decide) = a := rfl
    by_cases h1 : (a.toNat : Int) < 48
    · have R := Lib.hid (show DigOut [a] hi 0 false from .inr ⟨rfl, dig_bad hh (c := a) (by simp) (by omega) _, by decide, by decide⟩)
      clear hh hu
      go_enter Tryd.func23, Tryd.ntmps23
      go_wp2
      refine wp_loop_rounds 1 ?_
      rw [rounds_succ]
      go_wp2
      go_ret2
      exact ⟨_, _, rfl, R.out, rfl⟩
    · by_cases h2 : 57 < (a.toNat : Int)
      · have R := Lib.hid (show DigOut [a] hi 0 false from .inr ⟨rfl, dig_bad hh (c := a) (by simp) (by omega) _, by decide, by decide⟩)
        clear hh hu
        go_enter Tryd.func23, Tryd.ntmps23
        go_wp2
        refine wp_loop_rounds 1 ?_
        rw [rounds_succ]
        go_wp2
        go_ret2
        exact ⟨_, _, rfl, R.out, rfl⟩
      · have e1 := dd_one a (by omega) (by omega)
        obtain ⟨n, hn⟩ : ∃ n, a.toNat - 48 = n := ⟨_, rfl⟩
        rw [hn] at e1
        have c1 : IntKind.u8.wrap ((a.toNat : Int) - 48) = (n : Int) := by simp [IntKind.wrap, IntKind.bits, IntKind.signed]; omega
        have c0 : (a.toNat : Int) - 48 = (n : Int) := by omega
        have hn9 : (n : Int) ≤ 9 := by omega
        have R : Hid (DigOut [a] hi (n : Int) (decide (n ≤ hi))) := by
          by_cases h3 : n ≤ hi
          · exact Lib.hid (.inl ⟨by simp only [h3, decide_true], n, dig_some hh (Nat.zero_le _) (by omega) e1, rfl⟩)
          · exact Lib.hid (.inr ⟨by simp only [h3, decide_false], dig_over (by omega) e1 (by omega) _, by omega, by omega⟩)
        clear hh hu e1 hn
        go_enter Tryd.func23, Tryd.ntmps23
        go_wp2
        refine wp_loop_rounds 2 ?_
        rw [rounds_succ]
        go_wp2
        rw [rounds_succ]
        go_wp2
        go_ret2
        exact ⟨_, _, rfl, R.out, rfl⟩
  | [a, b] =>
    have hu := a.toNat_lt
    have hv := b.toNat_lt
    have gx : (⟨⟨[a, b]⟩⟩ : ByteArray)[0]'(show 0 < 2 by decide) = a := rfl
    have gy : (⟨⟨[a, b]⟩⟩ : ByteArray)[1]'(show 1 < 2 by decide) = b := rfl
    by_cases h0 : (a.toNat : Int) = 48
    · have R := Lib.hid (show DigOut [a, b] hi 0 false from .inr ⟨rfl, by rw [show a = 48 from UInt8.toNat_inj.1 (by show a.toNat = 48; omega)]; exact dig_zero hh 0, by decide, by decide⟩)
      have h0' : ((a.toNat : Int) == 48) = true := by simp [h0]
      clear hh hu hv h0
      go_enter Tryd.func23, Tryd.ntmps23
      go_wp2
      go_ret2
      exact ⟨_, _, rfl, R.out, rfl⟩
    have h0' : ((a.toNat : Int) == 48) = false := by simp [h0]
    by_cases h1 : (a.toNat : Int) < 48 ∨ 57 < (a.toNat : Int)
    · have R := Lib.hid (show DigOut [a, b] hi 0 false from .inr ⟨rfl, dig_bad hh (c := a) (by simp) (by omega) _, by decide, by decide⟩)
      clear hh hu hv h0
      rcases h1 with h1 | h1
      all_goals
        go_enter Tryd.func23, Tryd.ntmps23
        go_wp2
        refine wp_loop_rounds 1 ?_
        rw [rounds_succ]
        go_wp2
        go_ret2
        exact ⟨_, _, rfl, R.out, rfl⟩
    · have h1a : 48 ≤ (a.toNat : Int) := by omega
      have h1b : (a.toNat : Int) ≤ 57 := by omega
      obtain ⟨p, hp⟩ : ∃ p : Nat, a.toNat - 48 = p := ⟨_, rfl⟩
      have c1 : IntKind.u8.wrap ((a.toNat : Int) - 48) = (p : Int) := by simp [IntKind.wrap, IntKind.bits, IntKind.signed]; omega
      have c0 : (a.toNat : Int) - 48 = (p : Int) := by omega
      have hp9 : (p : Int) ≤ 9 := by omega
      have hp1 : 1 ≤ (p : Int) := by omega
      by_cases h2 : (b.toNat : Int) < 48 ∨ 57 < (b.toNat : Int)
      · have R := Lib.hid (show DigOut [a, b] hi 0 false from .inr ⟨rfl, dig_bad hh (c := b) (by simp) (by omega) _, by decide, by decide⟩)
        clear hh hu hv h0 h1 hp
        rcases h2 with h2 | h2
        all_goals
          go_enter Tryd.func23, Tryd.ntmps23
          go_wp2
          refine wp_loop_rounds 2 ?_
          rw [rounds_succ]
          go_wp2
          rw [rounds_succ]
          go_wp2
          go_ret2
          exact ⟨_, _, rfl, R.out, rfl⟩
      · have h2a : 48 ≤ (b.toNat : Int) := by omega
        have h2b : (b.toNat : Int) ≤ 57 := by omega
        obtain ⟨q, hq⟩ : ∃ q : Nat, b.toNat - 48 = q := ⟨_, rfl⟩
        have d1 : IntKind.u8.wrap ((b.toNat : Int) - 48) = (q : Int) := by simp [IntKind.wrap, IntKind.bits, IntKind.signed]; omega
        have d0 : (b.toNat : Int) - 48 = (q : Int) := by omega
        have hq9 : (q : Int) ≤ 9 := by omega
        have e1 := dd_two a b (by omega) (by omega) (by omega) (by omega)
        rw [hp, hq] at e1
        have R : Hid (DigOut [a, b] hi (10 * (p : Int) + (q : Int)) (decide (10 * (p : Int) + (q : Int) ≤ (hi : Int)))) := by
          by_cases h3 : 10 * (p : Int) + (q : Int) ≤ (hi : Int)
          · exact Lib.hid (.inl ⟨by simp only [h3, decide_true], 10 * p + q, dig_some hh (Nat.zero_le _) (by omega) e1, by omega⟩)
          · exact Lib.hid (.inr ⟨by simp only [h3, decide_false], dig_over (by omega) e1 (by omega) _, by omega, by omega⟩)
        clear hh hu hv h0 h1 h2 hp hq e1
        go_enter Tryd.func23, Tryd.ntmps23
        go_wp2
        refine wp_loop_rounds 3 ?_
        rw [rounds_succ]
        go_wp2
        rw [rounds_succ]
        go_wp2
        rw [rounds_succ]
        go_wp2
        go_ret2
        exact ⟨_, _, rfl, R.out, rfl⟩
  | a :: b :: c :: r => exact digits_long ⟨⟨a :: b :: c :: r⟩⟩ hi w (show 2 < r.length + 1 + 1 + 1 by omega)
end Go.Proofs.YtefglodkcddgiaaDoor
