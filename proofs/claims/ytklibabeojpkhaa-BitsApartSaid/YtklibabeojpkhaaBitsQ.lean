/-
  What each call of Apart returns, the program's own and the document's, for any fields; nothing that lay in memory has changed.
-/
import Derived.Test.YtklibabeojpkhaaBitsP
namespace Go.Proofs.Ytklibabeojpkhaa
open Go.RowKit BM

/-- the bits of a field -/
def maskN (l n : Int) : Nat := (2 ^ n.toNat - 1) * 2 ^ l.toNat
theorem maskN_eq (l n : Int) : ((maskN l n : Nat) : Int) = maskI l n := rfl
/-- the bits that the first k fields take, if each lies in a word and no two meet -/
def apS (L N : Nat → Int) : Nat → Option Nat
  | 0 => some 0
  | k + 1 => match apS L N k with
    | none => none
    | some T => if liesB (L k) (N k) = true ∧ T &&& maskN (L k) (N k) = 0 then some (T ||| maskN (L k) (N k)) else none
theorem apS_next {L N : Nat → Int} {k T : Nat} (h : apS L N k = some T) : apS L N (k + 1) = if liesB (L k) (N k) = true ∧ T &&& maskN (L k) (N k) = 0 then some (T ||| maskN (L k) (N k)) else none := by
  show (match apS L N k with | none => none | some T => _) = _
  rw [h]
theorem apS_none {L N : Nat → Int} {k m : Nat} (h : apS L N k = none) (hm : k ≤ m) : apS L N m = none := by
  induction m with
  | zero => rw [show k = 0 by omega] at h; exact h
  | succ m ih =>
    by_cases g : k = m + 1
    · rw [← g]; exact h
    · show (match apS L N m with | none => none | some T => _) = _
      rw [ih (by omega)]
theorem ap_fail {L N : Nat → Int} {k len T : Nat} (hk : k < len) (h : apS L N k = some T) (hn : ¬ (liesB (L k) (N k) = true ∧ T &&& maskN (L k) (N k) = 0)) : false = (apS L N len).isSome := by
  have e := apS_next h
  rw [if_neg hn] at e
  rw [apS_none (m := len) e (by omega)]; rfl
theorem and_val {T : Nat} {l n : Int} (hT : T < 4294967296) (h1 : 0 ≤ l) (h3 : 1 ≤ n) (h5 : l + n ≤ 32) : bits .and .u32 (T : Int) (maskI l n) = ((T &&& maskN l n : Nat) : Int) := by
  have hm := maskI_bd h1 h3 h5
  rw [← maskN_eq] at hm ⊢
  exact u32_and_nat T _ hT (by omega)
theorem or_val {T : Nat} {l n : Int} (hT : T < 4294967296) (h1 : 0 ≤ l) (h3 : 1 ≤ n) (h5 : l + n ≤ 32) : bits .or .u32 (T : Int) (maskI l n) = ((T ||| maskN l n : Nat) : Int) ∧ T ||| maskN l n < 4294967296 := by
  have hm := maskI_bd h1 h3 h5
  rw [← maskN_eq] at hm ⊢
  refine ⟨u32_or_nat T _ hT (by omega), ?_⟩
  have e : 2 ^ 32 = 4294967296 := by decide
  have := Nat.or_lt_two_pow (x := T) (y := maskN l n) (n := 32) (by omega) (by omega)
  omega

set_option maxHeartbeats 400000 in
theorem apart_any (A : Option Addr) (len cap : Nat) (L N : Nat → Int) (w : World) (hlen : len ≤ 200) (hL : Flds w A len L N) :
    Calls Try.prog 17 #[.slice A len cap] w fun e w' => e = .returned (.bool (apS L N len).isSome) ∧ Below w.heap.size w w' := by
  have HL := Lib.hid hL
  clear hL
  go_enter Try.func17, Try.ntmps17
  go_wp2
  go_loopw [3, 8] (fun v i wr => ∃ k T : Nat, k ≤ len ∧ i = .int .i64 k ∧ v = .int .u32 T ∧ apS L N k = some T ∧ T < 4294967296 ∧ Below w.heap.size w wr) (fun _ i _ => len - (intOf i).toNat)
  case atStart => exact ⟨0, 0, by omega, rfl, rfl, rfl, by omega, Below.refl _ _⟩
  case round =>
    obtain ⟨k, T, hk, rfl, rfl, hz, hT, hbel⟩ := hrel
    by_cases hlt : k < len
    · obtain ⟨b, off, rfl, hb, c0, c1⟩ := (HL.out.keep hbel) k hlt
      have hsz := hbel.size
      have Z := Lib.hid hz
      have TT := Lib.hid hT
      clear hz hT
      by_cases hl : liesB (L k) (N k) = true
      · obtain ⟨h1, h2, h3, h4, h5⟩ := of_decide_eq_true hl
        have LL := Lib.hid hl
        clear hl
        by_cases hm : T &&& maskN (L k) (N k) = 0
        · have av := (and_val TT.out h1 h3 h5).trans (by rw [hm])
          have ov := Lib.hid (or_val TT.out h1 h3 h5)
          have nx := Lib.hid (apS_next Z.out)
          have MM := Lib.hid hm
          clear hm
          have at0 : (bits .and .u32 (T : Int) (maskI (L k) (N k)) != 0) = false := by rw [av]; rfl
          clear av
          go_wp2_with (first | (go_at_call 30; refine (lies_yes _ _ _ h1 h2 h3 h4 h5).mono ?_; rintro e w1 ⟨rfl, hb1⟩; obtain ⟨⟨k0, k1⟩, kz, kB⟩ := two_keep hb1 (two_start0 (Below.refl _ _)); clear hb1) | (go_at_call 34; refine (mask_any _ _ _ h1 h2 h3 h4 h5).mono ?_; rintro e w2 ⟨rfl, hb2⟩; obtain ⟨⟨k0, k1⟩, kz, kB⟩ := two_keep hb2 ⟨⟨k0, k1⟩, kz, kB⟩; clear hb2))
          go_outline
          go_roundw
          case rel => exact ⟨k + 1, _, by omega, by go_num, by rw [ov.out.1], by rw [nx.out, if_pos ⟨LL.out, MM.out⟩], ov.out.2, Below.thn hbel hsz kB⟩
          case measure => simp [intOf]; omega
        · have av := and_val TT.out h1 h3 h5
          have fl := Lib.hid (ap_fail hlt Z.out (fun g => hm g.2))
          have at0 : (bits .and .u32 (T : Int) (maskI (L k) (N k)) != 0) = true := by rw [av, bne_iff_ne]; omega
          clear av hm
          go_wp2_with (first | (go_at_call 30; refine (lies_yes _ _ _ h1 h2 h3 h4 h5).mono ?_; rintro e w1 ⟨rfl, hb1⟩; obtain ⟨⟨k0, k1⟩, kz, kB⟩ := two_keep hb1 (two_start0 (Below.refl _ _)); clear hb1) | (go_at_call 34; refine (mask_any _ _ _ h1 h2 h3 h4 h5).mono ?_; rintro e w2 ⟨rfl, hb2⟩; obtain ⟨⟨k0, k1⟩, kz, kB⟩ := two_keep hb2 ⟨⟨k0, k1⟩, kz, kB⟩; clear hb2))
          go_ret
          exact ⟨ret1b fl.out, Below.thn hbel hsz kB⟩
      · have fl := Lib.hid (ap_fail hlt Z.out (fun g => hl g.1))
        have nl := Lib.hid (show ¬ (0 ≤ L k ∧ L k < 32 ∧ 1 ≤ N k ∧ N k ≤ 32 ∧ L k + N k ≤ 32) from fun g => hl (decide_eq_true g))
        clear hl
        go_wp2_with (go_at_call 30; refine (lies_no _ _ _ nl.out).mono ?_; rintro e w1 ⟨rfl, hb1⟩; obtain ⟨⟨k0, k1⟩, kz, kB⟩ := two_keep hb1 (two_start0 (Below.refl _ _)); clear hb1)
        go_ret
        exact ⟨ret1b fl.out, Below.thn hbel hsz kB⟩
    · have hkl : k = len := by omega
      subst hkl
      have Z := Lib.hid hz
      clear hz
      go_wp2
      go_ret
      exact ⟨ret1b (by rw [Z.out]; rfl), hbel⟩
end Go.Proofs.Ytklibabeojpkhaa
