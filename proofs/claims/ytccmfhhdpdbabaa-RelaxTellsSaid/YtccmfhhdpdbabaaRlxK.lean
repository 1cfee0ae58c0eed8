/-
  What each call of the document's Fits, and of slices.Equal at numbers and at bools, returns. Conditions: how the arguments lie.
-/
import Derived.Test.YtccmfhhdpdbabaaRlxJ
namespace Go.Proofs.Ytccmfhhdpdbabaa
open Go.RowKit
set_option linter.unusedVariables false
set_option linter.unusedSimpArgs false

theorem rfits_any (v b : Value) (L : List It) (B : List Bool) (w : World) (hL : ItsO w v L) (hB : BosO w b B) :
    Calls Try.prog 18 #[v, b] w fun e w' => e = .returned (.bool (fitsB L B)) ∧ Below w.heap.size w w' := by
  have RF := Lib.hid (rround_any v b L B w hL hB)
  obtain ⟨aa, ca, rfl⟩ := hL.slice
  obtain ⟨ab, cb, rfl⟩ := hB.slice
  clear hL hB
  go_enter Try.func18, Try.ntmps18
  go_wp2_with fail
  refine RF.out.mono ?_
  rintro e w1 ⟨⟨hE, rfl⟩ | ⟨hE, hok, hlen, v', rfl, hown⟩, hb⟩
  · have HR := Lib.hid (show fitsB L B = false by unfold fitsB; rw [decide_eq_false hE, Bool.false_and])
    have hE' := not_beq hE
    have HB1 := Lib.hid hb
    generalize offE L B = C at *
    clear hb RF hE
    go_wp2_with fail
    go_ret
    exact ⟨ret1b HR.out.symm, HB1.out⟩
  · have HB1 := Lib.hid hb
    have hR : fitsB L B = decide (farL L B L.length = []) := by unfold fitsB; rw [decide_eq_true hE, Bool.true_and]
    clear hb RF hown hE hlen hok
    generalize farL L B L.length = F at *
    cases F with
    | nil =>
      have HR := Lib.hid (show fitsB L B = true by rw [hR]; rfl)
      clear hR
      go_wp2_with fail
      go_ret
      exact ⟨ret1b (by first | exact HR.out.symm | (rw [HR.out]; rfl)), HB1.out⟩
    | cons q F =>
      have HR := Lib.hid (show fitsB L B = false by rw [hR]; rfl)
      have hq : ((F.length : Int) + 1 == 0) = false := by simp; omega
      clear hR
      go_wp2_with fail
      go_ret
      exact ⟨ret1b (by first | exact HR.out.symm | (rw [HR.out]; exact hq) | rw [HR.out]), HB1.out⟩
set_option maxHeartbeats 2000000 in
theorem eqNu_any (v u : Value) (D E : List Int) (w : World) (hv : NusO w v D) (hu : NusO w u E) :
    Calls Try.prog 12 #[v, u] w fun e w' => e = .returned (.bool (decide (D = E))) ∧ Below w.heap.size w w' := by
  obtain ⟨a1, c1, rfl⟩ := hv.slice
  obtain ⟨a2, c2, rfl⟩ := hu.slice
  have l1 := hv.len
  have l2 := hu.len
  unfold maxLen at l1 l2
  have HV := Lib.hid hv
  have HU := Lib.hid hu
  clear hv hu
  by_cases hl : D.length = E.length
  · rw [← hl]
    have hl0 : ((D.length : Int) == (D.length : Int)) = true := by simp
    have HL := Lib.hid hl
    rw [← hl] at HU
    clear hl
    go_enter Try.func12, Try.ntmps12
    go_wp2_with fail
    go_loopw [13] (fun iv wr => ∃ (k : Nat), k ≤ D.length ∧ iv = .int .i64 (k : Int) ∧ Hid (D.take k = E.take k) ∧ Hid (Below w.heap.size w wr)) (fun iv _ => D.length - (intOf iv).toNat)
    case atStart => exact ⟨0, Nat.zero_le _, rfl, Lib.hid rfl, Lib.hid (Below.refl _ _)⟩
    case round =>
      obtain ⟨k, hk, rfl, HT, HB⟩ := hrel
      by_cases hlt : (k : Int) < (D.length : Int)
      · have hlt' : k < D.length := by omega
        obtain ⟨g, off, cap, x, hx, hvv, hg, xc⟩ := (HV.out.keep HB.out).at hlt'
        obtain ⟨g2, off2, cap2, y, hy, huu, hg2, yc⟩ := (HU.out.keep HB.out).at (k := k) (by rw [← HL.out]; omega)
        cases hvv
        rw [← HL.out] at huu
        cases huu
        have q0 : (0 : Int) ≤ (k : Int) := by omega
        have w9 : IntKind.i64.wrap ((k : Int) + 1) = ((k + 1 : Nat) : Int) := by rw [IntWalk.i64_in _ (by omega)]; omega
        by_cases hxy : x = y
        · subst hxy
          have HN := Lib.hid (show D.take (k + 1) = E.take (k + 1) by rw [List.take_add_one, List.take_add_one, hx, hy, HT.out])
          clear hx hy
          go_wp2_with fail
          go_quiet (fail)
          go_wp2_with fail
          go_roundw
          case rel => exact ⟨k + 1, by omega, by first | rfl | rw [← w9], HN, Lib.hid (below_drewN HB.out _)⟩
          case measure => simp [intOf]; omega
        · have hne : (x == y) = false := by simp [hxy]
          have HN := Lib.hid (show decide (D = E) = false by rw [decide_eq_false_iff_not]; rintro rfl; rw [hx] at hy; cases hy; exact hxy rfl)
          clear hx hy hxy
          go_wp2_with fail
          go_quiet (fail)
          go_wp2_with fail
          go_ret
          exact ⟨ret1b HN.out.symm, below_drewN HB.out _⟩
      · have HN := Lib.hid (show decide (D = E) = true by rw [decide_eq_true_iff]; have := HT.out; rwa [List.take_of_length_le (by omega), List.take_of_length_le (by rw [← HL.out]; omega)] at this)
        go_wp2_with fail
        go_ret
        exact ⟨ret1b HN.out.symm, HB.out⟩
  · have hl0 : ((D.length : Int) == (E.length : Int)) = false := by simp; omega
    have HN := Lib.hid (show decide (D = E) = false by rw [decide_eq_false_iff_not]; rintro rfl; exact hl rfl)
    clear hl
    go_enter Try.func12, Try.ntmps12
    go_wp2_with fail
    go_ret
    exact ⟨ret1b HN.out.symm, Below.refl _ _⟩
set_option maxHeartbeats 2000000 in
theorem eqBo_any (v u : Value) (D E : List Bool) (w : World) (hv : BosO w v D) (hu : BosO w u E) :
    Calls Try.prog 21 #[v, u] w fun e w' => e = .returned (.bool (decide (D = E))) ∧ Below w.heap.size w w' := by
  obtain ⟨a1, c1, rfl⟩ := hv.slice
  obtain ⟨a2, c2, rfl⟩ := hu.slice
  have l1 := hv.len
  have l2 := hu.len
  unfold maxLen at l1 l2
  have HV := Lib.hid hv
  have HU := Lib.hid hu
  clear hv hu
  by_cases hl : D.length = E.length
  · rw [← hl]
    have hl0 : ((D.length : Int) == (D.length : Int)) = true := by simp
    have HL := Lib.hid hl
    rw [← hl] at HU
    clear hl
    go_enter Try.func21, Try.ntmps21
    go_wp2_with fail
    go_loopw [13] (fun iv wr => ∃ (k : Nat), k ≤ D.length ∧ iv = .int .i64 (k : Int) ∧ Hid (D.take k = E.take k) ∧ Hid (Below w.heap.size w wr)) (fun iv _ => D.length - (intOf iv).toNat)
    case atStart => exact ⟨0, Nat.zero_le _, rfl, Lib.hid rfl, Lib.hid (Below.refl _ _)⟩
    case round =>
      obtain ⟨k, hk, rfl, HT, HB⟩ := hrel
      by_cases hlt : (k : Int) < (D.length : Int)
      · have hlt' : k < D.length := by omega
        obtain ⟨g, off, cap, x, hx, hvv, hg, xc⟩ := (HV.out.keep HB.out).at hlt'
        obtain ⟨g2, off2, cap2, y, hy, huu, hg2, yc⟩ := (HU.out.keep HB.out).at (k := k) (by rw [← HL.out]; omega)
        cases hvv
        rw [← HL.out] at huu
        cases huu
        have q0 : (0 : Int) ≤ (k : Int) := by omega
        have w9 : IntKind.i64.wrap ((k : Int) + 1) = ((k + 1 : Nat) : Int) := by rw [IntWalk.i64_in _ (by omega)]; omega
        by_cases hxy : x = y
        · subst hxy
          have HN := Lib.hid (show D.take (k + 1) = E.take (k + 1) by rw [List.take_add_one, List.take_add_one, hx, hy, HT.out])
          clear hx hy
          go_wp2_with fail
          go_quiet (fail)
          go_wp2_with fail
          go_roundw
          case rel => exact ⟨k + 1, by omega, by first | rfl | rw [← w9], HN, Lib.hid (below_drewN HB.out _)⟩
          case measure => simp [intOf]; omega
        · have hne : (x == y) = false := by simp [hxy]
          have HN := Lib.hid (show decide (D = E) = false by rw [decide_eq_false_iff_not]; rintro rfl; rw [hx] at hy; cases hy; exact hxy rfl)
          clear hx hy hxy
          go_wp2_with fail
          go_quiet (fail)
          go_wp2_with fail
          go_ret
          exact ⟨ret1b HN.out.symm, below_drewN HB.out _⟩
      · have HN := Lib.hid (show decide (D = E) = true by rw [decide_eq_true_iff]; have := HT.out; rwa [List.take_of_length_le (by omega), List.take_of_length_le (by rw [← HL.out]; omega)] at this)
        go_wp2_with fail
        go_ret
        exact ⟨ret1b HN.out.symm, HB.out⟩
  · have hl0 : ((D.length : Int) == (E.length : Int)) = false := by simp; omega
    have HN := Lib.hid (show decide (D = E) = false by rw [decide_eq_false_iff_not]; rintro rfl; exact hl rfl)
    clear hl
    go_enter Try.func21, Try.ntmps21
    go_wp2_with fail
    go_ret
    exact ⟨ret1b HN.out.symm, Below.refl _ _⟩
end Go.Proofs.Ytccmfhhdpdbabaa
