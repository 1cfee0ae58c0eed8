/-
  Mathematics of a distance filled into a word: the word as a natural number, its bounds, and what the near holes' shapes are.
-/
import Derived.Test.YtjkhgljlipljdaaDoorEncT
import Derived.Laws.BitsAllLaws
namespace Go.Proofs.YtjkhgljlipljdaaDoor
open Go.RowKit
set_option linter.unusedVariables false
set_option linter.unusedSimpArgs false
theorem wdN_lt (op a : Int) : wdN op a < 4294967296 := by
  unfold wdN
  split
  · omega
  split
  · omega
  split
  · omega
  split
  · omega
  omega
theorem mkN_bd (op : Int) : 0 ≤ mkN op ∧ mkN op < 4294967296 := by
  unfold mkN
  split
  · decide
  split
  · decide
  split
  · decide
  decide
theorem setN_nat (x op a : Int) (h0 : 0 ≤ x) (h1 : x < 4294967296) : setN x op a = (((x.toNat &&& (4294967295 - (mkN op).toNat)) ||| (wdN op a &&& (mkN op).toNat) : Nat) : Int) := by
  unfold setN
  have hm := mkN_bd op
  have hw := wdN_lt op a
  have e1 : x.toNat &&& (4294967295 - (mkN op).toNat) < 4294967296 := Nat.lt_of_le_of_lt Nat.and_le_left (by omega)
  have e2 : wdN op a &&& (mkN op).toNat < 4294967296 := Nat.lt_of_le_of_lt Nat.and_le_left hw
  rw [u32_andNot x (mkN op) h0 h1 hm.1 hm.2, u32_and _ _ (Int.natCast_nonneg _) (by omega) hm.1 hm.2, Int.toNat_natCast, u32_or_nat _ _ e1 e2]
theorem setN_bd (x op a : Int) (h0 : 0 ≤ x) (h1 : x < 4294967296) : 0 ≤ setN x op a ∧ setN x op a < 4294967296 := by
  rw [setN_nat x op a h0 h1]
  have e1 : x.toNat &&& (4294967295 - (mkN op).toNat) < 2 ^ 32 := Nat.lt_of_le_of_lt Nat.and_le_left (by omega)
  have e2 : wdN op a &&& (mkN op).toNat < 2 ^ 32 := Nat.lt_of_le_of_lt Nat.and_le_left (wdN_lt op a)
  have := Nat.or_lt_two_pow e1 e2
  omega
theorem w4I_bd {x0 x1 x2 x3 : Int} (a0 : 0 ≤ x0) (b0 : x0 < 256) (a1 : 0 ≤ x1) (b1 : x1 < 256) (a2 : 0 ≤ x2) (b2 : x2 < 256) (a3 : 0 ≤ x3) (b3 : x3 < 256) : 0 ≤ w4I x0 x1 x2 x3 ∧ w4I x0 x1 x2 x3 < 4294967296 := by
  unfold w4I; omega
theorem tdiv4_ex {v : Int} (h : v.tmod 4 = 0) : v.tdiv 4 = v / 4 ∧ v = 4 * (v / 4) := by
  have hd := Int.dvd_of_tmod_eq_zero h
  exact ⟨Int.tdiv_eq_ediv_of_dvd hd, by omega⟩
/-- the near holes' shapes -/
theorem near_facts {k s : Int} (hok : holeOk k s = true) (hn : nearB (shR k s) = true) :
    brOp (shR k s).o ∧ (shR k s).w = 4 ∧ ((shR k s).t = 4 ∨ (shR k s).t = 1) ∧ filledB (shR k s) = true ∧ ∀ v, fitsB (shR k s) v = true → sfitB (v.tdiv (shR k s).t) (wiN (shR k s).o) = true := by
  obtain ⟨⟨K, S⟩, hx, rfl, rfl⟩ := holes_all hok
  simp only [holesL, List.mem_cons, Prod.mk.injEq, List.not_mem_nil, or_false] at hx
  rcases hx with ⟨rfl, rfl⟩ | ⟨rfl, rfl⟩ | ⟨rfl, rfl⟩ | ⟨rfl, rfl⟩ | ⟨rfl, rfl⟩ | ⟨rfl, rfl⟩ | ⟨rfl, rfl⟩ | ⟨rfl, rfl⟩ | ⟨rfl, rfl⟩ | ⟨rfl, rfl⟩ | ⟨rfl, rfl⟩ | ⟨rfl, rfl⟩ | ⟨rfl, rfl⟩ | ⟨rfl, rfl⟩ | ⟨rfl, rfl⟩
  · have e : shR (((1, 0) : Nat × Nat).1 : Int) (((1, 0) : Nat × Nat).2 : Int) = ⟨4, 282, 0, 8, -134217728, 134217724, 4⟩ := by decide
    rw [e]
    refine ⟨by unfold brOp; decide, by decide, by decide, by decide, fun v hv => ?_⟩
    simp only [fitsB, Bool.and_eq_true, decide_eq_true_eq, beq_iff_eq] at hv
    obtain ⟨h1, h2, h3⟩ := hv
    show sfitB (v.tdiv 4) 26 = true
    obtain ⟨q1, q2⟩ := tdiv4_ex h3
    rw [q1]
    generalize v / 4 = q at *
    have hp : (2 : Int) ^ (((26 : Int)).toNat - 1) = 33554432 := by decide
    unfold sfitB
    rw [hp, Bool.or_eq_true, beq_iff_eq, beq_iff_eq]
    omega
  · have e : shR (((2, 0) : Nat × Nat).1 : Int) (((2, 0) : Nat × Nat).2 : Int) = ⟨4, 283, 0, 8, -134217728, 134217724, 4⟩ := by decide
    rw [e]
    refine ⟨by unfold brOp; decide, by decide, by decide, by decide, fun v hv => ?_⟩
    simp only [fitsB, Bool.and_eq_true, decide_eq_true_eq, beq_iff_eq] at hv
    obtain ⟨h1, h2, h3⟩ := hv
    show sfitB (v.tdiv 4) 26 = true
    obtain ⟨q1, q2⟩ := tdiv4_ex h3
    rw [q1]
    generalize v / 4 = q at *
    have hp : (2 : Int) ^ (((26 : Int)).toNat - 1) = 33554432 := by decide
    unfold sfitB
    rw [hp, Bool.or_eq_true, beq_iff_eq, beq_iff_eq]
    omega
  · have e : shR (((3, 0) : Nat × Nat).1 : Int) (((3, 0) : Nat × Nat).2 : Int) = ⟨4, 280, 0, 7, -1048576, 1048572, 4⟩ := by decide
    rw [e]
    refine ⟨by unfold brOp; decide, by decide, by decide, by decide, fun v hv => ?_⟩
    simp only [fitsB, Bool.and_eq_true, decide_eq_true_eq, beq_iff_eq] at hv
    obtain ⟨h1, h2, h3⟩ := hv
    show sfitB (v.tdiv 4) 19 = true
    obtain ⟨q1, q2⟩ := tdiv4_ex h3
    rw [q1]
    generalize v / 4 = q at *
    have hp : (2 : Int) ^ (((19 : Int)).toNat - 1) = 262144 := by decide
    unfold sfitB
    rw [hp, Bool.or_eq_true, beq_iff_eq, beq_iff_eq]
    omega
  · have e : shR (((4, 0) : Nat × Nat).1 : Int) (((4, 0) : Nat × Nat).2 : Int) = ⟨4, 279, 0, 10, -32768, 32764, 4⟩ := by decide
    rw [e]
    refine ⟨by unfold brOp; decide, by decide, by decide, by decide, fun v hv => ?_⟩
    simp only [fitsB, Bool.and_eq_true, decide_eq_true_eq, beq_iff_eq] at hv
    obtain ⟨h1, h2, h3⟩ := hv
    show sfitB (v.tdiv 4) 14 = true
    obtain ⟨q1, q2⟩ := tdiv4_ex h3
    rw [q1]
    generalize v / 4 = q at *
    have hp : (2 : Int) ^ (((14 : Int)).toNat - 1) = 8192 := by decide
    unfold sfitB
    rw [hp, Bool.or_eq_true, beq_iff_eq, beq_iff_eq]
    omega
  · have e : shR (((5, 0) : Nat × Nat).1 : Int) (((5, 0) : Nat × Nat).2 : Int) = ⟨4, 273, 0, 18, -1048576, 1048572, 4⟩ := by decide
    rw [e]
    refine ⟨by unfold brOp; decide, by decide, by decide, by decide, fun v hv => ?_⟩
    simp only [fitsB, Bool.and_eq_true, decide_eq_true_eq, beq_iff_eq] at hv
    obtain ⟨h1, h2, h3⟩ := hv
    show sfitB (v.tdiv 4) 19 = true
    obtain ⟨q1, q2⟩ := tdiv4_ex h3
    rw [q1]
    generalize v / 4 = q at *
    have hp : (2 : Int) ^ (((19 : Int)).toNat - 1) = 262144 := by decide
    unfold sfitB
    rw [hp, Bool.or_eq_true, beq_iff_eq, beq_iff_eq]
    omega
  · have e : shR (((6, 0) : Nat × Nat).1 : Int) (((6, 0) : Nat × Nat).2 : Int) = ⟨4, 274, 0, 1, -1048576, 1048575, 1⟩ := by decide
    rw [e]
    refine ⟨by unfold brOp; decide, by decide, by decide, by decide, fun v hv => ?_⟩
    simp only [fitsB, Bool.and_eq_true, decide_eq_true_eq, beq_iff_eq] at hv
    obtain ⟨h1, h2, h3⟩ := hv
    show sfitB (v.tdiv 1) 21 = true
    rw [Int.tdiv_one]
    generalize v = q at *
    have hp : (2 : Int) ^ (((21 : Int)).toNat - 1) = 1048576 := by decide
    unfold sfitB
    rw [hp, Bool.or_eq_true, beq_iff_eq, beq_iff_eq]
    omega
  all_goals exact absurd hn (by decide)
end Go.Proofs.YtjkhgljlipljdaaDoor
