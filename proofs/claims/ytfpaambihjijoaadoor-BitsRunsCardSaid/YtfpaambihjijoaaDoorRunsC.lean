/-
  Runs of the program: the iterator that it hands back, for every number and every width. No conditions beyond those that each lemma states.
-/
import Derived.Test.YtfpaambihjijoaaDoorRunsB
namespace Go.Proofs.YtfpaambihjijoaaDoor
open Go.RowKit Go.Shelf BM

/-- how many of the lowest bits a width takes -/
def wid (n : Int) : Nat := if n < 0 then 0 else if n ≤ 64 then n.toNat else 64
theorem wid_le (n : Int) : wid n ≤ 64 := by unfold wid; split; omega; split <;> omega
theorem ones_wid (n : Int) (w : World) : Calls Tryd.prog 27 #[.int .i64 n] w fun e w' => e = .returned (.int .u64 (onesI (wid n : Int))) ∧ w = w' := by
  by_cases h1 : n < 0
  · have e : onesI (wid n : Int) = 0 := by unfold wid; rw [if_pos h1]; rfl
    rw [e]; exact ones_neg n w (by omega)
  · by_cases h2 : n ≤ 64
    · have e : (wid n : Int) = n := by unfold wid; rw [if_neg h1, if_pos h2]; omega
      rw [e]; exact ones_any n w (by omega) h2
    · have e : (wid n : Int) = 64 := by unfold wid; rw [if_neg h1, if_neg h2]; rfl
      rw [e]; exact ones_over n w (by omega)
theorem low_val {v : Nat} {n : Int} (hv : v < 18446744073709551616) : bits .and .u64 (v : Int) (onesI (wid n : Int)) = ((v % 2 ^ wid n : Nat) : Int) := by
  have hw := wid_le n
  have ho := onesI_bd64 (n := (wid n : Int)) (by omega)
  rw [u64_and _ _ (Int.natCast_nonneg _) (by exact Int.ofNat_lt.2 hv) ho.1 ho.2, Int.toNat_natCast]
  unfold onesI
  simp only [Int.toNat_natCast, Nat.and_two_pow_sub_one_eq_mod]
theorem beg_val {x : Nat} (hx : x < 18446744073709551616) : bits .andNot .u64 (x : Int) (IntKind.u64.wrap ((x : Int) * 2)) = ((x &&& (2 ^ 64 - 1 - x * 2 % 2 ^ 64) : Nat) : Int) := by
  have e64 : 2 ^ 64 = 18446744073709551616 := by decide
  have c1 : IntKind.u64.wrap ((x : Int) * 2) = ((x * 2 % 18446744073709551616 : Nat) : Int) := by rw [wrap_u64]; omega
  have h1 : x * 2 % 18446744073709551616 < 18446744073709551616 := Nat.mod_lt _ (by decide)
  have h := u64_andNot (x : Int) ((x * 2 % 18446744073709551616 : Nat) : Int) (Int.natCast_nonneg _) (by exact Int.ofNat_lt.2 hx) (Int.natCast_nonneg _) (by exact Int.ofNat_lt.2 h1)
  rw [c1, h, e64, Int.toNat_natCast, Int.toNat_natCast]
/-- what is handed back: the closure, and its two boxes -/
def RunsAt (w w' : World) (x : Nat) : Prop :=
  Below w.heap.size w w' ∧ w'.heap.size = w.heap.size + 2 ∧ w'.cell? ⟨w.heap.size + 1, 0, none⟩ = some (.int .u64 ((x &&& (2 ^ 64 - 1 - x * 2 % 2 ^ 64) : Nat) : Int)) ∧ w'.cell? ⟨w.heap.size, 0, none⟩ = some (.int .u64 (x : Int))
set_option maxRecDepth 100000 in
set_option maxHeartbeats 1000000 in
theorem runs_any (v : Nat) (n : Int) (w : World) (hv : v < 18446744073709551616) :
    Calls Tryd.prog 20 #[.int .u64 (v : Int), .int .i64 n] w fun e w' => e = .returned (.func (.func 28) #[] #[.pointer (some ⟨w.heap.size + 1, 0, none⟩), .pointer (some ⟨w.heap.size, 0, none⟩)]) ∧ RunsAt w w' (v % 2 ^ wid n) := by
  have L := low_val (n := n) hv
  have hx : v % 2 ^ wid n < 18446744073709551616 := Nat.lt_of_le_of_lt (Nat.mod_le _ _) hv
  have B := beg_val hx
  obtain ⟨x, hX⟩ : ∃ x, v % 2 ^ wid n = x := ⟨_, rfl⟩
  rw [hX] at L B hx ⊢
  have OW := fun w => ones_wid n w
  unfold RunsAt
  obtain ⟨g, hg⟩ : ∃ g : Nat, x &&& (2 ^ 64 - 1 - x * 2 % 2 ^ 64) = g := ⟨_, rfl⟩
  rw [hg] at B ⊢
  clear hv hX hx hg
  go_enter Tryd.func20, Tryd.ntmps20
  go_wp2_with fail
  go_region_with (go_at_call 27; refine (OW _).mono ?_; rintro e w1 ⟨rfl, rfl⟩)
  all_goals go_wp2
  all_goals go_ret
  all_goals refine ⟨rfl, ?_, by simp, by simp [go_sem], by simp [go_sem]⟩
  all_goals exact (((Below.refl _ w).alloc (Nat.le_refl _) _).drew).alloc (by simp) _
end Go.Proofs.YtfpaambihjijoaaDoor
