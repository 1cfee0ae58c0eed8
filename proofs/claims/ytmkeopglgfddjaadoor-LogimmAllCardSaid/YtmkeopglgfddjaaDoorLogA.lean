/-
  What each call of the small functions on logical immediates returns (the program's and the document's own): widths, marks, ones, and the value of a pattern. No conditions beyond those that each lemma states.
-/
import Derived.Test.YtmkeopglgfddjaaDoorBitsC
import Derived.Test.YtmkeopglgfddjaaDoorBitsCount
import Derived.Test.YtmkeopglgfddjaaDoorLogMath
namespace Go.Proofs.YtmkeopglgfddjaaDoor
open Go.RowKit BM

/-- what stands above the number of ones -/
def topN (s : Nat) : Nat := 64 - 2 * s

set_option maxHeartbeats 400000 in
theorem isw_yes (W : Nat) (w : World) (h : IsW W) :
    Calls Tryd.prog 21 #[.int .i64 (W : Int)] w fun e w' => e = .returned (.bool true) ∧ w = w' := by
  rcases h with rfl | rfl
  · go_enter Tryd.func21, Tryd.ntmps21
    go_wp2
    go_ret
    exact ⟨rfl, rfl⟩
  · go_enter Tryd.func21, Tryd.ntmps21
    go_wp2
    go_ret
    exact ⟨rfl, rfl⟩
set_option maxHeartbeats 400000 in
theorem isw_no (W : Int) (w : World) (h : W ≠ 32) (h' : W ≠ 64) :
    Calls Tryd.prog 21 #[.int .i64 W] w fun e w' => e = .returned (.bool false) ∧ w = w' := by
  go_enter Tryd.func21, Tryd.ntmps21
  go_wp2
  go_ret
  exact ⟨ret1b (by simp [h, h']), rfl⟩
set_option maxHeartbeats 400000 in
theorem bad_no (W : Nat) (w : World) (h : IsW W) :
    Calls Tryd.prog 24 #[.int .i64 (W : Int)] w fun e w' => e = .returned (.bool false) ∧ w = w' := by
  rcases h with rfl | rfl
  · go_enter Tryd.func24, Tryd.ntmps24
    go_wp2
    go_ret
    exact ⟨rfl, rfl⟩
  · go_enter Tryd.func24, Tryd.ntmps24
    go_wp2
    go_ret
    exact ⟨rfl, rfl⟩
set_option maxHeartbeats 400000 in
theorem bad_yes (W : Int) (w : World) (h : W ≠ 32) (h' : W ≠ 64) :
    Calls Tryd.prog 24 #[.int .i64 W] w fun e w' => e = .returned (.bool true) ∧ w = w' := by
  go_enter Tryd.func24, Tryd.ntmps24
  go_wp2
  go_ret
  exact ⟨ret1b (by simp [h, h']), rfl⟩
set_option maxHeartbeats 400000 in
theorem low_any (n : Int) (w : World) (h1 : 0 ≤ n) (h2 : n ≤ 64) :
    Calls Tryd.prog 32 #[.int .i64 n] w fun e w' => e = .returned (.int .u64 (onesI n)) ∧ w = w' := by
  go_enter Tryd.func32, Tryd.ntmps32
  go_wp2
  go_ret
  exact ⟨ret1 (ones_code64 h2), rfl⟩
/-- N of a size -/
def bitN (s : Nat) : Nat := if s = 64 then 1 else 0
set_option maxHeartbeats 400000 in
theorem topBit_any (s : Nat) (w : World) :
    Calls Tryd.prog 28 #[.int .i64 (s : Int)] w fun e w' => e = .returned (.int .i64 (bitN s : Int)) ∧ w = w' := by
  by_cases h : s = 64
  · subst h
    go_enter Tryd.func28, Tryd.ntmps28
    go_wp2
    go_ret
    exact ⟨rfl, rfl⟩
  · have h' : ((s : Int) == 64) = false := by simp; omega
    have e : (bitN s : Int) = 0 := by unfold bitN; rw [if_neg h]; rfl
    rw [e]
    clear h e
    go_enter Tryd.func28, Tryd.ntmps28
    go_wp2
    go_ret
    exact ⟨rfl, rfl⟩
set_option maxHeartbeats 1000000 in
theorem mark_any (s : Nat) (w : World) (hs : IsSize s) :
    Calls Tryd.prog 29 #[.int .i64 (s : Int)] w fun e w' => e = .returned (.int .i64 (topN s : Int)) ∧ w = w' := by
  rcases hs with rfl | rfl | rfl | rfl | rfl | rfl
  all_goals
    go_enter Tryd.func29, Tryd.ntmps29
    go_wp2
    go_ret
    exact ⟨rfl, rfl⟩
set_option maxHeartbeats 1000000 in
theorem rtop_any (s : Nat) (w : World) (hs : IsSize s) :
    Calls Tryd.prog 25 #[.int .i64 (s : Int)] w fun e w' => e = .returned (.int .i64 (topN s : Int)) ∧ w = w' := by
  rcases hs with rfl | rfl | rfl | rfl | rfl | rfl
  all_goals
    go_enter Tryd.func25, Tryd.ntmps25
    go_wp2
    go_ret
    exact ⟨rfl, rfl⟩
end Go.Proofs.YtmkeopglgfddjaaDoor
