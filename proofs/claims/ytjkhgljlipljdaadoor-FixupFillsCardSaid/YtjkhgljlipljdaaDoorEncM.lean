/-
  What each call of bits.Fits, math/bits.OnesCount32, enc.Sets returns at the classes of near holes.
-/
import Derived.Test.YtjkhgljlipljdaaDoorEncL
namespace Go.Proofs.YtjkhgljlipljdaaDoor
open Go.RowKit
set_option linter.unusedVariables false
set_option linter.unusedSimpArgs false
/-- how many bits a class's distance has -/
def wiN (op : Int) : Int := if op = 8 then 26 else if op = 10 then 14 else if op = 1 then 21 else 19
set_option maxHeartbeats 2000000 in
set_option maxRecDepth 100000 in
theorem count_8 (w : World) :
    Calls Tryd.prog 69 #[.int .u32 67108863] w fun e w' => e = .returned (.int .i64 26) ∧ Below w.heap.size w w' := by
  have q0 : bits .and .u32 1023 255 = 255 := by decide
  have q1 : bits .and .u32 262143 255 = 255 := by decide
  have q2 : bits .and .u32 67108863 255 = 255 := by decide
  go_enter Tryd.func69, Tryd.ntmps69
  go_wp2_with fail
  go_region
  all_goals
    go_wp2_with fail
    go_ret
    exact ⟨rfl, (Below.refl _ w).drew⟩
set_option maxHeartbeats 2000000 in
set_option maxRecDepth 100000 in
theorem count_10 (w : World) :
    Calls Tryd.prog 69 #[.int .u32 524256] w fun e w' => e = .returned (.int .i64 14) ∧ Below w.heap.size w w' := by
  have q0 : bits .and .u32 7 255 = 7 := by decide
  have q1 : bits .and .u32 2047 255 = 255 := by decide
  have q2 : bits .and .u32 524256 255 = 224 := by decide
  go_enter Tryd.func69, Tryd.ntmps69
  go_wp2_with fail
  go_region
  all_goals
    go_wp2_with fail
    go_ret
    exact ⟨rfl, (Below.refl _ w).drew⟩
set_option maxHeartbeats 2000000 in
set_option maxRecDepth 100000 in
theorem count_1 (w : World) :
    Calls Tryd.prog 69 #[.int .u32 1627389920] w fun e w' => e = .returned (.int .i64 21) ∧ Below w.heap.size w w' := by
  have q0 : bits .and .u32 24831 255 = 255 := by decide
  have q1 : bits .and .u32 6356991 255 = 255 := by decide
  have q2 : bits .and .u32 1627389920 255 = 224 := by decide
  go_enter Tryd.func69, Tryd.ntmps69
  go_wp2_with fail
  go_region
  all_goals
    go_wp2_with fail
    go_ret
    exact ⟨rfl, (Below.refl _ w).drew⟩
set_option maxHeartbeats 2000000 in
set_option maxRecDepth 100000 in
theorem count_7 (w : World) :
    Calls Tryd.prog 69 #[.int .u32 16777184] w fun e w' => e = .returned (.int .i64 19) ∧ Below w.heap.size w w' := by
  have q0 : bits .and .u32 255 255 = 255 := by decide
  have q1 : bits .and .u32 65535 255 = 255 := by decide
  have q2 : bits .and .u32 16777184 255 = 224 := by decide
  go_enter Tryd.func69, Tryd.ntmps69
  go_wp2_with fail
  go_region
  all_goals
    go_wp2_with fail
    go_ret
    exact ⟨rfl, (Below.refl _ w).drew⟩
theorem count_any (op : Int) (h : brOp op) (w : World) :
    Calls Tryd.prog 69 #[.int .u32 (mkN op)] w fun e w' => e = .returned (.int .i64 (wiN op)) ∧ Below w.heap.size w w' := by
  rcases h with rfl | rfl | rfl | rfl | rfl
  · exact count_8 w
  · exact count_7 w
  · exact count_10 w
  · exact count_7 w
  · exact count_1 w
end Go.Proofs.YtjkhgljlipljdaaDoor
