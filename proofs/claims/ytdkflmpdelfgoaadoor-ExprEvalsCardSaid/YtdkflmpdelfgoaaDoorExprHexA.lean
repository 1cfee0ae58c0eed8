/-
  The library's steps of FormatUint at base 16: isPowerOfTwo, TrailingZeros. Conditions: the cell of the table that is read.
-/
import Derived.Test.YtdkflmpdelfgoaaDoorExprRefI
namespace Go.Proofs.YtdkflmpdelfgoaaDoor
open Go.RowKit Go.Shelf
set_option linter.unusedVariables false
set_option linter.unusedSimpArgs false
attribute [local go_sem] Oper.semAt_some

/-- the one cell of the table that base 16 reads -/
def BruAt (w : World) : Prop := w.cell? ⟨3, 15, none⟩ = some (.int .u8 4)
set_option maxRecDepth 100000 in
set_option maxHeartbeats 2000000 in
theorem pow2_16 (w : World) :
    Calls Tryd.prog 95 #[.int .i64 16] w fun e w' => e = .returned (.bool true) ∧ w = w' := by
  go_enter Tryd.func95, Tryd.ntmps95
  go_wp2_with fail
  go_ret
  exact ⟨rfl, rfl⟩
set_option maxRecDepth 100000 in
set_option maxHeartbeats 2000000 in
theorem tz64_16 (w : World) (h : BruAt w) :
    Calls Tryd.prog 101 #[.int .u64 16] w fun e w' => e = .returned (.int .i64 4) ∧ w = w' := by
  unfold BruAt at h
  have hb : bits BinOp.and IntKind.u64 16 (IntKind.u64.wrap (-16)) = 16 := by decide +kernel
  have hw : IntKind.u64.wrap (16 * 285870213051353865) = 4573923408821661840 := by decide +kernel
  have hw2 : IntKind.u64.wrap 4573923408821661840 = 4573923408821661840 := by decide +kernel
  go_enter Tryd.func101, Tryd.ntmps101
  go_wp2_with fail
  go_ret
  exact ⟨rfl, rfl⟩
set_option maxRecDepth 100000 in
set_option maxHeartbeats 2000000 in
theorem tz_16 (w : World) (h : BruAt w) :
    Calls Tryd.prog 96 #[.int .u64 16] w fun e w' => e = .returned (.int .i64 4) ∧ w = w' := by
  have TZ := Lib.hid (tz64_16 w h)
  go_enter Tryd.func96, Tryd.ntmps96
  go_wp2_with fail
  refine TZ.out.mono ?_
  rintro e w1 ⟨rfl, rfl⟩
  go_wp2_with fail
  go_ret
  exact ⟨rfl, rfl⟩
end Go.Proofs.YtdkflmpdelfgoaaDoor
