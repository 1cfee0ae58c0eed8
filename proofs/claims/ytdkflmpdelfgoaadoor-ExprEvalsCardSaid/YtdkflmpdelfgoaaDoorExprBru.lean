/-
  What the listed variables give beside GoodE: cell 15 of the table of math/bits. Conditions: none.
-/
import Derived.Test.YtdkflmpdelfgoaaDoorExprDoor
import Derived.Test.YtdkflmpdelfgoaaDoorExprHexA
namespace Go.Proofs.YtdkflmpdelfgoaaDoor
open Go.ChangeShapes Go.WideShapes Go.ChangeAt Go.RowKit
set_option linter.unusedVariables false
set_option linter.unusedSimpArgs false

def bruTab : List Int := [0, 1, 56, 2, 57, 49, 28, 3, 61, 58, 42, 50, 38, 29, 17, 4, 62, 47, 59, 36, 45, 43, 51, 22, 53, 39, 33, 30, 24, 18, 12, 5, 63, 55, 48, 27, 60, 41, 37, 16, 46, 35, 44, 21, 52, 32, 23, 11, 54, 26, 40, 15, 34, 20, 31, 10, 25, 14, 19, 9, 13, 8, 7, 6]
theorem tBru : (Tryd.prog.globals[3]?).map (·.type) = some 144 := by kernel_rfl
set_option maxRecDepth 100000 in
theorem laid_bru {H : Type} : (Rows.laid_math_bits_deBruijn64tab : DataW H) = Lib.tabData .u8 bruTab := rfl
set_option maxRecDepth 100000 in
theorem bru_of_laid {W : World} (h : laidMetH Tryd.prog lays W) : BruAt W := by
  rw [MakeChecks.laidMetH_plain _ _ _ (by kernel_rfl)] at h
  have h2 : laidMet Tryd.prog (("math/bits.deBruijn64tab", Lib.tabData .u8 bruTab) :: _) W := h.tail
  have hp := Lib.tabIs_of_head gBru tBru Tryd.underlying144 Tryd.underlying5 (by kernel_rfl) (by kernel_rfl) h2
  unfold Lib.TabIs at hp
  unfold BruAt
  rw [World.var?_cell gBru hp _]
  rfl
end Go.Proofs.YtdkflmpdelfgoaaDoor
