/-
  DERIVED. GIVEN WITH THE SEED: THE PROGRAM's TIES (one call each: nine closed facts by the kernel) AND EACH ROW's TIE, after the 31st guide's Derived/Test/Toyas{Tie, Card}.lean. No idea stands in it: it is a product of the set-up. Laid BY PROGRAM, IN A SANDBOX (cutbox-door.mjs). By AI agents, Wed Nov 11 2026. No macro, syntax, notation, axiom, sorry.
-/
import Derived.Test.YtjkhgljlipljdaaDoorRows
import Derived.LaidByTextLater
import Derived.SevenTiedAt
import Derived.LaidSub
import Derived.LaidOnce
namespace Go.Proofs.YtjkhgljlipljdaaDoor
open Go
set_option maxRecDepth 100000
theorem seatTie1 : Tryd.prog.laidByTextLater [("math/bits.deBruijn64tab", Rows.laid_math_bits_deBruijn64tab), ("cooper/inst.one", Rows.laid_cooper_inst_one), ("cooper/inst.reg", Rows.laid_cooper_inst_reg), ("cooper/fixup.shapes", Rows.laid_cooper_fixup_shapes), ("cooper/fixup.loads", Rows.laid_cooper_fixup_loads)] [.data, .data, .data, .data, .data] true :=
  Program.laidByTextLater_by_one 46 8 92 (by kernel_rfl) (by kernel_rfl) (by kernel_rfl) (by kernel_rfl) (by kernel_rfl) (by kernel_rfl) (fun _ _ => by kernel_rfl)
theorem noOwnUnsafe : Tryd.pinned.checked.prog.headLifts.contains "ownunsafe" = false := by kernel_rfl
theorem tie : Tryd.prog.laidByTextLater [("cooper/fixup.shapes", Rows.laid_cooper_fixup_shapes), ("cooper/fixup.loads", Rows.laid_cooper_fixup_loads)] [.data, .data] true :=
  Program.laidByTextLater.sub seatTie1 ["cooper/fixup.shapes", "cooper/fixup.loads"] (by kernel_rfl) (by kernel_rfl)
theorem fixupHoles_row_tie : Rows.fixupHolesRow.laidByTextAt .later Tryd.pinned [.data, .data] true :=
  OpenClaim.laidByTextAt_later rfl rfl tie noOwnUnsafe
theorem fixupResolves_row_tie : Rows.fixupResolvesRow.laidByTextAt .later Tryd.pinned [.data, .data] true :=
  OpenClaim.laidByTextAt_later rfl rfl tie noOwnUnsafe
theorem fixupLinked_row_tie : Rows.fixupLinkedRow.laidByTextAt .later Tryd.pinned [.data, .data] true :=
  OpenClaim.laidByTextAt_later rfl rfl tie noOwnUnsafe
theorem tie2 : Tryd.prog.laidByTextLater [("math/bits.deBruijn64tab", Rows.laid_math_bits_deBruijn64tab), ("cooper/inst.one", Rows.laid_cooper_inst_one), ("cooper/inst.reg", Rows.laid_cooper_inst_reg), ("cooper/fixup.shapes", Rows.laid_cooper_fixup_shapes), ("cooper/fixup.loads", Rows.laid_cooper_fixup_loads)] [.data, .data, .data, .data, .data] true :=
  Program.laidByTextLater.sub seatTie1 ["math/bits.deBruijn64tab", "cooper/inst.one", "cooper/inst.reg", "cooper/fixup.shapes", "cooper/fixup.loads"] (by kernel_rfl) (by kernel_rfl)
theorem fixupFills_row_tie : Rows.fixupFillsRow.laidByTextAt .later Tryd.pinned [.data, .data, .data, .data, .data] true :=
  OpenClaim.laidByTextAt_later rfl rfl tie2 noOwnUnsafe
theorem fixupBack_row_tie : Rows.fixupBackRow.laidByTextAt .later Tryd.pinned [.data, .data, .data, .data, .data] true :=
  OpenClaim.laidByTextAt_later rfl rfl tie2 noOwnUnsafe
theorem fixupOne_row_tie : Rows.fixupOneRow.laidByTextAt .later Tryd.pinned [.data, .data, .data, .data, .data] true :=
  OpenClaim.laidByTextAt_later rfl rfl tie2 noOwnUnsafe
theorem fixupHolesUpto_row_tie : Rows.fixupHolesUptoRow.laidByTextAt .later Tryd.pinned [.data, .data] true :=
  OpenClaim.laidByTextAt_later rfl rfl tie noOwnUnsafe
theorem fixupResolvesUpto_row_tie : Rows.fixupResolvesUptoRow.laidByTextAt .later Tryd.pinned [.data, .data] true :=
  OpenClaim.laidByTextAt_later rfl rfl tie noOwnUnsafe
theorem fixupFillsUpto_row_tie : Rows.fixupFillsUptoRow.laidByTextAt .later Tryd.pinned [.data, .data, .data, .data, .data] true :=
  OpenClaim.laidByTextAt_later rfl rfl tie2 noOwnUnsafe
theorem fixupBackUpto_row_tie : Rows.fixupBackUptoRow.laidByTextAt .later Tryd.pinned [.data, .data, .data, .data, .data] true :=
  OpenClaim.laidByTextAt_later rfl rfl tie2 noOwnUnsafe
theorem fixupLinkedUpto_row_tie : Rows.fixupLinkedUptoRow.laidByTextAt .later Tryd.pinned [.data, .data] true :=
  OpenClaim.laidByTextAt_later rfl rfl tie noOwnUnsafe
theorem fixupOneUpto_row_tie : Rows.fixupOneUptoRow.laidByTextAt .later Tryd.pinned [.data, .data, .data, .data, .data] true :=
  OpenClaim.laidByTextAt_later rfl rfl tie2 noOwnUnsafe
end Go.Proofs.YtjkhgljlipljdaaDoor
