/-
  What the listed variables give: Good, wherever the row's condition holds in a world of the program's shape; and a world that meets the condition.
-/
import Derived.Test.YtjmdcimfmmfinaaDoorLexF
import Derived.Test.YtjmdcimfmmfinaaDoorCards
import Derived.Lay
import Derived.LaidMore
import Derived.OpenShut
import Derived.Stop.Joined
import Derived.Stop.LaidErr
import Derived.Deep.DeepHandedRow
import Derived.Deep.DeepWitnessRowRef
import Derived.Lib.LaidTab
namespace Go.Proofs.YtjmdcimfmmfinaaDoor
open Go.ChangeShapes Go.WideShapes Go.ChangeAt Go.RowKit

abbrev lays : List (String × DataW Unit) := Rows.lexRisesRow.laid
theorem own : ownKnob Tryd.prog.godebug = none := by kernel_rfl
theorem gSyn : Tryd.prog.globalNamed "strconv.ErrSyntax" = some 4 := by kernel_rfl
theorem tSyn : (Tryd.prog.globals[4]?).map (·.type) = some 77 := by kernel_rfl
theorem gRng : Tryd.prog.globalNamed "strconv.ErrRange" = some 5 := by kernel_rfl
theorem tRng : (Tryd.prog.globals[5]?).map (·.type) = some 77 := by kernel_rfl
theorem cErr : Tryd.prog.cellsOf 138 = 1 := by kernel_rfl
theorem cStr : Tryd.prog.cellsOf 9 = 1 := by kernel_rfl
theorem starErr : "*" ++ "errors.errorString" = "*errors.errorString" := by decide
theorem rowErr (u : TypeId) (h : Tryd.prog.typeName? 3 u = some "*errors.errorString") : u = 136 :=
  typeName_ptr_named (nm := "errors.errorString") (by rw [starErr]; kernel_rfl) (by kernel_rfl) (by decide) u (by rw [starErr]; exact h)
theorem tPow : (Tryd.prog.globals[0]?).map (·.type) = some 118 := by kernel_rfl
set_option maxRecDepth 100000 in
theorem laid_pow {H : Type} : (Rows.laid_internal_strconv_uint64pow10 : DataW H) = Lib.tabData .u64 Lib.pow10Tab := rfl
theorem var_lt {P : Program} {w : World} {n : String} {g : Nat} {cs : Array Value} (hg : P.globalNamed n = some g) (h : w.var? P n = some cs) : g < w.heap.size := by
  rcases Nat.lt_or_ge g w.heap.size with h1 | h1
  · exact h1
  · simp only [World.var?, hg, Option.bind_some] at h
    rw [Array.getElem?_eq_none h1] at h
    simp at h
set_option maxRecDepth 100000 in
theorem good_of_laid {W : World} (h : laidMetH Tryd.prog lays W) : Good W := by
  rw [MakeChecks.laidMetH_plain _ _ _ (by kernel_rfl)] at h
  have h2 := h.tail.tail
  have h3 := h2.tail
  have h4 := h3.tail
  obtain ⟨a1, s1, hv1, -, -, -⟩ := laid_sentinel h3 gRng tRng Tryd.underlying77 rowErr Tryd.underlying136 Tryd.underlying138 rfl rfl Tryd.underlying9 cErr cStr
  obtain ⟨a2, s2, hv2, -, -, -⟩ := laid_sentinel h4 gSyn tSyn Tryd.underlying77 rowErr Tryd.underlying136 Tryd.underlying138 rfl rfl Tryd.underlying9 cErr cStr
  have c1 := World.var?_cell gRng hv1 0
  have c2 := World.var?_cell gSyn hv2 0
  have n1 := var_lt gRng hv1
  have n2 := var_lt gSyn hv2
  have h2' : laidMet Tryd.prog (("internal/strconv.uint64pow10", Lib.tabData .u64 Lib.pow10Tab) :: _) W := h2
  have hp := Lib.tabIs_of_head gPow tPow Tryd.underlying118 Tryd.underlying28 (by kernel_rfl) (by kernel_rfl) h2'
  exact ⟨by omega, ⟨_, _, c2⟩, ⟨_, _, c1⟩, hp⟩

/-! ### a world that meets the condition -/
set_option maxRecDepth 100000 in
theorem laid_met (os : Os) (args : Array Value) : laidMet Tryd.prog lays ((World.laidAll Tryd.prog os lays).forCall (fun _ _ => 0) ⟨#[], args, []⟩).memory :=
  laidMet_laidAll _ (by kernel_rfl) (by kernel_rfl)
end Go.Proofs.YtjmdcimfmmfinaaDoor
