/-
  What the listed table gives: TrailingZeros64's table lies as its text lays it, wherever the row's condition holds; and the heap that the start leaves meets the condition.
-/
import Derived.Test.YtfpaambihjijoaaDoorRunsS
import Derived.LaidMore
import Derived.OpenShut
import Derived.Stop.Joined
namespace Go.Proofs.YtfpaambihjijoaaDoor
open Go.ChangeShapes Go.WideShapes Go.ChangeAt Go.RowKit BM
abbrev lay1 : List (String × DataW Unit) := [("math/bits.deBruijn64tab", Rows.laid_math_bits_deBruijn64tab)]
theorem own : ownKnob Tryd.prog.godebug = none := by kernel_rfl
theorem gTab : Tryd.prog.globalNamed "math/bits.deBruijn64tab" = some 0 := by kernel_rfl
theorem tTab : (Tryd.prog.globals[0]?).map (·.type) = some 61 := by kernel_rfl
set_option maxRecDepth 100000 in
theorem door_met (os : Os) (args : Array Value) : laidMetH Tryd.prog lay1 ((World.doorLaid Tryd.prog 400 os).forCall (fun _ _ => 0) ⟨#[], args, []⟩).memory :=
  laidMetH_of_parts3 (fuel := 8) (laidMet_of_run' 8 (by kernel_rfl) (by kernel_rfl)) (by kernel_rfl) (by kernel_rfl)
set_option maxRecDepth 100000 in
theorem hL (H : Type) : (Rows.laid_math_bits_deBruijn64tab : DataW H) = .agg (Lib.deBruijn64tab.map fun n => .lit (.int .u8 ((n : Nat) : Int))) := rfl
set_option maxRecDepth 100000 in
theorem of_laid {W : World} (h : laidMetH Tryd.prog lay1 W) : Tab W ∧ 0 < W.heap.size := by
  rw [MakeChecks.laidMetH_plain _ _ _ (by kernel_rfl)] at h
  obtain ⟨ps, ⟨g0, t0, cs0, f0, p0, q0, hg0, ht0, hv0, hd0, _, _⟩, _, _⟩ := h
  obtain rfl := Option.some.inj (gTab.symm.trans hg0)
  obtain rfl := Option.some.inj (tTab.symm.trans ht0)
  obtain ⟨xs, m1, rfl, hx1, hlen, hn, hel⟩ := DataW.trod_array Tryd.underlying61 hd0
  have c1 : Tryd.prog.cellsOf 5 = 1 := by kernel_rfl
  have c64 : Tryd.prog.cellsOf 61 = 64 := by kernel_rfl
  rw [c64] at hlen
  simp only [Prod.mk.injEq] at hx1
  have key : ∀ j, j < 64 → W.cell? ⟨0, j, none⟩ = some (.int .u8 ((Lib.deBruijn64tab.getD j 0 : Nat) : Int)) := by
    intro j hj
    have h1 := hel j hj
    rw [c1, Nat.mul_one] at h1
    have hjc : j < cs0.size := by simpa using (show j < cs0.toList.length by omega)
    have hcell := World.var?_cell hg0 hv0 j
    rw [hcell]
    have hd : (cs0.toList.drop j).take 1 = [cs0[j]] := by
      rw [List.drop_eq_getElem_cons (by simpa using hjc)]; simp
    rw [hd, List.getElem?_eq_getElem (by omega)] at h1
    obtain ⟨k, e1, e2, _⟩ := DataW.trod_int Tryd.underlying5 h1
    have hx2 := (hL _).symm.trans hx1.1
    simp only [DataW.agg.injEq] at hx2
    have h3 := congrArg (fun l => l[j]?) hx2
    simp only [List.getElem?_map] at h3
    rw [List.getElem?_eq_getElem (show j < xs.length by omega), e2] at h3
    have hlt : j < Lib.deBruijn64tab.length := by rw [show Lib.deBruijn64tab.length = 64 by decide]; exact hj
    rw [List.getElem?_eq_getElem hlt, Option.map_some, Option.map_some] at h3
    injection h3 with h3
    injection h3 with h3
    injection h3 with _ h3
    have e3 : cs0[j] = .int .u8 k := by simpa using e1
    rw [Array.getElem?_eq_getElem hjc, e3, ← h3, List.getD_eq_getElem?_getD, List.getElem?_eq_getElem hlt]
    rfl
  refine ⟨key, ?_⟩
  have := key 0 (by decide)
  unfold World.cell? at this
  rcases Nat.lt_or_ge 0 W.heap.size with g | g
  · exact g
  · rw [Array.getElem?_eq_none g] at this; simp at this
end Go.Proofs.YtfpaambihjijoaaDoor
