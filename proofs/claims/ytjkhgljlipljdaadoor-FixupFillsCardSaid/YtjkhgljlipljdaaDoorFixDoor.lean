/-
  What the listed variables give: Gd, wherever the row's condition holds; and a world that meets the condition.
-/
import Derived.Test.YtjkhgljlipljdaaDoorFixP
import Derived.Test.YtjkhgljlipljdaaDoorCards
import Derived.Test.YtjkhgljlipljdaaDoorTie
import Derived.Lay
import Derived.LaidMore
import Derived.OpenShut
import Derived.Stop.Joined
import Derived.Stop.LaidErr
import Derived.Deep.DeepHandedRow
import Derived.Deep.DeepWitnessRowRef
import Derived.Lib.LaidTab
namespace Go.Proofs.YtjkhgljlipljdaaDoor
open Go.ChangeShapes Go.WideShapes Go.ChangeAt Go.RowKit

abbrev lays : List (String × DataW Unit) := Rows.fixupResolvesRow.laid
theorem own : ownKnob Tryd.prog.godebug = none := by kernel_rfl
theorem gShp : Tryd.prog.globalNamed "cooper/fixup.shapes" = some 0 := by kernel_rfl
theorem tShp : (Tryd.prog.globals[0]?).map (·.type) = some 109 := by kernel_rfl
theorem gLds : Tryd.prog.globalNamed "cooper/fixup.loads" = some 1 := by kernel_rfl
theorem tLds : (Tryd.prog.globals[1]?).map (·.type) = some 110 := by kernel_rfl
theorem cShp : Tryd.prog.cellsOf 71 = 7 := by kernel_rfl
theorem cShps : Tryd.prog.cellsOf 109 = 91 := by kernel_rfl
theorem cInt : Tryd.prog.cellsOf 3 = 1 := by kernel_rfl
theorem cI64 : Tryd.prog.cellsOf 2 = 1 := by kernel_rfl
theorem cLds : Tryd.prog.cellsOf 110 = 4 := by kernel_rfl
def shD {H : Type} (x : Sh) : DataW H := .agg [.lit (.int .i64 x.w), .lit (.int .i64 x.p), .lit (.int .i64 x.f), .lit (.int .i64 x.o), .lit (.int .i64 x.l), .lit (.int .i64 x.m), .lit (.int .i64 x.t)]
set_option maxRecDepth 100000 in
theorem laid_shapes {H : Type} : (Rows.laid_cooper_fixup_shapes : DataW H) = .agg (tabL.map shD) := rfl
set_option maxRecDepth 100000 in
theorem laid_loads {H : Type} : (Rows.laid_cooper_fixup_loads : DataW H) = .agg (loadsL.map fun x => .lit (.int .i64 x)) := rfl
set_option maxRecDepth 100000 in
theorem sh_cells {H : Type} {enc : TypeId × Value → H} {w : World} {base : Nat} {sp : Nat → Bool} {held : Bool} {fuel : Nat} {cs : List Value} {x : Sh} {p : List MemPlace}
    (h : DataW.trod enc Tryd.prog w base sp held fuel 71 cs = some (shD x, p)) : cs = shC x := by
  obtain ⟨xs, n, _, e, hl, hlen, hf⟩ := DataW.trod_struct Tryd.underlying71 h
  rw [cShp] at hl
  have h0 := hf 0 _ rfl
  have h1 := hf 1 _ rfl
  have h2 := hf 2 _ rfl
  have h3 := hf 3 _ rfl
  have h4 := hf 4 _ rfl
  have h5 := hf 5 _ rfl
  have h6 := hf 6 _ rfl
  clear hf h
  match cs, hl with
  | [c0, c1, c2, c3, c4, c5, c6], _ =>
    match xs, hlen with
    | [x0, x1, x2, x3, x4, x5, x6], _ =>
      obtain ⟨a0, e0, rfl, _⟩ := DataW.trod_int Tryd.underlying3 (show DataW.trod enc Tryd.prog w base sp held n 3 [c0] = some x0 from h0)
      obtain ⟨a1, e1, rfl, _⟩ := DataW.trod_int Tryd.underlying3 (show DataW.trod enc Tryd.prog w base sp held n 3 [c1] = some x1 from h1)
      obtain ⟨a2, e2, rfl, _⟩ := DataW.trod_int Tryd.underlying3 (show DataW.trod enc Tryd.prog w base sp held n 3 [c2] = some x2 from h2)
      obtain ⟨a3, e3, rfl, _⟩ := DataW.trod_int Tryd.underlying3 (show DataW.trod enc Tryd.prog w base sp held n 3 [c3] = some x3 from h3)
      obtain ⟨a4, e4, rfl, _⟩ := DataW.trod_int Tryd.underlying2 (show DataW.trod enc Tryd.prog w base sp held n 2 [c4] = some x4 from h4)
      obtain ⟨a5, e5, rfl, _⟩ := DataW.trod_int Tryd.underlying2 (show DataW.trod enc Tryd.prog w base sp held n 2 [c5] = some x5 from h5)
      obtain ⟨a6, e6, rfl, _⟩ := DataW.trod_int Tryd.underlying2 (show DataW.trod enc Tryd.prog w base sp held n 2 [c6] = some x6 from h6)
      have e := (DataW.agg.inj (Prod.mk.inj e).1)
      simp only [List.map_cons, List.map_nil, List.cons.injEq, DataW.lit.injEq, Lit.int.injEq, true_and, and_true] at e0 e1 e2 e3 e4 e5 e6 e
      obtain ⟨q0, q1, q2, q3, q4, q5, q6⟩ := e
      rw [e0, e1, e2, e3, e4, e5, e6, ← q0, ← q1, ← q2, ← q3, ← q4, ← q5, ← q6]
      rfl
theorem take7 {l m : List Value} {i : Nat} (h : (l.drop (i * 7)).take 7 = m) {j : Nat} {v : Value} (hv : m[j]? = some v) (hj : j < 7) : l[i * 7 + j]? = some v := by
  rw [← h, List.getElem?_take, if_pos hj, List.getElem?_drop] at hv
  exact hv
set_option maxRecDepth 100000 in
theorem good_of_laid {W : World} (h : laidMetH Tryd.prog lays W) : Gd W := by
  rw [MakeChecks.laidMetH_plain _ _ _ (by kernel_rfl)] at h
  have h2 := h.tail
  constructor
  · obtain ⟨ps, ⟨g0, t0, cs0, f0, p0, q0, hg0, ht0, hv0, hd0, _, _⟩, _, _⟩ := h
    obtain rfl := Option.some.inj (gShp.symm.trans hg0)
    obtain rfl := Option.some.inj (tShp.symm.trans ht0)
    obtain ⟨xs, m1, rfl, hx1, hlen, hn, hel⟩ := DataW.trod_array Tryd.underlying109 hd0
    simp only [cShp] at hel
    have hx2 := (laid_shapes (H := _)).symm.trans (Prod.mk.inj hx1).1
    simp only [DataW.agg.injEq] at hx2
    intro k x hk j v hv
    have hk13 : k < 13 := (List.getElem?_eq_some_iff.1 hk).1
    have h1 := hel k hk13
    have h3 := congrArg (fun l => l[k]?) hx2
    simp only [List.getElem?_map, hk, Option.map_some] at h3
    obtain ⟨y, hy⟩ : ∃ y, xs[k]? = some y := ⟨_, List.getElem?_eq_getElem (by omega)⟩
    rw [hy] at h1 h3
    have h4 : shD x = y.1 := by simpa using h3
    rw [show y = (y.1, y.2) from rfl, ← h4] at h1
    rw [World.var?_cell gShp hv0 (k * 7 + j), ← Array.getElem?_toList]
    have hj7 : j < 7 := (List.getElem?_eq_some_iff.1 hv).1
    exact take7 (sh_cells h1) hv hj7
  · obtain ⟨ps, ⟨g0, t0, cs0, f0, p0, q0, hg0, ht0, hv0, hd0, _, _⟩, _, _⟩ := h2
    obtain rfl := Option.some.inj (gLds.symm.trans hg0)
    obtain rfl := Option.some.inj (tLds.symm.trans ht0)
    obtain ⟨xs, m1, rfl, hx1, hlen, hn, hel⟩ := DataW.trod_array Tryd.underlying110 hd0
    simp only [cInt] at hel
    have hx2 := (laid_loads (H := _)).symm.trans (Prod.mk.inj hx1).1
    simp only [DataW.agg.injEq] at hx2
    intro k x hk
    have hk4 : k < 4 := (List.getElem?_eq_some_iff.1 hk).1
    have h1 := hel k hk4
    have h3 := congrArg (fun l => l[k]?) hx2
    simp only [List.getElem?_map, hk, Option.map_some] at h3
    obtain ⟨y, hy⟩ : ∃ y, xs[k]? = some y := ⟨_, List.getElem?_eq_getElem (by omega)⟩
    rw [hy] at h1 h3
    have h4 : (DataW.lit (.int .i64 x)) = y.1 := by simpa using h3
    obtain ⟨a, e1, e2, _⟩ := DataW.trod_int Tryd.underlying3 h1
    rw [e2] at h4
    injection h4 with h4
    injection h4 with _ h4
    rw [World.var?_cell gLds hv0 k, ← Array.getElem?_toList]
    have h5 := congrArg (fun l => l[0]?) e1
    simp only [Nat.mul_one, List.getElem?_take, List.getElem?_drop, Nat.add_zero] at h5
    rw [h4]
    simpa using h5

/-! ### a world that meets the condition -/
set_option maxRecDepth 100000 in
theorem laid_met (os : Os) (args : Array Value) : laidMet Tryd.prog lays ((World.laidAll Tryd.prog os lays).forCall (fun _ _ => 0) ⟨#[], args, []⟩).memory :=
  laidMet_laidAll _ (by kernel_rfl) (by kernel_rfl)
end Go.Proofs.YtjkhgljlipljdaaDoor
