/-
  What the five listed variables give: Gd and GI, wherever the row's condition holds; and a world that meets the condition.
-/
import Derived.Test.YtjkhgljlipljdaaDoorEncV
import Derived.Test.YtjkhgljlipljdaaDoorFixDoor
namespace Go.Proofs.YtjkhgljlipljdaaDoor
open Go.ChangeShapes Go.WideShapes Go.ChangeAt Go.RowKit
abbrev lays5 : List (String × DataW Unit) := Rows.fixupOneRow.laid
theorem gOne : Tryd.prog.globalNamed "cooper/inst.one" = some 2 := by kernel_rfl
theorem tOne : (Tryd.prog.globals[2]?).map (·.type) = some 134 := by kernel_rfl
theorem gReg : Tryd.prog.globalNamed "cooper/inst.reg" = some 3 := by kernel_rfl
theorem tReg : (Tryd.prog.globals[3]?).map (·.type) = some 134 := by kernel_rfl
theorem cSpan : Tryd.prog.cellsOf 134 = 2 := by kernel_rfl
set_option maxRecDepth 100000 in
theorem sp_cells {H : Type} {enc : TypeId × Value → H} {w : World} {base : Nat} {sp : Nat → Bool} {held : Bool} {fuel : Nat} {cs : List Value} {a b : Int} {p : List MemPlace}
    (h : DataW.trod enc Tryd.prog w base sp held fuel 134 cs = some (.agg [.lit (.int .i64 a), .lit (.int .i64 b)], p)) : cs = [.int .i64 a, .int .i64 b] := by
  obtain ⟨xs, n, _, e, hl, hlen, hf⟩ := DataW.trod_struct Tryd.underlying134 h
  rw [cSpan] at hl
  have h0 := hf 0 _ rfl
  have h1 := hf 1 _ rfl
  clear hf h
  match cs, hl with
  | [c0, c1], _ =>
    match xs, hlen with
    | [x0, x1], _ =>
      obtain ⟨a0, e0, rfl, _⟩ := DataW.trod_int Tryd.underlying2 (show DataW.trod enc Tryd.prog w base sp held n 2 [c0] = some x0 from h0)
      obtain ⟨a1, e1, rfl, _⟩ := DataW.trod_int Tryd.underlying2 (show DataW.trod enc Tryd.prog w base sp held n 2 [c1] = some x1 from h1)
      have e := (DataW.agg.inj (Prod.mk.inj e).1)
      simp only [List.map_cons, List.map_nil, List.cons.injEq, DataW.lit.injEq, Lit.int.injEq, true_and, and_true] at e0 e1 e
      obtain ⟨q0, q1⟩ := e
      rw [e0, e1, ← q0, ← q1]
set_option maxRecDepth 100000 in
theorem good5_of_laid {W : World} (h : laidMetH Tryd.prog lays5 W) : Gd W ∧ GI W := by
  rw [MakeChecks.laidMetH_plain _ _ _ (by kernel_rfl)] at h
  have h1 := h.tail
  have h2 := h1.tail
  have hs := h2.tail
  have hl := hs.tail
  refine ⟨?_, ?_⟩
  · constructor
    · obtain ⟨ps, ⟨g0, t0, cs0, f0, p0, q0, hg0, ht0, hv0, hd0, _, _⟩, _, _⟩ := hs
      obtain rfl := Option.some.inj (gShp.symm.trans hg0)
      obtain rfl := Option.some.inj (tShp.symm.trans ht0)
      obtain ⟨xs, m1, rfl, hx1, hlen, hn, hel⟩ := DataW.trod_array Tryd.underlying109 hd0
      simp only [cShp] at hel
      have hx2 := (laid_shapes (H := _)).symm.trans (Prod.mk.inj hx1).1
      simp only [DataW.agg.injEq] at hx2
      intro k x hk j v hv
      have hk13 : k < 13 := (List.getElem?_eq_some_iff.1 hk).1
      have h1 := hel k hk13
      have h3 := congrArg (fun l => l[k]?) hx2
      simp only [List.getElem?_map, hk, Option.map_some] at h3
      obtain ⟨y, hy⟩ : ∃ y, xs[k]? = some y := ⟨_, List.getElem?_eq_getElem (by omega)⟩
      rw [hy] at h1 h3
      have h4 : shD x = y.1 := by simpa using h3
      rw [show y = (y.1, y.2) from rfl, ← h4] at h1
      rw [World.var?_cell gShp hv0 (k * 7 + j), ← Array.getElem?_toList]
      have hj7 : j < 7 := (List.getElem?_eq_some_iff.1 hv).1
      exact take7 (sh_cells h1) hv hj7
    · obtain ⟨ps, ⟨g0, t0, cs0, f0, p0, q0, hg0, ht0, hv0, hd0, _, _⟩, _, _⟩ := hl
      obtain rfl := Option.some.inj (gLds.symm.trans hg0)
      obtain rfl := Option.some.inj (tLds.symm.trans ht0)
      obtain ⟨xs, m1, rfl, hx1, hlen, hn, hel⟩ := DataW.trod_array Tryd.underlying110 hd0
      simp only [cInt] at hel
      have hx2 := (laid_loads (H := _)).symm.trans (Prod.mk.inj hx1).1
      simp only [DataW.agg.injEq] at hx2
      intro k x hk
      have hk4 : k < 4 := (List.getElem?_eq_some_iff.1 hk).1
      have h1 := hel k hk4
      have h3 := congrArg (fun l => l[k]?) hx2
      simp only [List.getElem?_map, hk, Option.map_some] at h3
      obtain ⟨y, hy⟩ : ∃ y, xs[k]? = some y := ⟨_, List.getElem?_eq_getElem (by omega)⟩
      rw [hy] at h1 h3
      have h4 : (DataW.lit (.int .i64 x)) = y.1 := by simpa using h3
      obtain ⟨a, e1, e2, _⟩ := DataW.trod_int Tryd.underlying3 h1
      rw [e2] at h4
      injection h4 with h4
      injection h4 with _ h4
      rw [World.var?_cell gLds hv0 k, ← Array.getElem?_toList]
      have h5 := congrArg (fun l => l[0]?) e1
      simp only [Nat.mul_one, List.getElem?_take, List.getElem?_drop, Nat.add_zero] at h5
      rw [h4]
      simpa using h5
  · obtain ⟨ps, ⟨g0, t0, cs0, f0, p0, q0, hg0, ht0, hv0, hd0, _, _⟩, _, _⟩ := h1
    obtain rfl := Option.some.inj (gOne.symm.trans hg0)
    obtain rfl := Option.some.inj (tOne.symm.trans ht0)
    obtain ⟨pr, ⟨gr, tr, csr, fr, pr', qr', hgr, htr, hvr, hdr, _, _⟩, _, _⟩ := h2
    obtain rfl := Option.some.inj (gReg.symm.trans hgr)
    obtain rfl := Option.some.inj (tReg.symm.trans htr)
    have e1 := sp_cells hd0
    have e2 := sp_cells hdr
    refine ⟨?_, ?_, ?_, ?_⟩
    · rw [World.var?_cell gOne hv0 0, ← Array.getElem?_toList, e1]; rfl
    · rw [World.var?_cell gOne hv0 1, ← Array.getElem?_toList, e1]; rfl
    · rw [World.var?_cell gReg hvr 0, ← Array.getElem?_toList, e2]; rfl
    · rw [World.var?_cell gReg hvr 1, ← Array.getElem?_toList, e2]; rfl
set_option maxRecDepth 100000 in
theorem laid_met5 (os : Os) (args : Array Value) : laidMet Tryd.prog lays5 ((World.laidAll Tryd.prog os lays5).forCall (fun _ _ => 0) ⟨#[], args, []⟩).memory :=
  laidMet_laidAll _ (by kernel_rfl) (by kernel_rfl)
end Go.Proofs.YtjkhgljlipljdaaDoor
