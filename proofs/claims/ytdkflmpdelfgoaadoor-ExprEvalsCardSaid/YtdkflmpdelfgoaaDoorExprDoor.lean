/-
  What the listed variables give: GoodE, wherever the row's condition holds in a world of the program's shape; and a world that meets the condition.
-/
import Derived.Test.YtdkflmpdelfgoaaDoorExprH
import Derived.Test.YtdkflmpdelfgoaaDoorCards
import Derived.Lay
import Derived.LaidMore
import Derived.OpenShut
import Derived.Stop.Joined
import Derived.Stop.LaidErr
import Derived.Deep.DeepHandedRow
import Derived.Deep.DeepWitnessRowRef
import Derived.Lib.LaidTab
namespace Go.Proofs.YtdkflmpdelfgoaaDoor
open Go.ChangeShapes Go.WideShapes Go.ChangeAt Go.RowKit
set_option linter.unusedVariables false
set_option linter.unusedSimpArgs false

abbrev lays : List (String × DataW Unit) := Rows.exprNumbersRow.laid
theorem own : ownKnob Tryd.prog.godebug = none := by kernel_rfl
theorem gOps : Tryd.prog.globalNamed "cooper/expr.operators" = some 0 := by kernel_rfl
theorem tOps : (Tryd.prog.globals[0]?).map (·.type) = some 86 := by kernel_rfl
theorem cOp : Tryd.prog.cellsOf 85 = 3 := by kernel_rfl
theorem cOps : Tryd.prog.cellsOf 86 = 45 := by kernel_rfl
theorem tPow : (Tryd.prog.globals[1]?).map (·.type) = some 134 := by kernel_rfl
theorem gBru : Tryd.prog.globalNamed "math/bits.deBruijn64tab" = some 3 := by kernel_rfl
set_option maxRecDepth 100000 in
theorem op_cells {H : Type} {enc : TypeId × Value → H} {w : World} {base : Nat} {sp : Nat → Bool} {held : Bool} {fuel : Nat} {cs : List Value} {l : List UInt8} {a b : Int} {p : List MemPlace}
    (h : DataW.trod enc Tryd.prog w base sp held fuel 85 cs = some (.agg [.lit (.int .i64 a), .lit (.string l), .lit (.int .i64 b)], p)) :
    cs = [.int .i64 a, .string ⟨l.toArray⟩, .int .i64 b] := by
  obtain ⟨xs, n, _, e, hl, hlen, hf⟩ := DataW.trod_struct Tryd.underlying85 h
  rw [cOp] at hl
  have h0 := hf 0 _ rfl
  have h1 := hf 1 _ rfl
  have h2 := hf 2 _ rfl
  clear hf h
  match cs, hl with
  | [c0, c1, c2], _ =>
    match xs, hlen with
    | [x0, x1, x2], _ =>
      obtain ⟨a', e0, rfl, _⟩ := DataW.trod_int Tryd.underlying3 (show DataW.trod enc Tryd.prog w base sp held n 3 [c0] = some x0 from h0)
      obtain ⟨s, e1, rfl, _⟩ := DataW.trod_string Tryd.underlying9 (show DataW.trod enc Tryd.prog w base sp held n 9 [c1] = some x1 from h1)
      obtain ⟨b', e2, rfl, _⟩ := DataW.trod_int Tryd.underlying3 (show DataW.trod enc Tryd.prog w base sp held n 3 [c2] = some x2 from h2)
      have e3 := (DataW.agg.inj (Prod.mk.inj e).1)
      simp only [List.map_cons, List.map_nil, List.cons.injEq, DataW.lit.injEq, Lit.string.injEq, Lit.int.injEq, true_and, and_true] at e0 e1 e2 e3
      obtain ⟨e3, e4, e5⟩ := e3
      rw [e0, e1, e2, e3, e4, e5]
set_option maxRecDepth 100000 in
theorem laid_ops {H : Type} : (Rows.laid_cooper_expr_operators : DataW H) = .agg ((List.range 15).map fun k : Nat => .agg [.lit (.int .i64 ((takesN (k : Int) : Nat) : Int)), .lit (.string (signB k).data.toList), .lit (.int .i64 ((groupN k : Nat) : Int))]) := rfl
set_option maxRecDepth 100000 in
theorem laid_pow {H : Type} : (Rows.laid_internal_strconv_uint64pow10 : DataW H) = Lib.tabData .u64 Lib.pow10Tab := rfl
theorem take3 {l : List Value} {i : Nat} {a b c : Value} (h : (l.drop (i * 3)).take 3 = [a, b, c]) : l[i * 3]? = some a ∧ l[i * 3 + 1]? = some b ∧ l[i * 3 + 2]? = some c := by
  have key : ∀ j, j < 3 → l[i * 3 + j]? = [a, b, c][j]? := by
    intro j hj
    rw [← h, List.getElem?_take, if_pos hj, List.getElem?_drop]
  exact ⟨by simpa using key 0 (by omega), by simpa using key 1 (by omega), by simpa using key 2 (by omega)⟩
theorem var_lt {P : Program} {w : World} {n : String} {g : Nat} {cs : Array Value} (hg : P.globalNamed n = some g) (h : w.var? P n = some cs) : g < w.heap.size := by
  rcases Nat.lt_or_ge g w.heap.size with h1 | h1
  · exact h1
  · simp only [World.var?, hg, Option.bind_some] at h
    rw [Array.getElem?_eq_none h1] at h
    simp at h
set_option maxRecDepth 100000 in
theorem good_of_laid {W : World} (h : laidMetH Tryd.prog lays W) : GoodE W := by
  rw [MakeChecks.laidMetH_plain _ _ _ (by kernel_rfl)] at h
  have h3 := h.tail.tail
  have h4 := h3.tail
  have h3' : laidMet Tryd.prog (("internal/strconv.uint64pow10", Lib.tabData .u64 Lib.pow10Tab) :: _) W := h3
  have hp := Lib.tabIs_of_head gPow tPow Tryd.underlying134 Tryd.underlying50 (by kernel_rfl) (by kernel_rfl) h3'
  obtain ⟨ps, ⟨g0, t0, cs0, f0, p0, q0, hg0, ht0, hv0, hd0, _, _⟩, _, _⟩ := h4
  obtain rfl := Option.some.inj (gOps.symm.trans hg0)
  obtain rfl := Option.some.inj (tOps.symm.trans ht0)
  obtain ⟨xs, m1, rfl, hx1, hlen, hn, hel⟩ := DataW.trod_array Tryd.underlying86 hd0
  rw [cOps] at hlen
  simp only [cOp] at hel
  have hx2 := (laid_ops (H := _)).symm.trans (Prod.mk.inj hx1).1
  simp only [DataW.agg.injEq] at hx2
  refine ⟨?_, ?_, hp⟩
  · obtain ⟨ps', ⟨g3, t3, cs3, f3, p3, q3, hg3, _, hv3, _, _, _⟩, _, _⟩ := h.tail
    obtain rfl := Option.some.inj (gBru.symm.trans hg3)
    have := var_lt hg3 hv3
    omega
  · intro k hk
    have hxk : ∃ x, xs[k]? = some x := ⟨_, List.getElem?_eq_getElem (by omega)⟩
    obtain ⟨x, hx⟩ := hxk
    have e1 := congrArg (fun l => l[k]?) hx2
    simp only [List.getElem?_map, List.getElem?_range hk, hx, Option.map_some, Option.some.injEq] at e1
    have h1 := hel k hk
    rw [hx, show x = (x.1, x.2) from rfl, ← e1] at h1
    obtain ⟨c0, c1, c2⟩ := take3 (op_cells h1)
    rw [World.var?_cell gOps hv0 _, World.var?_cell gOps hv0 _, World.var?_cell gOps hv0 _, ← Array.getElem?_toList, ← Array.getElem?_toList, ← Array.getElem?_toList]
    exact ⟨c0, c1, c2⟩

/-! ### a world that meets the condition -/
set_option maxRecDepth 100000 in
theorem laid_met (os : Os) (args : Array Value) : laidMet Tryd.prog lays ((World.laidAll Tryd.prog os lays).forCall (fun _ _ => 0) ⟨#[], args, []⟩).memory :=
  laidMet_laidAll _ (by kernel_rfl) (by kernel_rfl)
end Go.Proofs.YtdkflmpdelfgoaaDoor
