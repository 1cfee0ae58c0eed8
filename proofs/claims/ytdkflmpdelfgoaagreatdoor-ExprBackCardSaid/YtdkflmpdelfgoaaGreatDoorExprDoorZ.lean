/-
  What the listed variables give: Good and GoodE, wherever the row's condition holds in a world of the program's shape; and a world that meets the condition.
-/
import Derived.Test.YtdkflmpdelfgoaaGreatDoorExprH
import Derived.Test.YtdkflmpdelfgoaaGreatDoorLexF
import Derived.Test.YtdkflmpdelfgoaaGreatDoorCards
import Derived.Lay
import Derived.LaidMore
import Derived.OpenShut
import Derived.Stop.Joined
import Derived.Stop.LaidErr
import Derived.Deep.DeepHandedRow
import Derived.Deep.DeepWitnessRowRef
import Derived.Lib.LaidTab
namespace Go.Proofs.YtdkflmpdelfgoaaGreatDoor
open Go.ChangeShapes Go.WideShapes Go.ChangeAt Go.RowKit
set_option linter.unusedVariables false
set_option linter.unusedSimpArgs false

abbrev lays : List (String × DataW Unit) := Rows.exprSaidRow.laid
theorem own : ownKnob Tryz.prog.godebug = none := by kernel_rfl
theorem gOps : Tryz.prog.globalNamed "cooper/expr.operators" = some 0 := by kernel_rfl
theorem tOps : (Tryz.prog.globals[0]?).map (·.type) = some 77 := by kernel_rfl
theorem cOp : Tryz.prog.cellsOf 76 = 3 := by kernel_rfl
theorem cOps : Tryz.prog.cellsOf 77 = 45 := by kernel_rfl
theorem tPow : (Tryz.prog.globals[1]?).map (·.type) = some 143 := by kernel_rfl
theorem gBru : Tryz.prog.globalNamed "math/bits.deBruijn64tab" = some 3 := by kernel_rfl
set_option maxRecDepth 100000 in
theorem op_cells {H : Type} {enc : TypeId × Value → H} {w : World} {base : Nat} {sp : Nat → Bool} {held : Bool} {fuel : Nat} {cs : List Value} {l : List UInt8} {a b : Int} {p : List MemPlace}
    (h : DataW.trod enc Tryz.prog w base sp held fuel 76 cs = some (.agg [.lit (.int .i64 a), .lit (.string l), .lit (.int .i64 b)], p)) :
    cs = [.int .i64 a, .string ⟨l.toArray⟩, .int .i64 b] := by
  obtain ⟨xs, n, _, e, hl, hlen, hf⟩ := DataW.trod_struct Tryz.underlying76 h
  rw [cOp] at hl
  have h0 := hf 0 _ rfl
  have h1 := hf 1 _ rfl
  have h2 := hf 2 _ rfl
  clear hf h
  match cs, hl with
  | [c0, c1, c2], _ =>
    match xs, hlen with
    | [x0, x1, x2], _ =>
      obtain ⟨a', e0, rfl, _⟩ := DataW.trod_int Tryz.underlying3 (show DataW.trod enc Tryz.prog w base sp held n 3 [c0] = some x0 from h0)
      obtain ⟨s, e1, rfl, _⟩ := DataW.trod_string Tryz.underlying9 (show DataW.trod enc Tryz.prog w base sp held n 9 [c1] = some x1 from h1)
      obtain ⟨b', e2, rfl, _⟩ := DataW.trod_int Tryz.underlying3 (show DataW.trod enc Tryz.prog w base sp held n 3 [c2] = some x2 from h2)
      have e3 := (DataW.agg.inj (Prod.mk.inj e).1)
      simp only [List.map_cons, List.map_nil, List.cons.injEq, DataW.lit.injEq, Lit.string.injEq, Lit.int.injEq, true_and, and_true] at e0 e1 e2 e3
      obtain ⟨e3, e4, e5⟩ := e3
      rw [e0, e1, e2, e3, e4, e5]
set_option maxRecDepth 100000 in
theorem laid_ops {H : Type} : (Rows.laid_cooper_expr_operators : DataW H) = .agg ((List.range 15).map fun k : Nat => .agg [.lit (.int .i64 ((takesN (k : Int) : Nat) : Int)), .lit (.string (signB k).data.toList), .lit (.int .i64 ((groupN k : Nat) : Int))]) := rfl
set_option maxRecDepth 100000 in
theorem laid_pow {H : Type} : (Rows.laid_internal_strconv_uint64pow10 : DataW H) = Lib.tabData .u64 Lib.pow10Tab := rfl
theorem take3 {l : List Value} {i : Nat} {a b c : Value} (h : (l.drop (i * 3)).take 3 = [a, b, c]) : l[i * 3]? = some a ∧ l[i * 3 + 1]? = some b ∧ l[i * 3 + 2]? = some c := by
  have key : ∀ j, j < 3 → l[i * 3 + j]? = [a, b, c][j]? := by
    intro j hj
    rw [← h, List.getElem?_take, if_pos hj, List.getElem?_drop]
  exact ⟨by simpa using key 0 (by omega), by simpa using key 1 (by omega), by simpa using key 2 (by omega)⟩
theorem var_lt {P : Program} {w : World} {n : String} {g : Nat} {cs : Array Value} (hg : P.globalNamed n = some g) (h : w.var? P n = some cs) : g < w.heap.size := by
  rcases Nat.lt_or_ge g w.heap.size with h1 | h1
  · exact h1
  · simp only [World.var?, hg, Option.bind_some] at h
    rw [Array.getElem?_eq_none h1] at h
    simp at h
theorem gSyn : Tryz.prog.globalNamed "strconv.ErrSyntax" = some 4 := by kernel_rfl
theorem tSyn : (Tryz.prog.globals[4]?).map (·.type) = some 79 := by kernel_rfl
theorem gRng : Tryz.prog.globalNamed "strconv.ErrRange" = some 5 := by kernel_rfl
theorem tRng : (Tryz.prog.globals[5]?).map (·.type) = some 79 := by kernel_rfl
theorem cErr : Tryz.prog.cellsOf 165 = 1 := by kernel_rfl
theorem cStr : Tryz.prog.cellsOf 9 = 1 := by kernel_rfl
theorem starErr : "*" ++ "errors.errorString" = "*errors.errorString" := by decide
theorem rowErr (u : TypeId) (h : Tryz.prog.typeName? 3 u = some "*errors.errorString") : u = 163 :=
  typeName_ptr_named (nm := "errors.errorString") (by rw [starErr]; kernel_rfl) (by kernel_rfl) (by decide) u (by rw [starErr]; exact h)
set_option maxRecDepth 100000 in
theorem good_of_laid {W : World} (h : laidMetH Tryz.prog lays W) : Good W ∧ GoodE W := by
  rw [MakeChecks.laidMetH_plain _ _ _ (by kernel_rfl)] at h
  have h2 := h.tail.tail
  have h3 := h2.tail
  have h4 := h3.tail
  have h5 := h4.tail
  obtain ⟨a1, s1, hv1, -, -, -⟩ := laid_sentinel h3 gRng tRng Tryz.underlying79 rowErr Tryz.underlying163 Tryz.underlying165 rfl rfl Tryz.underlying9 cErr cStr
  obtain ⟨a2, s2, hv2, -, -, -⟩ := laid_sentinel h4 gSyn tSyn Tryz.underlying79 rowErr Tryz.underlying163 Tryz.underlying165 rfl rfl Tryz.underlying9 cErr cStr
  have c1 := World.var?_cell gRng hv1 0
  have c2 := World.var?_cell gSyn hv2 0
  have n1 := var_lt gRng hv1
  have n2 := var_lt gSyn hv2
  have h2' : laidMet Tryz.prog (("internal/strconv.uint64pow10", Lib.tabData .u64 Lib.pow10Tab) :: _) W := h2
  have hp := Lib.tabIs_of_head gPow tPow Tryz.underlying143 Tryz.underlying60 (by kernel_rfl) (by kernel_rfl) h2'
  refine ⟨⟨by omega, ⟨_, _, c2⟩, ⟨_, _, c1⟩, hp⟩, ?_⟩
  obtain ⟨ps, ⟨g0, t0, cs0, f0, p0, q0, hg0, ht0, hv0, hd0, _, _⟩, _, _⟩ := h5
  obtain rfl := Option.some.inj (gOps.symm.trans hg0)
  obtain rfl := Option.some.inj (tOps.symm.trans ht0)
  obtain ⟨xs, m1, rfl, hx1, hlen, hn, hel⟩ := DataW.trod_array Tryz.underlying77 hd0
  rw [cOps] at hlen
  simp only [cOp] at hel
  have hx2 := (laid_ops (H := _)).symm.trans (Prod.mk.inj hx1).1
  simp only [DataW.agg.injEq] at hx2
  refine ⟨by omega, ?_, hp⟩
  · intro k hk
    have hxk : ∃ x, xs[k]? = some x := ⟨_, List.getElem?_eq_getElem (by omega)⟩
    obtain ⟨x, hx⟩ := hxk
    have e1 := congrArg (fun l => l[k]?) hx2
    simp only [List.getElem?_map, List.getElem?_range hk, hx, Option.map_some, Option.some.injEq] at e1
    have h1 := hel k hk
    rw [hx, show x = (x.1, x.2) from rfl, ← e1] at h1
    obtain ⟨c0, c1, c2⟩ := take3 (op_cells h1)
    rw [World.var?_cell gOps hv0 _, World.var?_cell gOps hv0 _, World.var?_cell gOps hv0 _, ← Array.getElem?_toList, ← Array.getElem?_toList, ← Array.getElem?_toList]
    exact ⟨c0, c1, c2⟩

/-! ### a world that meets the condition -/
set_option maxRecDepth 100000 in
theorem laid_met (os : Os) (args : Array Value) : laidMet Tryz.prog lays ((World.laidAll Tryz.prog os lays).forCall (fun _ _ => 0) ⟨#[], args, []⟩).memory :=
  laidMet_laidAll _ (by kernel_rfl) (by kernel_rfl)
end Go.Proofs.YtdkflmpdelfgoaaGreatDoor
