/-
  What the listed variables give: Good, wherever the row's condition holds in a world of the program's shape; and a world that meets the condition.
-/
import Derived.Test.YtefglodkcddgiaaDoorNamesS
import Derived.Test.YtefglodkcddgiaaDoorCards
import Derived.Lay
import Derived.LaidMore
import Derived.OpenShut
import Derived.Stop.Joined
import Derived.Stop.LaidErr
import Derived.Deep.DeepHandedRow
import Derived.Deep.DeepWitnessRowRef
import Derived.Lib.LaidTab
namespace Go.Proofs.YtefglodkcddgiaaDoor
open Go.ChangeShapes Go.WideShapes Go.ChangeAt Go.RowKit

abbrev lays : List (String × DataW Unit) := Rows.namesRegsRow.laid
theorem own : ownKnob Tryd.prog.godebug = none := by kernel_rfl
theorem gSyn : Tryd.prog.globalNamed "strconv.ErrSyntax" = some 1 := by kernel_rfl
theorem tSyn : (Tryd.prog.globals[1]?).map (·.type) = some 58 := by kernel_rfl
theorem gRng : Tryd.prog.globalNamed "strconv.ErrRange" = some 2 := by kernel_rfl
theorem tRng : (Tryd.prog.globals[2]?).map (·.type) = some 58 := by kernel_rfl
theorem cErr : Tryd.prog.cellsOf 128 = 1 := by kernel_rfl
theorem cStr : Tryd.prog.cellsOf 9 = 1 := by kernel_rfl
theorem starErr : "*" ++ "errors.errorString" = "*errors.errorString" := by decide
theorem rowErr (u : TypeId) (h : Tryd.prog.typeName? 3 u = some "*errors.errorString") : u = 126 :=
  typeName_ptr_named (nm := "errors.errorString") (by rw [starErr]; kernel_rfl) (by kernel_rfl) (by decide) u (by rw [starErr]; exact h)
theorem gPar : Tryd.prog.globalNamed "cooper/names.parts" = some 0 := by kernel_rfl
theorem tPar : (Tryd.prog.globals[0]?).map (·.type) = some 66 := by kernel_rfl
theorem cPar : Tryd.prog.cellsOf 65 = 3 := by kernel_rfl
theorem cPars : Tryd.prog.cellsOf 66 = 15 := by kernel_rfl

set_option maxRecDepth 100000 in
theorem part_cells {H : Type} {enc : TypeId × Value → H} {w : World} {base : Nat} {sp : Nat → Bool} {held : Bool} {fuel : Nat} {cs : List Value} {l : List UInt8} {a b : Int} {p : List MemPlace}
    (h : DataW.trod enc Tryd.prog w base sp held fuel 65 cs = some (.agg [.lit (.string l), .lit (.int .i64 a), .lit (.int .i64 b)], p)) :
    cs = [.string ⟨l.toArray⟩, .int .i64 a, .int .i64 b] := by
  obtain ⟨xs, n, _, e, hl, hlen, hf⟩ := DataW.trod_struct Tryd.underlying65 h
  rw [cPar] at hl
  have h0 := hf 0 _ rfl
  have h1 := hf 1 _ rfl
  have h2 := hf 2 _ rfl
  clear hf h
  match cs, hl with
  | [c0, c1, c2], _ =>
    match xs, hlen with
    | [x0, x1, x2], _ =>
      obtain ⟨s, e0, rfl, _⟩ := DataW.trod_string Tryd.underlying9 (show DataW.trod enc Tryd.prog w base sp held n 9 [c0] = some x0 from h0)
      obtain ⟨a', e1, rfl, _⟩ := DataW.trod_int Tryd.underlying2 (show DataW.trod enc Tryd.prog w base sp held n 2 [c1] = some x1 from h1)
      obtain ⟨b', e2, rfl, _⟩ := DataW.trod_int Tryd.underlying3 (show DataW.trod enc Tryd.prog w base sp held n 3 [c2] = some x2 from h2)
      have e3 := (DataW.agg.inj (Prod.mk.inj e).1)
      simp only [List.map_cons, List.map_nil, List.cons.injEq, DataW.lit.injEq, Lit.string.injEq, Lit.int.injEq, true_and, and_true] at e0 e1 e2 e3
      obtain ⟨e3, e4, e5⟩ := e3
      rw [e0, e1, e2, e3, e4, e5]
set_option maxRecDepth 100000 in
theorem laid_parts {H : Type} : (Rows.laid_cooper_names_parts : DataW H) = .agg [.agg [.lit (.string [115]), .lit (.int .i64 2), .lit (.int .i64 1)], .agg [.lit (.string []), .lit (.int .i64 0), .lit (.int .i64 3)], .agg [.lit (.string [99]), .lit (.int .i64 0), .lit (.int .i64 4)], .agg [.lit (.string [99]), .lit (.int .i64 0), .lit (.int .i64 4)], .agg [.lit (.string []), .lit (.int .i64 0), .lit (.int .i64 3)]] := rfl
theorem take3 {l : List Value} {i : Nat} {a b c : Value} (h : (l.drop (i * 3)).take 3 = [a, b, c]) : l[i * 3]? = some a ∧ l[i * 3 + 1]? = some b ∧ l[i * 3 + 2]? = some c := by
  have key : ∀ j, j < 3 → l[i * 3 + j]? = [a, b, c][j]? := by
    intro j hj
    rw [← h, List.getElem?_take, if_pos hj, List.getElem?_drop]
  exact ⟨by simpa using key 0 (by omega), by simpa using key 1 (by omega), by simpa using key 2 (by omega)⟩
theorem var_lt {P : Program} {w : World} {n : String} {g : Nat} {cs : Array Value} (hg : P.globalNamed n = some g) (h : w.var? P n = some cs) : g < w.heap.size := by
  rcases Nat.lt_or_ge g w.heap.size with h1 | h1
  · exact h1
  · simp only [World.var?, hg, Option.bind_some] at h
    rw [Array.getElem?_eq_none h1] at h
    simp at h
set_option maxRecDepth 100000 in
theorem good_of_laid {W : World} (h : laidMetH Tryd.prog lays W) (hsh : W.ShapedOpen Tryd.prog) : Good W := by
  rw [MakeChecks.laidMetH_plain _ _ _ (by kernel_rfl)] at h
  have h4 := h.tail.tail.tail.tail
  have h5 := h4.tail
  have h6 := h5.tail
  obtain ⟨a1, s1, hv1, -, -, -⟩ := laid_sentinel h4 gRng tRng Tryd.underlying58 rowErr Tryd.underlying126 Tryd.underlying128 rfl rfl Tryd.underlying9 cErr cStr
  obtain ⟨a2, s2, hv2, -, -, -⟩ := laid_sentinel h5 gSyn tSyn Tryd.underlying58 rowErr Tryd.underlying126 Tryd.underlying128 rfl rfl Tryd.underlying9 cErr cStr
  have c1 := World.var?_cell gRng hv1 0
  have c2 := World.var?_cell gSyn hv2 0
  obtain ⟨m, hm⟩ := Tryd.laysM146.s1_3 W hsh
  obtain ⟨ps, ⟨g0, t0, cs0, f0, p0, q0, hg0, ht0, hv0, hd0, _, _⟩, _, _⟩ := h6
  obtain rfl := Option.some.inj (gPar.symm.trans hg0)
  obtain rfl := Option.some.inj (tPar.symm.trans ht0)
  obtain ⟨xs, m1, rfl, hx1, hlen, hn, hel⟩ := DataW.trod_array Tryd.underlying66 hd0
  rw [cPars] at hlen
  simp only [cPar] at hel
  have hx2 := (laid_parts (H := _)).symm.trans (Prod.mk.inj hx1).1
  simp only [DataW.agg.injEq] at hx2
  match xs, hn with
  | [x0, x1, x2, x3, x4], _ =>
    simp only [List.map_cons, List.map_nil, List.cons.injEq, and_true] at hx2
    obtain ⟨y0, y1, y2, y3, y4⟩ := hx2
    have P : ∀ (i : Nat) (l : List UInt8) (a b : Int) (x : DataW Unit × List MemPlace), i < 5 → [x0, x1, x2, x3, x4][i]? = some x → DataW.agg [.lit (.string l), .lit (.int .i64 a), .lit (.int .i64 b)] = x.1 →
        cs0.toList[i * 3]? = some (.string ⟨l.toArray⟩) ∧ cs0.toList[i * 3 + 1]? = some (.int .i64 a) ∧ cs0.toList[i * 3 + 2]? = some (.int .i64 b) := by
      intro i l a b x hi hx he
      have h1 := hel i hi
      rw [hx, show x = (x.1, x.2) from rfl, ← he] at h1
      exact take3 (part_cells h1)
    have P0 := P 0 _ _ _ _ (by decide) rfl y0
    have P1 := P 1 _ _ _ _ (by decide) rfl y1
    have P2 := P 2 _ _ _ _ (by decide) rfl y2
    have P3 := P 3 _ _ _ _ (by decide) rfl y3
    have P4 := P 4 _ _ _ _ (by decide) rfl y4
    refine ⟨?_, ⟨_, _, c2⟩, ⟨_, _, c1⟩, ⟨m, hm⟩, ?_⟩
    · obtain ⟨ps', ⟨g3, t3, cs3, f3, p3, q3, hg3, _, hv3, _, _, _⟩, _, _⟩ := h.tail.tail.tail
      obtain rfl := Option.some.inj ((show Tryd.prog.globalNamed "unicode/utf8.acceptRanges" = some 8 by kernel_rfl).symm.trans hg3)
      have := var_lt hg3 hv3
      omega
    · intro j v hj
      rw [World.var?_cell gPar hv0 j, ← Array.getElem?_toList]
      match j, hj with
      | 0, hj => obtain rfl := Option.some.inj hj; exact P0.1
      | 1, hj => obtain rfl := Option.some.inj hj; exact P0.2.1
      | 2, hj => obtain rfl := Option.some.inj hj; exact P0.2.2
      | 3, hj => obtain rfl := Option.some.inj hj; exact P1.1
      | 4, hj => obtain rfl := Option.some.inj hj; exact P1.2.1
      | 5, hj => obtain rfl := Option.some.inj hj; exact P1.2.2
      | 6, hj => obtain rfl := Option.some.inj hj; exact P2.1
      | 7, hj => obtain rfl := Option.some.inj hj; exact P2.2.1
      | 8, hj => obtain rfl := Option.some.inj hj; exact P2.2.2
      | 9, hj => obtain rfl := Option.some.inj hj; exact P3.1
      | 10, hj => obtain rfl := Option.some.inj hj; exact P3.2.1
      | 11, hj => obtain rfl := Option.some.inj hj; exact P3.2.2
      | 12, hj => obtain rfl := Option.some.inj hj; exact P4.1
      | 13, hj => obtain rfl := Option.some.inj hj; exact P4.2.1
      | 14, hj => obtain rfl := Option.some.inj hj; exact P4.2.2
      | _ + 15, hj => cases hj

/-! ### a world that meets the condition -/
set_option maxRecDepth 100000 in
theorem laid_met (os : Os) (args : Array Value) : laidMet Tryd.prog lays ((World.laidAll Tryd.prog os lays).forCall (fun _ _ => 0) ⟨#[], args, []⟩).memory :=
  laidMet_laidAll _ (by kernel_rfl) (by kernel_rfl)
end Go.Proofs.YtefglodkcddgiaaDoor
