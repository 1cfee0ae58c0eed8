/-
  As RoundCut, where the first operations may make new memory: all that lay lies as it lay. Of no program.
-/
import Derived.Test.YtbheeahdbimeiaaRoundCut
import Derived.Below
namespace Go.Proofs.Ytbheeahdbimeiaa
open Go.RowKit

/-- a world in which all that lay in w lies as it lay -/
structure BW (w : World) where
  W : World
  h : Below w.heap.size w W
instance (w : World) : Inhabited (BW w) := ⟨⟨w, Below.refl _ w⟩⟩
/-- THE LAW: l = l' ++ rest -/
theorem cut_class {F : Fence} {r n : Nat} {P : Program} {id : Nat} {Q : Exit → Act → World → Prop} {a : Act} {w : World} {l l' rest : List Oper} {C : World → Prop} (hC : C w.drew) (hl : l = l' ++ rest) (hro : F.round = none) (hm : P.follows .mixedOrders = true) (hB : Region.lexB .any l'.toArray = true) (hc : l.toArray.all calmOp = true)
    (hg : l'.all (fun o => o.guard.isNone) = true) (hcut : cutB l' l = true) (hf : forcedB l.toArray rest.length l'.length (Array.replicate l'.length true ++ Array.replicate rest.length false) = true)
    (h : wpQuietIn F n P l'.toArray C (fun a' => ∀ w', C w' → wpListIn (F.inRound r) n P l.toArray Q rest a' w') l' a) : (Code.region id l.toArray true).wpIn (F.inRound r) n P Q a w := by
  simp only [Region.lexB, Bool.and_eq_true] at hB
  have hc' : l'.toArray.all calmOp = true := by
    rw [hl] at hc
    simp only [List.all_toArray, List.all_append, Bool.and_eq_true] at hc ⊢
    exact hc.1
  have hcal := wpAny_round (l := r) hro hc' (F := F) (n := n) (P := P) (md := .any) (Q := thenQ Q fun a w => wpAnyIn (F.inRound r) n P .any l.toArray Q rest.length (Array.replicate l'.length true ++ Array.replicate rest.length false) a w) l'.toArray.size (Array.replicate l'.toArray.size false) a { w with drawn := w.drawn + 1 }
    (wpAnyIn_of_quiet (C := C) (Q := fun a' => ∀ w', C w' → wpListIn (F.inRound r) n P l.toArray Q rest a' w') hro (fun a1 w' hw' hh => by
      show wpAnyIn _ _ _ _ _ _ _ _ _ _
      refine any_list rest l'.length _ a1 w' (fun j hj => ?_) hf (hh w' hw')
      rw [hl]; simp [List.getElem?_append_right]) _ _ _ _ hC (by
      have := wpAnyQIn_lex (F := F) (n := n) (C := C) (md := .any) hB.1 l' 0 (Array.replicate l'.toArray.size false) a (by simp) (by simpa using hB.2) (by simpa using h)
      simpa using this))
  refine wpIn_region_any hm ?_
  have hr := any_cut (F := F.inRound r) (n := n) (P := P) (Q := Q) (l' := l') (l := l) (e := rest.length) (by rw [hl]; simp) (fun i o ho => ⟨by rw [hl, List.getElem?_append_left (List.getElem?_eq_some_iff.1 ho).1]; exact ho, by
    have := List.all_eq_true.1 hg o (List.mem_of_getElem? ho)
    simpa using this⟩) hcut _ _ a _ (by simp) (by
    unfold closedB
    rw [List.all_eq_true]
    intro j hj
    have hjl : j < l'.length := by simpa using hj
    simp [Array.getD_eq_getD_getElem?, hjl]) hcal
  have e1 : (Array.replicate l'.toArray.size false ++ Array.replicate rest.length false : Array Bool) = Array.replicate l.toArray.size false := by
    rw [hl]; simp [Array.replicate_append_replicate]
  have e2 : l'.toArray.size + rest.length = l.toArray.size := by rw [hl]; simp
  rw [e1, e2] at hr
  exact hr
theorem cut_below (k : Nat) {F : Fence} {r n : Nat} {P : Program} {id : Nat} {Q : Exit → Act → World → Prop} {a : Act} {w : World} {l : List Oper} (hro : F.round = none) (hm : P.follows .mixedOrders = true) (hB : Region.lexB .any (l.take k).toArray = true) (hc : l.toArray.all calmOp = true)
    (hg : (l.take k).all (fun o => o.guard.isNone) = true) (hcut : cutB (l.take k) l = true) (hf : forcedB l.toArray (l.drop k).length (l.take k).length (Array.replicate (l.take k).length true ++ Array.replicate (l.drop k).length false) = true)
    (h : wpQuietIn F n P (l.take k).toArray (fun w' => ∃ p : BW w, w' = p.W) (fun a' => ∀ w', (∃ p : BW w, w' = p.W) → wpListIn (F.inRound r) n P l.toArray Q (l.drop k) a' w') (l.take k) a) : (Code.region id l.toArray true).wpIn (F.inRound r) n P Q a w :=
  cut_class (C := fun w' => ∃ p : BW w, w' = p.W) ⟨⟨_, (Below.refl _ w).drew⟩, rfl⟩ (List.take_append_drop k l).symm hro hm hB hc hg hcut hf h
theorem calls_bw {P : Program} {f : FuncId} {args : Array Value} {w : World} {p : BW w} {v : Value} (h : Calls P f args p.W fun e w' => e = .returned v ∧ Below p.W.heap.size p.W w') :
    Calls P f args p.W fun e w' => e = .returned v ∧ ∃ q : BW w, w' = q.W :=
  h.mono fun _ w' ⟨he, hb⟩ => ⟨he, ⟨w', p.h.trans (hb.mono p.h.size)⟩, rfl⟩
theorem bw_cell {w : World} {a : Addr} {v : Value} (h : w.cell? a = some v) (p : BW w) : p.W.cell? a = some v := (p.h.cell (World.block_lt_of_cell? w _ h)).trans h
end Go.Proofs.Ytbheeahdbimeiaa
