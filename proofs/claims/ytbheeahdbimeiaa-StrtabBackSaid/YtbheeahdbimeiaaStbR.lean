/-
  What the program's Build has when some names are done. No conditions beyond those that each lemma states.
-/
import Derived.Test.YtbheeahdbimeiaaStbQ
import Derived.Laws.MakeOwn
import Derived.Laws.OwnMore
namespace Go.Proofs.Ytbheeahdbimeiaa
open Go.RowKit Go.Maps
set_option linter.unusedVariables false
set_option linter.unusedSimpArgs false

/-- where the names begin that were put, when i of L are done -/
def gB (L : List BA) (i : Nat) (s : BA) : Option Nat := if nmOf s = [] ∨ nmOf s ∈ (nms L).take i then some (posOf (uniq ((nms L).take i)) (nmOf s)) else none
theorem gB_zero (L : List BA) : gB L 0 = g0 := by
  funext s
  unfold gB g0 upd
  by_cases h : s = ⟨#[]⟩
  · rw [if_pos (.inl (nm_nil.2 h)), if_pos h, nm_nil.2 h]; rfl
  · rw [if_neg h, if_neg (by rintro (e | e); exact h (nm_nil.1 e); simp at e)]
theorem gB_old {L : List BA} {i : Nat} {p : Nat} (hi : i < L.length) (h : gB L i (L.getD i default) = some p) : gB L (i + 1) = gB L i ∧ outI L (i + 1) = outI L i := by
  have hm : nmOf (L.getD i default) = [] ∨ nmOf (L.getD i default) ∈ (nms L).take i := Classical.byContradiction fun k => by unfold gB at h; rw [if_neg k] at h; cases h
  have hu : uniq ((nms L).take (i + 1)) = uniq ((nms L).take i) := by
    rw [nms_succ hi, uniq_snoc]
    by_cases h0 : nmOf (L.getD i default) = []
    · rw [if_pos (.inl h0)]
    · rw [if_pos (.inr (uniq_mem.2 ⟨h0, hm.resolve_left h0⟩))]
  refine ⟨?_, by unfold outI; rw [hu]⟩
  funext s
  unfold gB
  rw [hu, nms_succ hi]
  have : (nmOf s = [] ∨ nmOf s ∈ (nms L).take i ++ [nmOf (L.getD i default)]) ↔ (nmOf s = [] ∨ nmOf s ∈ (nms L).take i) := by
    constructor
    · rintro (e | e)
      · exact .inl e
      · rcases List.mem_append.1 e with e | e
        · exact .inr e
        · rw [List.mem_singleton] at e; rw [e]; exact hm
    · rintro (e | e)
      · exact .inl e
      · exact .inr (List.mem_append_left _ e)
  simp only [this]
theorem gB_new {L : List BA} {i : Nat} (hi : i < L.length) (h : gB L i (L.getD i default) = none) : gB L (i + 1) = upd (gB L i) (L.getD i default) (outI L i).length ∧ outI L (i + 1) = outI L i ++ nmOf (L.getD i default) ++ [0] := by
  have hm : ¬ (nmOf (L.getD i default) = [] ∨ nmOf (L.getD i default) ∈ (nms L).take i) := fun k => by unfold gB at h; rw [if_pos k] at h; cases h
  have h0 : nmOf (L.getD i default) ≠ [] := fun e => hm (.inl e)
  have hnu : nmOf (L.getD i default) ∉ uniq ((nms L).take i) := fun e => hm (.inr (uniq_mem.1 e).2)
  have hu : uniq ((nms L).take (i + 1)) = uniq ((nms L).take i) ++ [nmOf (L.getD i default)] := by
    rw [nms_succ hi, uniq_snoc, if_neg (by rintro (e | e); exact h0 e; exact hnu e)]
  refine ⟨?_, by unfold outI; rw [hu, tab_snoc]⟩
  funext s
  unfold upd
  by_cases e : s = L.getD i default
  · rw [if_pos e, e]
    unfold gB
    rw [if_pos (.inr (by rw [nms_succ hi]; simp)), hu, pos_new h0 hnu]
    rfl
  · rw [if_neg e]
    unfold gB
    have hne : nmOf s ≠ nmOf (L.getD i default) := fun k => e (nm_inj k)
    by_cases hs : nmOf s = [] ∨ nmOf s ∈ (nms L).take i
    · rw [if_pos hs, if_pos (hs.imp id (fun k => by rw [nms_succ hi]; exact List.mem_append_left _ k)), hu, pos_mem (hs.elim .inl mem_uniq_take)]
    · rw [if_neg hs, if_neg (fun k => hs (k.imp id (fun k => by
        rw [nms_succ hi] at k
        exact (List.mem_append.1 k).resolve_right (fun k2 => hne (List.mem_singleton.1 k2)))))]
theorem at_next {L : List BA} {i : Nat} (hi : i < L.length) : ∃ p : Nat, gB L (i + 1) (L.getD i default) = some p ∧ atI L (i + 1) = atI L i ++ [(p : Int)] := by
  refine ⟨posOf (uniq ((nms L).take (i + 1))) (nmOf (L.getD i default)), by unfold gB; rw [if_pos (.inr (by rw [nms_succ hi]; simp))], ?_⟩
  unfold atI
  conv => lhs; arg 2; rw [nms_succ hi]
  rw [List.map_append]
  congr 1
  refine List.map_congr_left fun s hs => ?_
  obtain ⟨M, hM⟩ : ∃ M, uniq ((nms L).take (i + 1)) = uniq ((nms L).take i) ++ M := by rw [nms_succ hi]; exact uniq_pre _ _
  rw [hM, pos_mem (mem_uniq_take hs)]
theorem posGo_le (s : Nm) : ∀ (ns : List Nm) (p : Nat), s ∈ ns → posGo s p ns + s.length + 1 ≤ p + (ns.flatMap fun s => s ++ [0]).length
  | [], p, h => by cases h
  | t :: r, p, h => by
    simp only [posGo, List.flatMap_cons, List.length_append, List.length_cons, List.length_nil]
    by_cases e : t = s
    · rw [if_pos e, e]; omega
    · rw [if_neg e]
      have := posGo_le s r (p + t.length + 1) ((List.mem_cons.1 h).resolve_left (fun h => e h.symm))
      omega
theorem pos_le_tab {ns : List Nm} {s : Nm} (h : s = [] ∨ s ∈ ns) : posOf ns s ≤ (tabOf ns).length := by
  unfold posOf tabOf
  by_cases h0 : s = []
  · rw [if_pos h0]; exact Nat.zero_le _
  · rw [if_neg h0, List.length_cons]
    have := posGo_le s ns 1 (h.resolve_left h0)
    omega
theorem gB_le {L : List BA} {i p : Nat} {s : BA} (h : gB L i s = some p) : p ≤ (outI L i).length := by
  unfold gB at h
  by_cases hs : nmOf s = [] ∨ nmOf s ∈ (nms L).take i
  · rw [if_pos hs] at h
    injection h with h
    rw [← h]
    exact pos_le_tab (hs.elim .inl mem_uniq_take)
  · rw [if_neg hs] at h; cases h
/-- the places, as far as they are known -/
def atM (L : List BA) (i : Nat) : Array Value := (inL (atI L i ++ List.replicate (L.length - i) 0)).toArray
theorem atM_size {L : List BA} {i : Nat} (hi : i ≤ L.length) : (atM L i).size = L.length := by
  unfold atM inL
  rw [List.size_toArray, List.length_map, List.length_append, atI_len L hi, List.length_replicate]; omega
theorem atM_set {L : List BA} {i p : Nat} (hi : i < L.length) (h : atI L (i + 1) = atI L i ++ [(p : Int)]) : (atM L i).setIfInBounds i (.int .i64 (p : Int)) = atM L (i + 1) := by
  unfold atM inL
  rw [List.setIfInBounds_toArray]
  congr 1
  rw [h, List.map_append, List.map_append, List.set_append_right _ _ (by rw [List.length_map, atI_len L (by omega)]; exact Nat.le_refl _), List.length_map, atI_len L (by omega), Nat.sub_self, List.map_append, List.append_assoc]
  congr 1
  rw [show L.length - i = (L.length - (i + 1)) + 1 by omega, List.replicate_succ]
  rfl
theorem atM_all (L : List BA) : atM L L.length = (inL (atI L L.length)).toArray := by unfold atM; rw [Nat.sub_self, List.replicate_zero, List.append_nil]
theorem make_ints (n : Nat) (hn : n ≤ 1048576) : ∀ W : World, (Instr.makeSlice 26 (.int .i64 (n : Int)) (.int .i64 (n : Int))).run Try.prog W = .ok (.slice (some ⟨W.heap.size, 0, none⟩) n n) (W.alloc (.cells (inL (List.replicate n 0)).toArray 3)) := by
  obtain ⟨i0, hi, h0, h1, h2⟩ := info_parts infoInt
  intro W
  have := run_make (P := Try.prog) W 26 3 i0 (.int .i64 0) Try.underlying26 hi h0 .i64 .i64 (n : Int) (n : Int) (by omega) (by omega) (by rw [h2]; omega) (by omega)
  have e : madeCells (Value.int .i64 0).cells (((n : Nat) : Int).toNat * i0.size) = (inL (List.replicate n 0)).toArray := by
    rw [h1]
    show madeCells #[Value.int .i64 0] (n * 1) = _
    apply Array.ext'
    rw [toList_madeCells_one, List.toList_toArray, Nat.mul_one]
    simp [inL]
  rw [e] at this
  simpa using this
/-- what the program's Build answers -/
def BldQ (w : World) (L : List BA) (e : Ending) (w' : World) : Prop :=
  ((bldE L ≠ 0 ∧ e = .returned (.tuple #[.slice none 0 0, .slice none 0 0, .int .i64 (bldE L)])) ∨
   (bldE L = 0 ∧ ∃ v1 v2, e = .returned (.tuple #[v1, v2, .int .i64 0]) ∧ BysO w' v1 (outI L L.length) ∧ NusO w' v2 (atI L L.length))) ∧ Below w.heap.size w w'
theorem row_of_block {W : World} {g : Nat} {l : List Int} (h : W.heap[g]? = some (.cells (inL l).toArray 3 (0, 0))) (hl : l.length ≤ maxLen) : NusO W (.slice (some ⟨g, 0, none⟩) l.length l.length) l := by
  refine .inr ⟨g, 0, l.length, by rw [List.length_map], by rw [List.length_map]; exact Nat.le_refl _, hl, heap_lt h, fun k x hx j y hy => ?_⟩
  rw [List.getElem?_map] at hx
  obtain ⟨z, hz, rfl⟩ := Option.map_eq_some_iff.1 hx
  have hj : j = 0 := by
    rcases j with _ | j
    · rfl
    · cases hy
  subst hj
  cases hy
  rw [Lib.cell_of_heap h]
  simp [inL, hz]
theorem row_ne_map {W : World} {B k n b m : Nat} {t : TypeId} {v : Value} {xs : List Value} {D : DW} (h : W.ownsRow B t k v n xs) (hm : OwnPl W b m D) : v.ownBlock = none ∨ v.ownBlock ≠ some b := by
  rcases h.2 with ⟨rfl, _⟩ | ⟨g, cap, cur, rfl, _, hg, _⟩
  · exact .inl rfl
  · right
    intro e
    have : g = b := by injection e
    subst this
    obtain ⟨es, ck, hb⟩ := own_isMap hm
    rw [hb] at hg; cases hg
theorem row_ne_block {W : World} {B k n g : Nat} {t t2 : TypeId} {v : Value} {xs : List Value} {M : Array Value} {z : Nat × Nat} (h : W.ownsRow B t k v n xs) (hm : W.heap[g]? = some (.cells M t2 z)) (ht : t2 ≠ t) : some g ≠ v.ownBlock := by
  rcases h.2 with ⟨rfl, _⟩ | ⟨g', cap, cur, rfl, _, hg, _⟩
  · intro e; cases e
  · intro e
    have : g = g' := by injection e
    subst this
    rw [hm] at hg
    injection hg with e1
    injection e1 with _ e2 _
    exact ht e2
end Go.Proofs.Ytbheeahdbimeiaa
