/-
  What the document's Build has when some names are done. No conditions beyond those that each lemma states.
-/
import Derived.Test.YtbheeahdbimeiaaStbB
import Derived.Test.YtbheeahdbimeiaaStbM
namespace Go.Proofs.Ytbheeahdbimeiaa
open Go.RowKit
set_option linter.unusedVariables false
set_option linter.unusedSimpArgs false

def nmOf (s : BA) : Nm := s.data.toList.map fun b => ((b.toNat : Nat) : Int)
theorem nm_inj {a b : BA} (h : nmOf a = nmOf b) : a = b := by
  refine ba_ext ?_
  have key : ∀ (x y : List UInt8), (x.map fun b => ((b.toNat : Nat) : Int)) = (y.map fun b => ((b.toNat : Nat) : Int)) → x = y := by
    intro x
    induction x with
    | nil => intro y h; cases y with
      | nil => rfl
      | cons c y => simp at h
    | cons c x ih => intro y h; cases y with
      | nil => simp at h
      | cons d y =>
        simp only [List.map_cons, List.cons.injEq] at h
        have hc : c = d := UInt8.toNat_inj.1 (by omega)
        rw [hc, ih y h.2]
  exact key _ _ h
theorem nm_len (s : BA) : (nmOf s).length = s.size := by unfold nmOf; rw [List.length_map, Array.length_toList]; rfl
theorem nm_nil {s : BA} : nmOf s = [] ↔ s = ⟨#[]⟩ := by
  constructor
  · intro h; exact nm_inj (h.trans rfl)
  · rintro rfl; rfl
theorem nm_nz {s : BA} (h : zeroB s = false) : nz (nmOf s) := by
  intro b hb e
  obtain ⟨c, hc, rfl⟩ := List.mem_map.1 hb
  have hz : c = 0 := UInt8.toNat_inj.1 (by have : ((c.toNat : Nat) : Int) = 0 := e; have h0 : (0 : UInt8).toNat = 0 := rfl; omega)
  have : zeroB s = true := List.any_eq_true.2 ⟨c, hc, by simp [hz]⟩
  rw [this] at h; cases h
def nms (L : List BA) : List Nm := L.map nmOf
def outI (L : List BA) (i : Nat) : List Int := tabOf (uniq ((nms L).take i))
def atI (L : List BA) (i : Nat) : List Int := ((nms L).take i).map fun s => ((posOf (uniq ((nms L).take i)) s : Nat) : Int)
/-- what is wrong with names -/
def bldE (L : List BA) : Int := if L.any zeroB = true then 6 else if 1048576 < (outI L L.length).length then 3 else 0
theorem nms_succ {L : List BA} {i : Nat} (hi : i < L.length) : (nms L).take (i + 1) = (nms L).take i ++ [nmOf (L.getD i default)] := by
  have h2 : i < (nms L).length := by simpa [nms] using hi
  rw [List.take_succ_eq_append_getElem h2]
  congr 2
  simp [nms, List.getD, List.getElem?_eq_getElem hi]
theorem atI_len (L : List BA) {i : Nat} (hi : i ≤ L.length) : (atI L i).length = i := by simp [atI, nms]; omega
theorem mem_uniq_take {L : List BA} {i : Nat} {s : Nm} (h : s ∈ (nms L).take i) : s = [] ∨ s ∈ uniq ((nms L).take i) := by
  by_cases h0 : s = []
  · exact .inl h0
  · exact .inr (uniq_mem.2 ⟨h0, h⟩)
/-- the places of those that are done stay -/
theorem at_stay {L : List BA} {i : Nat} (M : List Nm) : ((nms L).take i).map (fun s => ((posOf (uniq ((nms L).take i) ++ M) s : Nat) : Int)) = atI L i := by
  unfold atI
  refine List.map_congr_left fun s hs => ?_
  rw [pos_mem (mem_uniq_take hs)]
theorem step_empty {L : List BA} {i : Nat} (hi : i < L.length) (h : L.getD i default = ⟨#[]⟩) : outI L (i + 1) = outI L i ∧ atI L (i + 1) = atI L i ++ [0] := by
  have hn : nmOf (L.getD i default) = [] := nm_nil.2 h
  have hu : uniq ((nms L).take (i + 1)) = uniq ((nms L).take i) := by rw [nms_succ hi, uniq_snoc, if_pos (.inl hn)]
  refine ⟨by unfold outI; rw [hu], ?_⟩
  unfold atI
  rw [hu, nms_succ hi, List.map_append, hn]
  rfl
theorem in_take {L : List BA} {i k : Nat} (hk : k < i) (hi : i < L.length) : nmOf (L.getD k default) ∈ (nms L).take i := by
  have h2 : k < ((nms L).take i).length := by simp [nms]; omega
  have e : ((nms L).take i)[k] = nmOf (L.getD k default) := by
    simp [nms, List.getD, List.getElem?_eq_getElem (show k < L.length by omega)]
  rw [← e]; exact List.getElem_mem h2
theorem firstI_lt {L : List BA} {i : Nat} (h : firstI L i < i) : L.getD (firstI L i) default = L.getD i default := by
  unfold firstI at h ⊢
  cases hf : (List.range i).find? fun k => decide (L.getD k default = L.getD i default) with
  | none => rw [hf] at h; exact absurd h (Nat.lt_irrefl _)
  | some k => exact of_decide_eq_true (by simpa using List.find?_some hf)
theorem firstI_new {L : List BA} {i : Nat} (h : ¬ firstI L i < i) : ∀ j, j < i → L.getD j default ≠ L.getD i default := by
  intro j hj e
  unfold firstI at h
  cases hf : (List.range i).find? fun k => decide (L.getD k default = L.getD i default) with
  | none => exact absurd (decide_eq_true e) (by have := List.find?_eq_none.1 hf j (List.mem_range.2 hj); simpa using this)
  | some k =>
    rw [hf] at h
    exact h (List.mem_range.1 (List.mem_of_find?_eq_some hf))
theorem step_old {L : List BA} {i : Nat} (hi : i < L.length) (h0 : L.getD i default ≠ ⟨#[]⟩) (h : firstI L i < i) : outI L (i + 1) = outI L i ∧ atI L (i + 1) = atI L i ++ [(atI L i).getD (firstI L i) 0] := by
  have hm : nmOf (L.getD i default) ∈ (nms L).take i := by rw [← firstI_lt h]; exact in_take h hi
  have hne : nmOf (L.getD i default) ≠ [] := fun e => h0 (nm_nil.1 e)
  have hu : uniq ((nms L).take (i + 1)) = uniq ((nms L).take i) := by rw [nms_succ hi, uniq_snoc, if_pos (.inr (uniq_mem.2 ⟨hne, hm⟩))]
  refine ⟨by unfold outI; rw [hu], ?_⟩
  have hg : (atI L i).getD (firstI L i) 0 = ((posOf (uniq ((nms L).take i)) (nmOf (L.getD i default)) : Nat) : Int) := by
    rw [← firstI_lt h]
    have hl : firstI L i < L.length := by omega
    unfold atI
    simp [List.getD, nms, List.getElem?_take, h, List.getElem?_eq_getElem hl]
  rw [hg]
  unfold atI
  rw [hu, nms_succ hi, List.map_append]
  rfl
theorem step_new {L : List BA} {i : Nat} (hi : i < L.length) (h0 : L.getD i default ≠ ⟨#[]⟩) (h : ¬ firstI L i < i) : outI L (i + 1) = outI L i ++ nmOf (L.getD i default) ++ [0] ∧ atI L (i + 1) = atI L i ++ [(((outI L i).length : Nat) : Int)] := by
  have hne : nmOf (L.getD i default) ≠ [] := fun e => h0 (nm_nil.1 e)
  have hnm : nmOf (L.getD i default) ∉ (nms L).take i := by
    intro hm
    obtain ⟨j, hj, e⟩ := List.mem_iff_getElem.1 hm
    have hj2 : j < i := by simp [nms] at hj; omega
    have hjl : j < L.length := by omega
    have e2 : nmOf (L.getD j default) = nmOf (L.getD i default) := by
      rw [← e]; simp [nms, List.getD, List.getElem?_eq_getElem hjl]
    exact firstI_new h j hj2 (nm_inj e2)
  have hnu : nmOf (L.getD i default) ∉ uniq ((nms L).take i) := fun hm => hnm (uniq_mem.1 hm).2
  have hu : uniq ((nms L).take (i + 1)) = uniq ((nms L).take i) ++ [nmOf (L.getD i default)] := by rw [nms_succ hi, uniq_snoc, if_neg (by rintro (e | e); exact hne e; exact hnu e)]
  refine ⟨by unfold outI; rw [hu, tab_snoc], ?_⟩
  have hx := at_stay (L := L) (i := i) [nmOf (L.getD i default)]
  show (((nms L).take (i + 1)).map fun s => ((posOf (uniq ((nms L).take (i + 1))) s : Nat) : Int)) = _
  rw [hu, nms_succ hi, List.map_append, hx]
  have hp := pos_new hne hnu
  simp only [List.map_cons, List.map_nil]
  rw [hp]
  rfl
/-- a table only grows -/
theorem out_mono {L : List BA} {i j : Nat} (h : i ≤ j) : (outI L i).length ≤ (outI L j).length := by
  unfold outI
  have e : (nms L).take j = (nms L).take i ++ ((nms L).drop i).take (j - i) := by
    conv => lhs; rw [show j = i + (j - i) by omega]
    rw [List.take_add]
  obtain ⟨K, hK⟩ := uniq_pre ((nms L).take i) (((nms L).drop i).take (j - i))
  rw [e, hK, tab_append, List.length_append]
  omega
end Go.Proofs.Ytbheeahdbimeiaa
