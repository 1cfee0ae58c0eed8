/-
  What follows of tables of names: each once, each at its place, first names first. Of no program. No conditions beyond those that each lemma states.
-/
import Derived.Test.YtbheeahdbimeiaaStbV
namespace Go.Proofs.Ytbheeahdbimeiaa
open Go.RowKit Go.Maps
set_option linter.unusedVariables false
set_option linter.unusedSimpArgs false

theorem RowsO.pre {n : Nat} {W : World} {aa : Option Addr} {l ca : Nat} {C D : List (List Value)} (h : RowsO n W (.slice aa l ca) (C ++ D)) : RowsO n W (.slice aa C.length ca) C := by
  rcases h with ⟨h | ⟨a, c, h⟩, h0⟩ | ⟨g, off, cap, h, hc, hm, hg, hx⟩
  · cases h
    have : C = [] := (List.append_eq_nil_iff.1 h0).1
    subst this
    exact .inl ⟨.inl rfl, rfl⟩
  · cases h
    have : C = [] := (List.append_eq_nil_iff.1 h0).1
    subst this
    exact .inl ⟨.inr ⟨_, _, rfl⟩, rfl⟩
  · cases h
    rw [List.length_append] at hc
    exact .inr ⟨g, off, ca, rfl, by omega, hm, hg, fun k x hk => hx k x (by rw [List.getElem?_append_left (List.getElem?_eq_some_iff.1 hk).1]; exact hk)⟩
theorem StrO.take {W : World} {aa : Option Addr} {l ca : Nat} {L : List BA} (h : StrO W (.slice aa l ca) L) {k : Nat} (hk : k ≤ L.length) : StrO W (.slice aa k ca) (L.take k) := by
  unfold StrO at *
  rw [show L.map (fun s => [Value.string s]) = (L.take k).map (fun s => [Value.string s]) ++ (L.drop k).map (fun s => [Value.string s]) by rw [← List.map_append, List.take_append_drop]] at h
  have := RowsO.pre h
  rwa [List.length_map, List.length_take, Nat.min_eq_left hk] at this
theorem NusO.take {W : World} {aa : Option Addr} {l ca : Nat} {L : List Int} (h : NusO W (.slice aa l ca) L) {k : Nat} (hk : k ≤ L.length) : NusO W (.slice aa k ca) (L.take k) := by
  unfold NusO at *
  rw [show L.map nuC = (L.take k).map nuC ++ (L.drop k).map nuC by rw [← List.map_append, List.take_append_drop]] at h
  have := RowsO.pre h
  rwa [List.length_map, List.length_take, Nat.min_eq_left hk] at this
theorem out_take {L : List BA} {k : Nat} (hk : k ≤ L.length) : outI (L.take k) (L.take k).length = outI L k := by
  unfold outI
  rw [← nms_take, List.length_take, Nat.min_eq_left hk, List.take_take, Nat.min_self]
theorem at_take {L : List BA} {k : Nat} (hk : k ≤ L.length) : atI (L.take k) (L.take k).length = atI L k := by
  unfold atI
  rw [← nms_take, List.length_take, Nat.min_eq_left hk, List.take_take, Nat.min_self]
theorem take_more (L : List BA) {k n : Nat} (h : k ≤ n) : (nms L).take n = (nms L).take k ++ ((nms L).drop k).take (n - k) := by
  conv => lhs; rw [show n = k + (n - k) by omega]
  rw [List.take_add]
/-- a beginning -/
theorem out_pre (L : List BA) {k n : Nat} (h : k ≤ n) : ∃ r, outI L n = outI L k ++ r := by
  unfold outI
  rw [take_more L h]
  obtain ⟨K, hK⟩ := uniq_pre ((nms L).take k) (((nms L).drop k).take (n - k))
  rw [hK, tab_append]
  exact ⟨_, rfl⟩
theorem at_pre {L : List BA} {k n : Nat} (h : k ≤ n) (hn : n ≤ L.length) : (atI L n).take k = atI L k := by
  obtain ⟨K, hK⟩ := uniq_pre ((nms L).take k) (((nms L).drop k).take (n - k))
  rw [← take_more L h] at hK
  have hl : ((nms L).take k).length = k := by simp [nms]; omega
  unfold atI
  rw [← List.map_take, List.take_take, Nat.min_eq_left h]
  refine List.map_congr_left fun s hs => ?_
  rw [hK, pos_mem (mem_uniq_take hs)]
theorem bld_take {L : List BA} {k : Nat} (hk : k ≤ L.length) (h : bldE L = 0) : bldE (L.take k) = 0 := by
  unfold bldE at h
  by_cases h1 : L.any zeroB = true
  · rw [if_pos h1] at h; cases h
  · rw [if_neg h1] at h
    by_cases h2 : 1048576 < (outI L L.length).length
    · rw [if_pos h2] at h; cases h
    · refine bld_ok ?_ (by rw [out_take hk]; exact Nat.le_trans (out_mono hk) (by omega))
      rw [List.any_eq_false]
      intro x hx
      have h3 : L.any zeroB = false := by simpa using h1
      rw [List.any_eq_false] at h3
      exact h3 x (List.mem_of_mem_take hx)
theorem bld_facts {L : List BA} (h : bldE L = 0) : L.any zeroB = false ∧ (outI L L.length).length ≤ 1048576 := by
  unfold bldE at h
  by_cases h1 : L.any zeroB = true
  · rw [if_pos h1] at h; cases h
  · rw [if_neg h1] at h
    by_cases h2 : 1048576 < (outI L L.length).length
    · rw [if_pos h2] at h; cases h
    · exact ⟨by simpa using h1, by omega⟩
/-- unlike names begin at unlike places -/
theorem posGo_ge (s : Nm) : ∀ (ns : List Nm) (p : Nat), p ≤ posGo s p ns
  | [], p => Nat.le_refl _
  | t :: r, p => by
    simp only [posGo]
    split
    · exact Nat.le_refl _
    · have := posGo_ge s r (p + t.length + 1); omega
theorem posGo_inj {s t : Nm} : ∀ (ns : List Nm) (p : Nat), s ∈ ns → t ∈ ns → posGo s p ns = posGo t p ns → s = t
  | [], p, h, _, _ => by cases h
  | x :: r, p, hs, ht, h => by
    simp only [posGo] at h
    by_cases e1 : x = s
    · by_cases e2 : x = t
      · rw [← e1, ← e2]
      · rw [if_pos e1, if_neg e2] at h
        have := posGo_ge t r (p + x.length + 1); omega
    · by_cases e2 : x = t
      · rw [if_neg e1, if_pos e2] at h
        have := posGo_ge s r (p + x.length + 1); omega
      · rw [if_neg e1, if_neg e2] at h
        exact posGo_inj r _ ((List.mem_cons.1 hs).resolve_left (fun k => e1 k.symm)) ((List.mem_cons.1 ht).resolve_left (fun k => e2 k.symm)) h
theorem posOf_inj {ns : List Nm} {s t : Nm} (hs : s = [] ∨ s ∈ ns) (ht : t = [] ∨ t ∈ ns) (h : posOf ns s = posOf ns t) : s = t := by
  unfold posOf at h
  by_cases e1 : s = []
  · by_cases e2 : t = []
    · rw [e1, e2]
    · rw [if_pos e1, if_neg e2] at h
      have := posGo_ge t ns 1; omega
  · by_cases e2 : t = []
    · rw [if_neg e1, if_pos e2] at h
      have := posGo_ge s ns 1; omega
    · rw [if_neg e1, if_neg e2] at h
      exact posGo_inj ns 1 (hs.resolve_left e1) (ht.resolve_left e2) h
theorem at_get {L : List BA} {i : Nat} {s : BA} (h : L[i]? = some s) : (atI L L.length)[i]? = some ((posOf (uniq (nms L)) (nmOf s) : Nat) : Int) := by
  unfold atI
  rw [nms_take_all, List.getElem?_map]
  unfold nms
  rw [List.getElem?_map, h]
  rfl
theorem nms_mem {L : List BA} {i : Nat} {s : BA} (h : L[i]? = some s) : nmOf s = [] ∨ nmOf s ∈ uniq (nms L) := by
  by_cases h0 : nmOf s = []
  · exact .inl h0
  · exact .inr (uniq_mem.2 ⟨h0, List.mem_map.2 ⟨s, List.mem_of_getElem? h, rfl⟩⟩)
theorem at_same {L : List BA} {i k : Nat} {s t : BA} (hi : L[i]? = some s) (hk : L[k]? = some t) : (((posOf (uniq (nms L)) (nmOf s) : Nat) : Int) == ((posOf (uniq (nms L)) (nmOf t) : Nat) : Int)) = decide (s = t) := by
  by_cases e : s = t
  · subst e; simp
  · rw [decide_eq_false e]
    refine not_beq (fun h => e (nm_inj (posOf_inj (nms_mem hi) (nms_mem hk) (by omega))))
theorem gB_none {L : List BA} {i : Nat} {s : BA} : gB L i s = none ↔ s ≠ ⟨#[]⟩ ∧ s ∉ L.take i := by
  unfold gB
  have hm : nmOf s ∈ (nms L).take i ↔ s ∈ L.take i := by
    rw [nms_take]
    constructor
    · intro h
      obtain ⟨x, hx, e⟩ := List.mem_map.1 h
      rw [← nm_inj e]; exact hx
    · intro h; exact List.mem_map.2 ⟨s, h, rfl⟩
  by_cases h : s = ⟨#[]⟩ ∨ s ∈ L.take i
  · rw [if_pos (h.imp nm_nil.2 hm.2)]
    constructor
    · intro e; cases e
    · rintro ⟨a, b⟩; exact absurd h (by rintro (e | e); exact a e; exact b e)
  · rw [if_neg (fun k => h (k.imp nm_nil.1 hm.1))]
    exact ⟨fun _ => ⟨fun e => h (.inl e), fun e => h (.inr e)⟩, fun _ => rfl⟩
end Go.Proofs.Ytbheeahdbimeiaa
