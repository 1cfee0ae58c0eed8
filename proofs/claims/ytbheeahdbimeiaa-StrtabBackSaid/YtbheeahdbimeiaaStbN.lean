/-
  What is a table, and what stands in it. Of no program. No conditions beyond those that each lemma states.
-/
import Derived.Test.YtbheeahdbimeiaaStbC
import Derived.Laws.BytesArg
namespace Go.Proofs.Ytbheeahdbimeiaa
open Go.RowKit
set_option linter.unusedVariables false
set_option linter.unusedSimpArgs false

theorem nm_byte (s : BA) : ∀ b ∈ nmOf s, 0 ≤ b ∧ b ≤ 255 := by
  intro b hb
  obtain ⟨c, _, rfl⟩ := List.mem_map.1 hb
  have := c.toNat_lt
  omega
theorem nm_str {l : List Int} (h : ∀ b ∈ l, 0 ≤ b ∧ b ≤ 255) : nmOf (strOfNums l) = l := by
  unfold nmOf
  rw [strOfNums_data, List.map_map]
  refine (List.map_congr_left fun b hb => ?_).trans (List.map_id l)
  have := h b hb
  simp only [Function.comp_apply, id]
  rw [UInt8.toNat_ofNat_of_lt' (by show b.toNat < 256; omega)]
  omega
theorem str_nm (s : BA) : strOfNums (nmOf s) = s := nm_inj (nm_str (nm_byte s))
theorem nz_zero {s : BA} (h : nz (nmOf s)) : zeroB s = false := by
  cases e : zeroB s
  · rfl
  · obtain ⟨b, hb, hz⟩ := List.any_eq_true.1 e
    have : b = 0 := by simpa using hz
    subst this
    exact absurd rfl (h 0 (List.mem_map.2 ⟨0, hb, rfl⟩))
theorem zero_nz {s : BA} : zeroB s = false ↔ nz (nmOf s) := ⟨nm_nz, nz_zero⟩
/-- what ends with a byte 0 is names with a byte 0 behind each -/
theorem pieces_of : ∀ r : List Int, (r = [] ∨ r.getLast? = some 0) → ∃ ns : List Nm, r = (ns.flatMap fun s => s ++ [0]) ∧ ∀ s ∈ ns, nz s
  | [], _ => ⟨[], rfl, by simp⟩
  | b :: r, h => by
    have hl : r = [] ∨ r.getLast? = some 0 := by
      cases r with
      | nil => exact .inl rfl
      | cons c r => right; rcases h with h | h; cases h; rwa [List.getLast?_cons_cons] at h
    obtain ⟨ns, e, hn⟩ := pieces_of r hl
    by_cases hb : b = 0
    · subst hb
      exact ⟨[] :: ns, by rw [List.flatMap_cons, ← e]; rfl, fun s hs => by
        rcases List.mem_cons.1 hs with rfl | hs
        · intro x hx; cases hx
        · exact hn s hs⟩
    · cases ns with
      | nil =>
        rw [List.flatMap_nil] at e
        subst e
        rcases h with h | h
        · cases h
        · simp at h; exact absurd h hb
      | cons s ns =>
        refine ⟨(b :: s) :: ns, by rw [e]; rfl, fun t ht => ?_⟩
        rcases List.mem_cons.1 ht with rfl | ht
        · intro x hx
          rcases List.mem_cons.1 hx with rfl | hx
          · exact hb
          · exact hn s List.mem_cons_self x hx
        · exact hn t (List.mem_cons_of_mem _ ht)
/-- T is the table of the names L -/
def TabN (T : BA) (L : List BA) : Prop := nmOf T = tabOf (nms L) ∧ ∀ s ∈ L, zeroB s = false
theorem nms_str : ∀ (ns : List Nm), (∀ s ∈ ns, ∀ b ∈ s, 0 ≤ b ∧ b ≤ 255) → nms (ns.map strOfNums) = ns
  | [], _ => rfl
  | s :: r, h => by
    show nmOf (strOfNums s) :: nms (r.map strOfNums) = _
    rw [nm_str (h s List.mem_cons_self), nms_str r (fun t ht => h t (List.mem_cons_of_mem _ ht))]
theorem flat_mem {ns : List Nm} {s : Nm} {b : Int} (hs : s ∈ ns) (hb : b ∈ s) : b ∈ ns.flatMap fun s => s ++ [0] := List.mem_flatMap.2 ⟨s, hs, List.mem_append_left _ hb⟩
theorem tab_last (ns : List Nm) : (tabOf ns).getLast? = some 0 := by
  unfold tabOf
  rcases List.eq_nil_or_concat ns with rfl | ⟨a, s, rfl⟩
  · rfl
  · simp [List.flatMap_append, List.getLast?_cons, List.getLast?_append]
theorem tabN_of {T : BA} (h0 : (nmOf T).head? = some 0) (h1 : (nmOf T).getLast? = some 0) : ∃ L, TabN T L := by
  cases hT : nmOf T with
  | nil => rw [hT] at h0; cases h0
  | cons b r =>
    rw [hT] at h0 h1
    obtain rfl : b = 0 := by simpa using h0
    obtain ⟨ns, e, hn⟩ := pieces_of r (by
      cases r with
      | nil => exact .inl rfl
      | cons c r => right; rwa [List.getLast?_cons_cons] at h1)
    have hby : ∀ s ∈ ns, ∀ b ∈ s, 0 ≤ b ∧ b ≤ 255 := fun s hs b hb => nm_byte T b (by rw [hT, e]; exact List.mem_cons_of_mem _ (flat_mem hs hb))
    refine ⟨ns.map strOfNums, by rw [hT, nms_str ns hby, e]; rfl, fun s hs => ?_⟩
    obtain ⟨x, hx, rfl⟩ := List.mem_map.1 hs
    exact nz_zero (by rw [nm_str (hby x hx)]; exact hn x hx)
theorem nms_nz {L : List BA} (h : ∀ s ∈ L, zeroB s = false) : ∀ x ∈ nms L, nz x := by
  intro x hx
  obtain ⟨s, hs, rfl⟩ := List.mem_map.1 hx
  exact nm_nz (h s hs)
/-- a table's names -/
def namesT (t : List Int) : List Nm := (rowsT t).map (·.2)
def chkE (T : BA) : Int := if 1048576 < T.size then 3 else if tabOf (uniq (namesT (nmOf T))) = nmOf T then 0 else 190
theorem namesT_tab {ns : List Nm} (h : ∀ s ∈ ns, nz s) : namesT (tabOf ns) = ns := by
  unfold namesT; rw [rows_tab ns h, laid_names]
theorem tab_inj {ns ms : List Nm} (h : ∀ s ∈ ns, nz s) (h2 : ∀ s ∈ ms, nz s) (e : tabOf ns = tabOf ms) : ns = ms := by
  rw [← namesT_tab h, ← namesT_tab h2, e]
theorem chk_iff {T : BA} {L : List BA} (h : TabN T L) (hs : T.size ≤ 1048576) : chkE T = if uniq (nms L) = nms L then 0 else 190 := by
  unfold chkE
  rw [if_neg (by omega), h.1, namesT_tab (nms_nz h.2)]
  by_cases e : uniq (nms L) = nms L
  · rw [if_pos e, if_pos (by rw [e])]
  · rw [if_neg e, if_neg (fun h2 => e (tab_inj (fun s hs => nms_nz h.2 s (uniq_mem.1 hs).2) (nms_nz h.2) h2))]
theorem nms_nodup {L : List BA} : (nms L).Nodup ↔ L.Nodup := by
  unfold nms
  simp only [List.Nodup, List.pairwise_map]
  exact ⟨fun h => h.imp fun {a b} k e => k (by rw [e]), fun h => h.imp fun {a b} k e => k (nm_inj e)⟩
theorem nms_empty {L : List BA} : (∀ s ∈ nms L, s ≠ []) ↔ ∀ s ∈ L, s ≠ (⟨#[]⟩ : BA) := by
  constructor
  · intro h s hs e
    exact h (nmOf s) (List.mem_map.2 ⟨s, hs, rfl⟩) (nm_nil.2 e)
  · intro h x hx e
    obtain ⟨s, hs, rfl⟩ := List.mem_map.1 hx
    exact h s hs (nm_nil.1 e)
theorem uniq_iff {ns : List Nm} : uniq ns = ns ↔ ns.Nodup ∧ ∀ s ∈ ns, s ≠ [] := by
  constructor
  · intro h
    rw [← h]
    exact ⟨uniq_nodup _, fun s hs => (uniq_mem.1 hs).1⟩
  · rintro ⟨h1, h2⟩
    have := uniq_own ns [] h1 h2
    rwa [List.nil_append] at this
theorem chk_ok {T : BA} {L : List BA} (h : TabN T L) (hs : T.size ≤ 1048576) (h1 : L.Nodup) (h2 : ∀ s ∈ L, s ≠ (⟨#[]⟩ : BA)) : chkE T = 0 := by
  rw [chk_iff h hs, if_pos (uniq_iff.2 ⟨nms_nodup.2 h1, nms_empty.2 h2⟩)]
theorem chk_no {T : BA} {L : List BA} (h : TabN T L) (hs : T.size ≤ 1048576) (h1 : ¬ (L.Nodup ∧ ∀ s ∈ L, s ≠ (⟨#[]⟩ : BA))) : chkE T = 190 := by
  rw [chk_iff h hs, if_neg (fun e => h1 ⟨nms_nodup.1 (uniq_iff.1 e).1, nms_empty.1 (uniq_iff.1 e).2⟩)]
theorem chk_bad {T : BA} (hs : T.size ≤ 1048576) (h : ¬ ((nmOf T).head? = some 0 ∧ (nmOf T).getLast? = some 0)) : chkE T = 190 := by
  unfold chkE
  rw [if_neg (by omega), if_neg (fun e => h (by rw [← e]; exact ⟨rfl, tab_last _⟩))]
theorem chk_inv {T : BA} (h : chkE T = 0) : T.size ≤ 1048576 ∧ ∃ L, TabN T L ∧ L.Nodup ∧ ∀ s ∈ L, s ≠ (⟨#[]⟩ : BA) := by
  have hs : T.size ≤ 1048576 := by
    unfold chkE at h
    by_cases e : 1048576 < T.size
    · rw [if_pos e] at h; cases h
    · omega
  refine ⟨hs, ?_⟩
  by_cases hb : (nmOf T).head? = some 0 ∧ (nmOf T).getLast? = some 0
  · obtain ⟨L, hL⟩ := tabN_of hb.1 hb.2
    by_cases hd : L.Nodup ∧ ∀ s ∈ L, s ≠ (⟨#[]⟩ : BA)
    · exact ⟨L, hL, hd.1, hd.2⟩
    · rw [chk_no hL hs hd] at h; cases h
  · rw [chk_bad hs hb] at h; cases h
/-- names as texts, with where they begin -/
def laidB : Nat → List BA → List (Nat × BA)
  | _, [] => []
  | p, s :: r => (p, s) :: laidB (p + s.size + 1) r
def rowsB (T : BA) : List (Nat × BA) := (rowsT (nmOf T)).map fun r => (r.1, strOfNums r.2)
theorem laid_str : ∀ (L : List BA) (p : Nat), (laid p (nms L)).map (fun r => (r.1, strOfNums r.2)) = laidB p L
  | [], p => rfl
  | s :: r, p => by
    show (p, strOfNums (nmOf s)) :: (laid (p + (nmOf s).length + 1) (nms r)).map _ = _
    rw [str_nm, nm_len, laid_str r]
    rfl
theorem rowsB_tab {T : BA} {L : List BA} (h : TabN T L) : rowsB T = laidB 1 L := by
  unfold rowsB
  rw [h.1, rows_tab _ (nms_nz h.2), laid_str]
theorem laidB_names : ∀ (p : Nat) (L : List BA), (laidB p L).map (·.2) = L
  | _, [] => rfl
  | p, s :: r => by simp [laidB, laidB_names (p + s.size + 1) r]
theorem laidB_len (p : Nat) (L : List BA) : (laidB p L).length = L.length := by
  have := congrArg List.length (laidB_names p L); simpa using this
theorem tab_len (L : List BA) : (tabOf (nms L)).length = 1 + (L.map fun s => s.size + 1).sum := by
  unfold tabOf
  induction L with
  | nil => rfl
  | cons s r ih =>
    have e : (tabOf (nms (s :: r))).length = s.size + 1 + (tabOf (nms r)).length := by
      unfold tabOf nms
      simp only [List.map_cons, List.flatMap_cons, List.length_cons, List.length_append, nm_len, List.length_nil]
      omega
    unfold tabOf at e
    rw [e, ih, List.map_cons, List.sum_cons]
    omega
/-- row k of the names: where it begins, and what is left from there on -/
theorem laidB_at : ∀ (L : List BA) (p k : Nat), k < L.length → (laidB p L)[k]? = some (p + ((L.take k).map fun s => s.size + 1).sum, L.getD k default)
  | [], p, k, h => by simp at h
  | s :: r, p, 0, h => by simp [laidB]
  | s :: r, p, k + 1, h => by
    simp only [laidB, List.getElem?_cons_succ, List.take_succ_cons, List.map_cons, List.sum_cons]
    rw [laidB_at r _ k (by simpa using h)]
    simp [List.getD]
    omega
theorem drop_tab (L : List BA) (k : Nat) : (tabOf (nms L)).drop (1 + ((L.take k).map fun s => s.size + 1).sum) = (nms (L.drop k)).flatMap fun s => s ++ [0] := by
  have e : tabOf (nms L) = tabOf (nms (L.take k)) ++ (nms (L.drop k)).flatMap fun s => s ++ [0] := by
    conv => lhs; rw [← List.take_append_drop k L]
    unfold nms
    rw [List.map_append, tab_append]
  rw [e, ← tab_len, List.drop_left]
end Go.Proofs.Ytbheeahdbimeiaa
