/-
  What each call of the document's Check returns. Conditions: how the argument lies, and its size.
-/
import Derived.Test.YtbheeahdbimeiaaStbE
namespace Go.Proofs.Ytbheeahdbimeiaa
open Go.RowKit
set_option linter.unusedVariables false
set_option linter.unusedSimpArgs false

theorem rowsAcc_bytes : ∀ (l : List Int) (p : Nat) (cur : Nm) (r : Nat × Nm), r ∈ rowsAcc p cur l → ∀ b ∈ r.2, b ∈ cur ∨ b ∈ l
  | [], p, cur, r, h, b, hb => by cases h
  | c :: l, p, cur, r, h, b, hb => by
    unfold rowsAcc at h
    by_cases hc : c = 0
    · rw [if_pos hc] at h
      rcases List.mem_cons.1 h with rfl | h
      · exact .inl hb
      · rcases rowsAcc_bytes l _ [] r h b hb with h | h
        · cases h
        · exact .inr (List.mem_cons_of_mem _ h)
    · rw [if_neg hc] at h
      rcases rowsAcc_bytes l _ _ r h b hb with h | h
      · rcases List.mem_append.1 h with h | h
        · exact .inl h
        · rw [List.mem_singleton] at h; subst h; exact .inr List.mem_cons_self
      · exact .inr (List.mem_cons_of_mem _ h)
theorem rowsAcc_nz : ∀ (l : List Int) (p : Nat) (cur : Nm) (r : Nat × Nm), nz cur → r ∈ rowsAcc p cur l → nz r.2
  | [], p, cur, r, hn, h => by cases h
  | c :: l, p, cur, r, hn, h => by
    unfold rowsAcc at h
    by_cases hc : c = 0
    · rw [if_pos hc] at h
      rcases List.mem_cons.1 h with rfl | h
      · exact hn
      · exact rowsAcc_nz l _ [] r (by intro x hx; cases hx) h
    · rw [if_neg hc] at h
      refine rowsAcc_nz l _ _ r ?_ h
      intro x hx
      rcases List.mem_append.1 hx with hx | hx
      · exact hn x hx
      · rw [List.mem_singleton] at hx; subst hx; exact hc
theorem rowsAcc_sum : ∀ (l : List Int) (p : Nat) (cur : Nm), ((rowsAcc p cur l).map fun r => r.2.length + 1).sum ≤ cur.length + l.length
  | [], p, cur => by simp [rowsAcc]
  | c :: l, p, cur => by
    unfold rowsAcc
    by_cases hc : c = 0
    · rw [if_pos hc]
      have := rowsAcc_sum l (p + cur.length + 1) []
      simp only [List.map_cons, List.sum_cons, List.length_cons, List.length_nil] at this ⊢
      omega
    · rw [if_neg hc]
      have := rowsAcc_sum l p (cur ++ [c])
      simp only [List.length_append, List.length_cons, List.length_nil] at this ⊢
      omega
theorem flat_len (ns : List Nm) : (ns.flatMap fun s => s ++ [0]).length = (ns.map fun s => s.length + 1).sum := by
  induction ns with
  | nil => rfl
  | cons s r ih => simp [List.flatMap_cons, ih]; omega
theorem uniqGo_flat : ∀ (ns acc : List Nm), ((uniqGo acc ns).map fun s => s.length + 1).sum ≤ (acc.map fun s => s.length + 1).sum + (ns.map fun s => s.length + 1).sum
  | [], acc => by simp [uniqGo]
  | t :: r, acc => by
    unfold uniqGo
    by_cases hc : t = [] ∨ t ∈ acc
    · rw [if_pos hc]
      have := uniqGo_flat r acc
      simp only [List.map_cons, List.sum_cons] at this ⊢
      omega
    · rw [if_neg hc]
      have := uniqGo_flat r (acc ++ [t])
      simp only [List.map_cons, List.sum_cons, List.map_append, List.sum_append, List.map_nil, List.sum_nil] at this ⊢
      omega
theorem uniq_len (ns : List Nm) : (tabOf (uniq ns)).length ≤ 1 + (ns.map fun s => s.length + 1).sum := by
  unfold tabOf
  rw [List.length_cons, flat_len]
  have := uniqGo_flat ns []
  unfold uniq
  simp only [List.map_nil, List.sum_nil] at this
  omega
def namesB (T : BA) : List BA := (rowsS (nmOf T)).map (·.2)
theorem namesT_sum (t : List Int) : ((namesT t).map fun s => s.length + 1).sum ≤ t.length - 1 := by
  unfold namesT rowsT
  rw [List.map_map]
  have := rowsAcc_sum (t.drop 1) 1 []
  rw [List.length_drop] at this
  simp only [List.length_nil, Nat.zero_add] at this
  exact this
theorem nms_namesB (T : BA) : nms (namesB T) = namesT (nmOf T) := by
  have : namesB T = (namesT (nmOf T)).map strOfNums := by unfold namesB rowsS namesT; rw [List.map_map, List.map_map]; rfl
  rw [this, nms_str]
  intro s hs b hb
  obtain ⟨r, hr, rfl⟩ := List.mem_map.1 hs
  rcases rowsAcc_bytes _ _ _ r hr b hb with h | h
  · cases h
  · exact nm_byte T b (List.mem_of_mem_drop h)
theorem namesB_zero (T : BA) : (namesB T).any zeroB = false := by
  rw [List.any_eq_false]
  intro s hs
  have h2 : nmOf s ∈ namesT (nmOf T) := by rw [← nms_namesB]; exact List.mem_map.2 ⟨s, hs, rfl⟩
  obtain ⟨r, hr, e⟩ := List.mem_map.1 h2
  have := nz_zero (s := s) (by rw [← e]; exact rowsAcc_nz _ _ _ r (by intro x hx; cases hx) hr)
  simp [this]
theorem nms_take_all (L : List BA) : (nms L).take L.length = nms L := List.take_of_length_le (by simp [nms])
theorem namesB_out (T : BA) : outI (namesB T) (namesB T).length = tabOf (uniq (namesT (nmOf T))) := by
  unfold outI; rw [nms_take_all, nms_namesB]
theorem namesB_outlen (T : BA) (h : T.size ≤ 1048576) : (outI (namesB T) (namesB T).length).length ≤ 1048576 := by
  rw [namesB_out]
  have h1 := uniq_len (namesT (nmOf T))
  have h2 := namesT_sum (nmOf T)
  rw [nm_len] at h2
  omega
theorem sum_ge {L : List Nm} {s : Nm} (h : s ∈ L) : s.length + 1 ≤ (L.map fun s => s.length + 1).sum := by
  induction L with
  | nil => cases h
  | cons a r ih =>
    rw [List.map_cons, List.sum_cons]
    rcases List.mem_cons.1 h with rfl | h
    · omega
    · have := ih h; omega
theorem sum_len (L : List Nm) : L.length ≤ (L.map fun s => s.length + 1).sum := by
  induction L with
  | nil => simp
  | cons a r ih => simp; omega
theorem namesB_sizes (T : BA) (h : T.size ≤ 1048576) : (∀ x ∈ namesB T, x.size ≤ 1048576) ∧ (namesB T).length ≤ 1048576 := by
  have h2 := namesT_sum (nmOf T)
  rw [nm_len] at h2
  constructor
  · intro x hx
    have h3 := sum_ge (show nmOf x ∈ namesT (nmOf T) by rw [← nms_namesB]; exact List.mem_map.2 ⟨x, hx, rfl⟩)
    rw [nm_len] at h3
    omega
  · have h3 := sum_len (namesT (nmOf T))
    rw [← nms_namesB] at h3 h2
    have : (nms (namesB T)).length = (namesB T).length := by simp [nms]
    omega
/-- '[]byte' as a text -/
theorem conv_any {W : World} {v : Value} {t : List Int} (h : BysO W v t) : (convert 25 9 v).run Try.prog W = .ok (.string (strOfNums t)) W := by
  rcases h with ⟨h | ⟨a, c, h⟩, h0⟩ | ⟨g, off, cap, h, hc, hm, hg, hx⟩
  · subst h
    obtain rfl : t = [] := by simpa using h0
    exact run_convert_bytes_nil W _ _ Try.underlying25 Try.underlying5 0 0 _ Try.underlying9
  · subst h
    obtain rfl : t = [] := by simpa using h0
    rw [run_convert_bytes_string W _ _ _ _ 0 c Try.underlying25 Try.underlying5 Try.underlying9]
    simp [Conv.bytesToString, loadCells, strOfNums]
    rfl
  · subst h
    rw [List.length_map]
    refine run_convert_bytes_arg W _ 5 Try.underlying25 Try.underlying5 g off t.length cap t rfl (fun i hi => ?_) _ Try.underlying9
    have := hx i (byC (t.getD i 0)) (by rw [List.getElem?_map]; simp [List.getD, List.getElem?_eq_getElem hi]) 0 _ rfl
    rwa [Nat.mul_one, Nat.add_zero] at this
theorem bys_of_own {W : World} {base : Nat} {e : TypeId} {v : Value} {n : Nat} {D : List Int} (hn : n = D.length) (h : W.ownsRow base e 1 v n (byL D)) : BysO W v D := by
  subst hn
  have := own_rows (C := byL D) (by unfold byL; rw [List.length_map]; exact h)
  unfold byL at this
  rw [List.map_map] at this
  exact this
/-- rows of own two cells -/
theorem rows2_at {W : World} {base : Nat} {t : TypeId} {v : Value} {L : List (Nat × BA)} (h : W.ownsRow base t 2 v L.length (flatR L)) {k : Nat} (hk : k < L.length) :
    ∃ g cap x, L[k]? = some x ∧ v = .slice (some ⟨g, 0, none⟩) L.length cap ∧ g < W.heap.size ∧ W.cell? ⟨g, k * 2, none⟩ = some (.int .i64 (x.1 : Int)) ∧ W.cell? ⟨g, k * 2 + 1, none⟩ = some (.string x.2) := by
  rcases h.2 with ⟨_, h0⟩ | ⟨g, cap, cur, hv, hb, hg, hn, hm, hs, hx⟩
  · omega
  · obtain ⟨x, hxk⟩ : ∃ x, L[k]? = some x := ⟨_, List.getElem?_eq_getElem hk⟩
    have fl : ∀ (M : List (Nat × BA)) (k : Nat) (x : Nat × BA), M[k]? = some x → (flatR M)[k * 2]? = some (.int .i64 (x.1 : Int)) ∧ (flatR M)[k * 2 + 1]? = some (.string x.2) := by
      intro M
      induction M with
      | nil => intro k x h; simp at h
      | cons y r ih =>
        intro k x h
        cases k with
        | zero => simp only [List.getElem?_cons_zero, Option.some.injEq] at h; subst h; exact ⟨rfl, rfl⟩
        | succ k =>
          rw [List.getElem?_cons_succ] at h
          obtain ⟨a, b⟩ := ih k x h
          rw [show (k + 1) * 2 = k * 2 + 2 by omega]
          exact ⟨a, b⟩
    obtain ⟨f1, f2⟩ := fl L k x hxk
    have hg' : g < W.heap.size := (Array.getElem?_eq_some_iff.1 hg).1
    have hat : ∀ j u, j < L.length * 2 → (flatR L)[j]? = some u → W.cell? ⟨g, j, none⟩ = some u := by
      intro j u hj hu
      rw [Lib.cell_of_heap hg]
      rw [← hx, List.getElem?_take, if_pos hj] at hu
      simpa using hu
    exact ⟨g, cap, x, hxk, hv, hg', hat _ _ (by omega) f1, hat _ _ (by omega) f2⟩
end Go.Proofs.Ytbheeahdbimeiaa
