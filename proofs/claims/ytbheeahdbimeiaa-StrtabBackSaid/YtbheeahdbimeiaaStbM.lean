/-
  Tables of names: what stands in them, where each name begins. Of no program. No conditions beyond those that each lemma states.
-/
import Derived.ProofKit
namespace Go.Proofs.Ytbheeahdbimeiaa
set_option linter.unusedVariables false
set_option linter.unusedSimpArgs false

/-- a name: its bytes -/
abbrev Nm := List Int
/-- the table of some names, one behind the other -/
def tabOf (ns : List Nm) : List Int := 0 :: ns.flatMap fun s => s ++ [0]
/-- of some names those that are not empty, each where it comes first -/
def uniqGo : List Nm → List Nm → List Nm
  | acc, [] => acc
  | acc, s :: r => uniqGo (if s = [] ∨ s ∈ acc then acc else acc ++ [s]) r
def uniq (L : List Nm) : List Nm := uniqGo [] L
/-- where a name begins in the table of others (behind their end, if it is none of them) -/
def posGo (s : Nm) : Nat → List Nm → Nat
  | p, [] => p
  | p, t :: r => if t = s then p else posGo s (p + t.length + 1) r
def posOf (ns : List Nm) (s : Nm) : Nat := if s = [] then 0 else posGo s 1 ns
/-- what stands between the bytes 0 -/
def rowsAcc (p : Nat) (cur : Nm) : List Int → List (Nat × Nm)
  | [] => []
  | b :: r => if b = 0 then (p, cur) :: rowsAcc (p + cur.length + 1) [] r else rowsAcc p (cur ++ [b]) r
def rowsT (t : List Int) : List (Nat × Nm) := rowsAcc 1 [] (t.drop 1)

theorem uniqGo_append (acc L M : List Nm) : uniqGo acc (L ++ M) = uniqGo (uniqGo acc L) M := by
  induction L generalizing acc with
  | nil => rfl
  | cons s L ih => exact ih _
theorem uniq_snoc (L : List Nm) (s : Nm) : uniq (L ++ [s]) = if s = [] ∨ s ∈ uniq L then uniq L else uniq L ++ [s] := by
  unfold uniq; rw [uniqGo_append]; rfl
theorem uniqGo_mem (s : Nm) : ∀ (L acc : List Nm), s ∈ uniqGo acc L ↔ s ∈ acc ∨ (s ≠ [] ∧ s ∈ L)
  | [], acc => by simp [uniqGo]
  | t :: r, acc => by
    unfold uniqGo
    rw [uniqGo_mem s r]
    by_cases h : t = [] ∨ t ∈ acc
    · rw [if_pos h]
      constructor
      · rintro (h1 | ⟨h1, h2⟩)
        · exact .inl h1
        · exact .inr ⟨h1, List.mem_cons_of_mem _ h2⟩
      · rintro (h1 | ⟨h1, h2⟩)
        · exact .inl h1
        · rcases List.mem_cons.1 h2 with rfl | h2
          · rcases h with h | h
            · exact absurd h h1
            · exact .inl h
          · exact .inr ⟨h1, h2⟩
    · rw [if_neg h]
      constructor
      · rintro (h1 | ⟨h1, h2⟩)
        · rcases List.mem_append.1 h1 with h1 | h1
          · exact .inl h1
          · rw [List.mem_singleton] at h1; subst h1; exact .inr ⟨fun e => h (.inl e), List.mem_cons_self⟩
        · exact .inr ⟨h1, List.mem_cons_of_mem _ h2⟩
      · rintro (h1 | ⟨h1, h2⟩)
        · exact .inl (List.mem_append_left _ h1)
        · rcases List.mem_cons.1 h2 with rfl | h2
          · exact .inl (List.mem_append_right _ (List.mem_singleton.2 rfl))
          · exact .inr ⟨h1, h2⟩
theorem uniq_mem {L : List Nm} {s : Nm} : s ∈ uniq L ↔ s ≠ [] ∧ s ∈ L := by unfold uniq; rw [uniqGo_mem]; simp
theorem uniqGo_nodup : ∀ (L acc : List Nm), acc.Nodup → (uniqGo acc L).Nodup
  | [], acc, h => h
  | t :: r, acc, h => by
    unfold uniqGo
    refine uniqGo_nodup r _ ?_
    by_cases hc : t = [] ∨ t ∈ acc
    · rw [if_pos hc]; exact h
    · rw [if_neg hc, List.nodup_append]
      refine ⟨h, by simp, fun a ha b hb => ?_⟩
      rw [List.mem_singleton] at hb
      subst hb
      rintro rfl
      exact hc (.inr ha)
theorem uniq_nodup (L : List Nm) : (uniq L).Nodup := uniqGo_nodup L [] List.nodup_nil
theorem uniqGo_pre : ∀ (L acc : List Nm), ∃ M, uniqGo acc L = acc ++ M
  | [], acc => ⟨[], by simp [uniqGo]⟩
  | t :: r, acc => by
    unfold uniqGo
    obtain ⟨M, hM⟩ := uniqGo_pre r (if t = [] ∨ t ∈ acc then acc else acc ++ [t])
    by_cases hc : t = [] ∨ t ∈ acc
    · rw [if_pos hc] at hM ⊢; exact ⟨M, hM⟩
    · rw [if_neg hc] at hM ⊢; exact ⟨t :: M, by rw [hM, List.append_assoc]; rfl⟩
/-- the first names' table is a beginning -/
theorem uniq_pre (L M : List Nm) : ∃ K, uniq (L ++ M) = uniq L ++ K := by
  unfold uniq; rw [uniqGo_append]; exact uniqGo_pre _ _
theorem tab_append (ns ms : List Nm) : tabOf (ns ++ ms) = tabOf ns ++ ms.flatMap fun s => s ++ [0] := by simp [tabOf, List.flatMap_append]
theorem tab_snoc (ns : List Nm) (s : Nm) : tabOf (ns ++ [s]) = tabOf ns ++ s ++ [0] := by simp [tabOf, List.flatMap_append]
theorem posGo_mem {s : Nm} : ∀ (ns : List Nm) (p : Nat) (M : List Nm), s ∈ ns → posGo s p (ns ++ M) = posGo s p ns
  | [], p, M, h => by cases h
  | t :: r, p, M, h => by
    simp only [List.cons_append, posGo]
    by_cases e : t = s
    · rw [if_pos e, if_pos e]
    · rw [if_neg e, if_neg e]
      exact posGo_mem r _ M ((List.mem_cons.1 h).resolve_left (fun h => e h.symm))
theorem posGo_new {s : Nm} : ∀ (ns : List Nm) (p : Nat), s ∉ ns → posGo s p (ns ++ [s]) = p + (ns.flatMap fun s => s ++ [0]).length
  | [], p, h => by simp [posGo]
  | t :: r, p, h => by
    simp only [List.cons_append, posGo]
    rw [if_neg (fun e => h (by rw [e]; exact List.mem_cons_self)), posGo_new r _ (fun hm => h (List.mem_cons_of_mem _ hm))]
    simp; omega
theorem pos_new {ns : List Nm} {s : Nm} (h0 : s ≠ []) (h : s ∉ ns) : posOf (ns ++ [s]) s = (tabOf ns).length := by
  unfold posOf tabOf
  rw [if_neg h0, posGo_new ns 1 h, List.length_cons]; omega
theorem pos_mem {ns M : List Nm} {s : Nm} (h : s = [] ∨ s ∈ ns) : posOf (ns ++ M) s = posOf ns s := by
  unfold posOf
  by_cases h0 : s = []
  · rw [if_pos h0, if_pos h0]
  · rw [if_neg h0, if_neg h0, posGo_mem ns 1 M (h.resolve_left h0)]
/-- without a byte 0 -/
def nz (s : Nm) : Prop := ∀ b ∈ s, b ≠ 0
theorem rowsAcc_name : ∀ (s : Nm) (p : Nat) (cur r : List Int), nz s → rowsAcc p cur (s ++ 0 :: r) = (p, cur ++ s) :: rowsAcc (p + (cur ++ s).length + 1) [] r
  | [], p, cur, r, _ => by simp [rowsAcc]
  | b :: s, p, cur, r, h => by
    have hb := h b List.mem_cons_self
    simp only [List.cons_append, rowsAcc]
    rw [if_neg hb, rowsAcc_name s p (cur ++ [b]) r (fun x hx => h x (List.mem_cons_of_mem _ hx))]
    simp
/-- names with where they begin -/
def laid : Nat → List Nm → List (Nat × Nm)
  | _, [] => []
  | p, s :: r => (p, s) :: laid (p + s.length + 1) r
theorem rows_flat : ∀ (ns : List Nm) (p : Nat), (∀ s ∈ ns, nz s) → rowsAcc p [] (ns.flatMap fun s => s ++ [0]) = laid p ns
  | [], p, _ => rfl
  | s :: r, p, h => by
    simp only [List.flatMap_cons, laid]
    rw [List.append_assoc, List.singleton_append, rowsAcc_name s p [] _ (h s List.mem_cons_self), List.nil_append, rows_flat r _ (fun t ht => h t (List.mem_cons_of_mem _ ht))]
theorem rows_tab (ns : List Nm) (h : ∀ s ∈ ns, nz s) : rowsT (tabOf ns) = laid 1 ns := rows_flat ns 1 h
theorem laid_names : ∀ (p : Nat) (ns : List Nm), (laid p ns).map (·.2) = ns
  | _, [] => rfl
  | p, s :: r => by simp [laid, laid_names (p + s.length + 1) r]
theorem laid_find {s : Nm} : ∀ (ns : List Nm) (p : Nat), s ∈ ns → ((laid p ns).find? fun r => decide (r.2 = s)).map (·.1) = some (posGo s p ns)
  | [], p, h => by cases h
  | t :: r, p, h => by
    simp only [laid, posGo, List.find?_cons]
    by_cases e : t = s
    · rw [decide_eq_true e, if_pos e]; rfl
    · rw [decide_eq_false e, if_neg e]
      exact laid_find r _ ((List.mem_cons.1 h).resolve_left (fun h => e h.symm))
/-- names that are not empty and unlike are their own table's -/
theorem uniq_own : ∀ (ns acc : List Nm), (acc ++ ns).Nodup → (∀ s ∈ ns, s ≠ []) → uniqGo acc ns = acc ++ ns
  | [], acc, _, _ => by simp [uniqGo]
  | s :: r, acc, h, h0 => by
    unfold uniqGo
    have hs : ¬ (s = [] ∨ s ∈ acc) := by
      rintro (e | hm)
      · exact h0 s List.mem_cons_self e
      · exact (List.nodup_append.1 h).2.2 s hm s List.mem_cons_self rfl
    rw [if_neg hs, uniq_own r (acc ++ [s]) (by rw [List.append_assoc]; exact h) (fun t ht => h0 t (List.mem_cons_of_mem _ ht)), List.append_assoc]
    rfl
theorem uniq_uniq (L : List Nm) : uniq (uniq L) = uniq L := by
  have := uniq_own (uniq L) [] (by rw [List.nil_append]; exact uniq_nodup L) (fun s hs => (uniq_mem.1 hs).1)
  rwa [List.nil_append] at this
end Go.Proofs.Ytbheeahdbimeiaa
