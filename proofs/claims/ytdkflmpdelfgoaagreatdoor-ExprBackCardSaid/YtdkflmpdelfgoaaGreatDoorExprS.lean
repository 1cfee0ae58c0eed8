/-
  Sums of values: the order counts for nothing, a value and itself negative come to 0, numbers are added as numbers are. No program.
-/
import Derived.Test.YtdkflmpdelfgoaaGreatDoorExprJ
namespace Go.Proofs.YtdkflmpdelfgoaaGreatDoor
open Go.RowKit Go.Shelf
set_option linter.unusedVariables false
set_option linter.unusedSimpArgs false

theorem e_app (s : BA) : E0 ++ s = s := by
  apply ByteArray.ext
  rw [ByteArray.data_append]
  exact Array.empty_append
theorem app_e (s : BA) : s ++ E0 = s := by
  apply ByteArray.ext
  rw [ByteArray.data_append]
  exact Array.append_empty
theorem sum_st_comm (ap am bp bm : BA) : let s := stF ap bp am bm 2; let r := stF bp ap bm am 2
    (hasE s.1 s.2.1 && hasE s.2.2.1 s.2.2.2) = (hasE r.1 r.2.1 && hasE r.2.2.1 r.2.2.2) ∧ ((hasE s.1 s.2.1 && hasE s.2.2.1 s.2.2.2) = true → s.1 ++ s.2.1 = r.1 ++ r.2.1 ∧ s.2.2.1 ++ s.2.2.2 = r.2.2.1 ++ r.2.2.2) := by
  intro s r
  have ex : ∀ x : BA, x ≠ E0 → ¬ (E0 = x) := fun x h e => h e.symm
  by_cases h1 : ap = E0
  · subst h1
    by_cases h2 : bp = E0
    · subst h2
      by_cases h3 : am = E0 <;> by_cases h4 : bm = E0 <;> simp_all [s, r, stF, clr, hasE, e_app, app_e]
    · have h2' := ex _ h2
      by_cases h3 : am = E0 <;> by_cases h4 : bm = E0 <;> by_cases h5 : am = bp <;> by_cases h6 : bm = bp <;> simp_all [s, r, stF, clr, hasE, e_app, app_e]
  · have h1' := ex _ h1
    by_cases h2 : bp = E0
    · subst h2
      by_cases h3 : am = E0 <;> by_cases h4 : bm = E0 <;> by_cases h5 : am = ap <;> by_cases h6 : bm = ap <;> simp_all [s, r, stF, clr, hasE, e_app, app_e]
    · have h2' := ex _ h2
      by_cases h7 : am = ap <;> by_cases h8 : bm = ap <;> by_cases h5 : am = bp <;> by_cases h6 : bm = bp <;> by_cases h3 : am = E0 <;> by_cases h4 : bm = E0 <;> simp_all [s, r, stF, clr, hasE, e_app, app_e]
theorem sumR_comm (x y : V3) : sumR x y = sumR y x := by
  obtain ⟨a, ap, am⟩ := x
  obtain ⟨b, bp, bm⟩ := y
  obtain ⟨h1, h2⟩ := sum_st_comm ap am bp bm
  unfold sumR sumV
  simp only at h1 h2 ⊢
  rw [← h1]
  by_cases h : (hasE (stF ap bp am bm 2).1 (stF ap bp am bm 2).2.1 && hasE (stF ap bp am bm 2).2.2.1 (stF ap bp am bm 2).2.2.2) = true
  · obtain ⟨e1, e2⟩ := h2 h
    rw [if_pos h, if_pos h]
    simp only [e1, e2, Int.add_comm b a]
  · rw [if_neg h, if_neg h]
theorem wrap_neg (n : Int) : wrap64 (n + wrap64 (-n)) = 0 := by
  unfold wrap64
  omega
theorem sumR_neg (x : V3) : sumR x (negV x) = (Z3, 0) := by
  obtain ⟨n, p, m⟩ := x
  have ex : ∀ x : BA, x ≠ E0 → ¬ (E0 = x) := fun x h e => h e.symm
  have h0 := wrap_neg n
  by_cases h1 : p = E0
  · subst h1
    by_cases h2 : m = E0
    · subst h2
      simp [sumR, sumV, negV, stF, clr, hasE, h0, e_app]
    · have h2' := ex _ h2
      simp_all [sumR, sumV, negV, stF, clr, hasE, e_app, app_e]
  · have h1' := ex _ h1
    by_cases h2 : m = E0
    · subst h2
      simp_all [sumR, sumV, negV, stF, clr, hasE, e_app, app_e]
    · have h2' := ex _ h2
      by_cases h3 : m = p <;> simp_all [sumR, sumV, negV, stF, clr, hasE, e_app, app_e]
theorem sumR_nums (n m : Int) : sumR (n, E0, E0) (m, E0, E0) = ((wrap64 (n + m), E0, E0), 0) := rfl
end Go.Proofs.YtdkflmpdelfgoaaGreatDoor
