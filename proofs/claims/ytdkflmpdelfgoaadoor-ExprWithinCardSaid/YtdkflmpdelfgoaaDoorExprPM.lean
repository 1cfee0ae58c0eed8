/-
  What the parser reads: how its state goes on. No program. Conditions: none.
-/
import Derived.Test.YtdkflmpdelfgoaaDoorExprX
namespace Go.Proofs.YtdkflmpdelfgoaaDoor
open Go.RowKit Go.Shelf
set_option linter.unusedVariables false
set_option linter.unusedSimpArgs false

theorem bind_ok {x : Except Int St} {k : St → Except Int St} {s' : St} (h : x.bind k = .ok s') : ∃ s1, x = .ok s1 ∧ k s1 = .ok s' := by
  cases x with
  | ok s1 => exact ⟨s1, rfl, h⟩
  | error e => cases h
def Job.adv : Job → Nat
  | .loop _ => 0
  | _ => 1
/-- what a state that is read keeps of the one before -/
def Fin (T : List Tok) (d : Nat) (s s' : St) : Prop := s.at_ + d ≤ s'.at_ ∧ s'.at_ ≤ T.length ∧ s'.op = s.op ∧ s'.tms.length + s.cnt = s.tms.length + s'.cnt ∧ s'.cnt + s.at_ ≤ s.cnt + s'.at_
theorem leafF_ok {s s' : St} {t : Tm} (h : leafF s t = .ok s') : s' = ⟨s.at_ + 1, s.tms ++ [t], s.cnt + 1, s.op⟩ ∧ s.cnt + 1 ≤ 256 := by
  unfold leafF at h
  split at h
  · cases h
  · cases h; exact ⟨rfl, by omega⟩
theorem enterF_ok {s s' : St} (h : enterF s = .ok s') : s' = ⟨s.at_ + 1, s.tms, s.cnt, s.op + 1⟩ ∧ s.op + 1 ≤ 64 := by
  unfold enterF at h
  split at h
  · cases h
  · cases h; exact ⟨rfl, by omega⟩
theorem readF_num {x : Tok} (h : readF x = .num) : x.k = 2 := by
  unfold readF at h
  split at h
  · assumption
  · split at h
    · cases h
    · split at h
      · cases h
      · split at h <;> cases h
theorem readF_sym {x : Tok} (h : readF x = .sym) : x.k = 1 ∧ symB x.t = true := by
  unfold readF at h
  split at h
  · cases h
  · split at h
    · assumption
    · split at h
      · cases h
      · split at h <;> cases h
theorem readF_wit {x : Tok} (h : readF x = .wit) : isG x BO = true := by
  unfold readF at h
  split at h
  · cases h
  · split at h
    · cases h
    · split at h
      · assumption
      · split at h <;> cases h
theorem readF_beh {x : Tok} {k : Nat} (h : readF x = .beh k) : opOf x 1 = some k := by
  unfold readF at h
  split at h
  · cases h
  · split at h
    · cases h
    · split at h
      · cases h
      · split at h
        · rename_i ho; cases h; exact ho
        · cases h
theorem runP_fin {T : List Tok} : ∀ (f : Nat) (j : Job) (s s' : St), runP T f j s = .ok s' → s.at_ ≤ T.length → Fin T j.adv s s'
  | 0, j, s, s', h, hat => by cases j <;> cases h
  | f + 1, .row g, s, s', h, hat => by
    rw [runP] at h
    obtain ⟨s1, h1, h2⟩ := bind_ok h
    obtain ⟨a1, a2, a3, a4, a5⟩ := runP_fin f _ _ _ h1 hat
    obtain ⟨b1, b2, b3, b4, b5⟩ := runP_fin f _ _ _ h2 a2
    simp only [Job.adv] at a1 b1 ⊢
    exact ⟨by omega, b2, b3.trans a3, by omega, by omega⟩
  | f + 1, .loop g, s, s', h, hat => by
    rw [runP] at h
    split at h
    · cases h; simp only [Job.adv]; exact ⟨by omega, hat, rfl, by omega, by omega⟩
    · rename_i k hk
      have hlt := next_lt (opOf_k hk)
      split at h
      · cases h; simp only [Job.adv]; exact ⟨by omega, hat, rfl, by omega, by omega⟩
      · obtain ⟨s1, h1, h2⟩ := bind_ok h
        obtain ⟨a1, a2, a3, a4, a5⟩ := runP_fin f _ _ _ h1 (show s.at_ + 1 ≤ T.length by omega)
        obtain ⟨b1, b2, b3, b4, b5⟩ := runP_fin f _ _ _ h2 a2
        simp only [Job.adv, List.length_append, List.length_cons, List.length_nil] at a1 a3 a4 a5 b1 b3 b4 b5 ⊢
        exact ⟨by omega, b2, by omega, by omega, by omega⟩
  | f + 1, .opd, s, s', h, hat => by
    rw [runP] at h
    split at h
    · rename_i hr
      have hlt := next_lt (T := T) (s := s) (by rw [readF_num hr]; decide)
      obtain ⟨rfl, h2⟩ := leafF_ok h
      simp only [Fin, Job.adv, List.length_append, List.length_cons, List.length_nil]
      exact ⟨by omega, by omega, trivial, by omega, by omega⟩
    · rename_i hr
      have hlt := next_lt (T := T) (s := s) (by rw [(readF_sym hr).1]; decide)
      obtain ⟨rfl, h2⟩ := leafF_ok h
      simp only [Fin, Job.adv, List.length_append, List.length_cons, List.length_nil]
      exact ⟨by omega, by omega, trivial, by omega, by omega⟩
    · rename_i hr
      have hlt := next_lt (T := T) (s := s) (isG_k (readF_wit hr))
      obtain ⟨s1, h1, h2⟩ := bind_ok h
      obtain ⟨rfl, _⟩ := enterF_ok h1
      obtain ⟨s2, h3, h4⟩ := bind_ok h2
      obtain ⟨a1, a2, a3, a4, a5⟩ := runP_fin f _ _ _ h3 (show s.at_ + 1 ≤ T.length by omega)
      split at h4
      · rename_i hg
        have hlt2 := next_lt (T := T) (s := s2) (isG_k hg)
        cases h4
        simp only [Fin, Job.adv] at *
        exact ⟨by omega, by omega, by omega, by omega, by omega⟩
      · cases h4
    · rename_i k hr
      have hlt := next_lt (T := T) (s := s) (opOf_k (readF_beh hr))
      obtain ⟨s1, h1, h2⟩ := bind_ok h
      obtain ⟨rfl, _⟩ := enterF_ok h1
      obtain ⟨s2, h3, h4⟩ := bind_ok h2
      obtain ⟨a1, a2, a3, a4, a5⟩ := runP_fin f _ _ _ h3 (show s.at_ + 1 ≤ T.length by omega)
      cases h4
      simp only [Fin, Job.adv, List.length_append, List.length_cons, List.length_nil] at *
      exact ⟨by omega, by omega, by omega, by omega, by omega⟩
    · cases h
end Go.Proofs.YtdkflmpdelfgoaaDoor
