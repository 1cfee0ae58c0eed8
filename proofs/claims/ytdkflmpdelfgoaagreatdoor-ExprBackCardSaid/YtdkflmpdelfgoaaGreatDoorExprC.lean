/-
  may, hasSymbols: what each call returns. Conditions: none but the sizes that each lemma states.
-/
import Derived.Test.YtdkflmpdelfgoaaGreatDoorExprB
namespace Go.Proofs.YtdkflmpdelfgoaaGreatDoor
open Go.RowKit Go.Shelf
set_option linter.unusedVariables false
attribute [local go_sem] Oper.semAt_some

/-- a term -/
structure Tm where
  k : Int
  n : Int
  s : BA
abbrev V3 := Int × BA × BA
abbrev E0 : BA := ⟨#[]⟩
def tmV (t : Tm) : Value := .agg #[.int .i64 t.k, .int .i64 t.n, .string t.s]
def vlV (v : V3) : Value := .agg #[.int .i64 v.1, .string v.2.1, .string v.2.2]
def mayB (t : Tm) : Bool :=
  if t.k = 1 then decide (t.s = E0) else if t.k = 2 then decide (t.n = 0) && symB t.s.data.toList else decide (3 ≤ t.k) && decide (t.k ≤ 14) && decide (t.n = 0) && decide (t.s = E0)
theorem emp_eq (s : BA) : (ByteArray.toList s).isEmpty = decide (s = E0) := by
  by_cases h : s = E0
  · subst h
    rw [decide_eq_true rfl, ByteArray.toList_eq]; rfl
  · rw [decide_eq_false h]
    cases hc : (ByteArray.toList s) with
    | nil =>
      rw [ByteArray.toList_eq] at hc
      exact absurd (ByteArray.ext (Array.ext' hc)) h
    | cons a l => rfl
set_option maxRecDepth 100000 in
set_option maxHeartbeats 4000000 in
theorem may_any (t : Tm) (w : World) (hs : t.s.size ≤ maxLen) :
    Calls Tryz.prog 28 #[tmV t] w fun e w' => e = .returned (.bool (mayB t)) ∧ Below w.heap.size w w' := by
  obtain ⟨k, n, s⟩ := t
  have IS := Lib.hid (fun V => isSym_any s V hs)
  unfold mayB tmV
  simp only
  clear hs
  by_cases h1 : k = 1
  · subst h1
    rw [if_pos rfl]
    go_enter Tryz.func28, Tryz.ntmps28
    go_wp2_with fail
    rw [emp_eq]
    go_ret
    exact ⟨rfl, below1 w _⟩
  · rw [if_neg h1]
    by_cases h2 : k = 2
    · subst h2
      rw [if_pos rfl]
      by_cases h3 : n = 0
      · subst h3
        go_enter Tryz.func28, Tryz.ntmps28
        go_wp2_with fail
        refine (IS.out _).mono ?_
        rintro e w1 ⟨rfl, rfl⟩
        go_wp2_with fail
        go_ret
        exact ⟨rfl, below1 w _⟩
      · rw [decide_eq_false h3]
        go_enter Tryz.func28, Tryz.ntmps28
        go_wp2_with fail
        go_ret
        exact ⟨rfl, below1 w _⟩
    · rw [if_neg h2]
      by_cases h3 : 3 ≤ k
      · rw [decide_eq_true h3]
        by_cases h4 : k ≤ 14
        · rw [decide_eq_true h4]
          by_cases h5 : n = 0
          · rw [decide_eq_true h5]
            subst h5
            go_enter Tryz.func28, Tryz.ntmps28
            go_wp2_with fail
            rw [emp_eq]
            go_ret
            exact ⟨rfl, below1 w _⟩
          · rw [decide_eq_false h5]
            go_enter Tryz.func28, Tryz.ntmps28
            go_wp2_with fail
            go_ret
            exact ⟨rfl, below1 w _⟩
        · rw [decide_eq_false h4]
          have h4' : 14 < k := by omega
          clear h4
          go_enter Tryz.func28, Tryz.ntmps28
          go_wp2_with fail
          go_ret
          exact ⟨rfl, below1 w _⟩
      · rw [decide_eq_false h3]
        have h3' : k < 3 := by omega
        clear h3
        go_enter Tryz.func28, Tryz.ntmps28
        go_wp2_with fail
        go_ret
        exact ⟨rfl, below1 w _⟩
end Go.Proofs.YtdkflmpdelfgoaaGreatDoor
