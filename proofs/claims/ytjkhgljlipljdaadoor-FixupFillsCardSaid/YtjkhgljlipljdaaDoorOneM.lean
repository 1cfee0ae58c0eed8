/-
  FixupOne: the law's walk.
-/
import Derived.Test.YtjkhgljlipljdaaDoorEncDoor
namespace Go.Proofs.YtjkhgljlipljdaaDoor
open Go.RowKit
set_option linter.unusedVariables false
set_option linter.unusedSimpArgs false
theorem fillR_cases {h : Sh} {n : Int} (hn : in64 n) : ((fillR h n).2 ≠ 0 ∧ (fillR h n).1 = fx0) ∨ ((fillR h n).2 = 0 ∧ ∃ m, (fillR h n).1 = ⟨true, m, false, 0, 0, 0, 0⟩ ∧ filledB h = true ∧ fitsB h m = true ∧ in64 m) := by
  unfold fillR fillF fillE
  cases h1 : filledB h with
  | false => exact .inl ⟨by simp, by simp⟩
  | true =>
    cases h2 : fitsB h n with
    | false => exact .inl ⟨by simp, by simp⟩
    | true => exact .inr ⟨by simp, n, by simp, rfl, h2, hn⟩
theorem relR_cases {h : Sh} {far : Bool} {off : Int} {v : Sm} : ((relR h far off v).2 ≠ 0 ∧ (relR h far off v).1 = fx0) ∨ ((relR h far off v).2 = 0 ∧ (relR h far off v).1.pt = false ∧ (relR h far off v).1.rl = true ∧ (relR h far off v).1.v = 0) := by
  unfold relR
  split
  · exact .inl ⟨by simp, rfl⟩
  split
  · exact .inl ⟨by simp, rfl⟩
  split
  · exact .inl ⟨by simp, rfl⟩
  · exact .inr ⟨rfl, rfl, rfl, rfl⟩
/-- one or the other -/
def OneR (sh : Sh) (ok : Bool) (R : Fx × Int) : Prop := (R.2 ≠ 0 ∧ R.1 = fx0) ∨ (R.2 = 0 ∧ R.1.pt = false ∧ R.1.rl = true ∧ R.1.v = 0) ∨ (R.2 = 0 ∧ ∃ m, R.1 = ⟨true, m, false, 0, 0, 0, 0⟩ ∧ ok = true ∧ filledB sh = true ∧ fitsB sh m = true ∧ in64 m)
theorem one_fill {h : Sh} {n : Int} (hn : in64 n) : OneR h true (fillR h n) := by
  rcases fillR_cases (h := h) hn with a | ⟨a, m, b, c, d, e⟩
  · exact .inl a
  · exact .inr (.inr ⟨a, m, b, rfl, c, d, e⟩)
theorem one_rel {h : Sh} {far : Bool} {off : Int} {v : Sm} : OneR h true (relR h far off v) := by
  rcases relR_cases (h := h) (far := far) (off := off) (v := v) with a | a
  · exact .inl a
  · exact .inr (.inl a)
theorem one_none {h : Sh} {ok : Bool} {e : Int} (he : e ≠ 0) : OneR h ok (fx0, e) := .inl ⟨he, rfl⟩
theorem one_math (h : Hl) (sec off : Int) (L : List Sy) (ha : in64 h.a) : OneR (shR h.k h.s) (holeOk h.k h.s) (resO h sec off L) := by
  unfold resO
  cases hok : holeOk h.k h.s with
  | false => exact one_none (by decide)
  | true =>
    rw [if_pos rfl]
    cases hs : sumO h.a (findP sec off L h.p) (findP sec off L h.m) with
    | none => exact one_none (by decide)
    | some v =>
      have hv : in64 v.n := by
        unfold sumO at hs
        split at hs
        · cases hs; exact reck_in ha
        · cases hs
      show OneR _ _ (fixR sec off (shR h.k h.s) v)
      unfold fixR
      split
      · split
        · exact one_rel
        · exact one_none (by decide)
      · split
        · split
          · exact one_fill (wrap_in _)
          · exact one_rel
        · split
          · exact one_none (by decide)
          · exact one_fill hv
end Go.Proofs.YtjkhgljlipljdaaDoor
