/-
  What each call of the document's one returns. No conditions.
-/
import Derived.Test.YtccmfhhdpdbabaaRlxB
namespace Go.Proofs.Ytccmfhhdpdbabaa
open Go.RowKit
set_option linter.unusedVariables false
set_option linter.unusedSimpArgs false

/-- the first of five numbers that is not 0 -/
theorem five_cases (a b c d e : Int) : (a = 0 ∧ b = 0 ∧ c = 0 ∧ d = 0 ∧ e = 0) ∨ ((a == 0) = false ∨ (a = 0 ∧ (b == 0) = false) ∨ (a = 0 ∧ b = 0 ∧ (c == 0) = false) ∨ (a = 0 ∧ b = 0 ∧ c = 0 ∧ (d == 0) = false) ∨ (a = 0 ∧ b = 0 ∧ c = 0 ∧ d = 0 ∧ (e == 0) = false)) := by
  by_cases ha : a = 0
  · by_cases hb : b = 0
    · by_cases hc : c = 0
      · by_cases hd : d = 0
        · by_cases he : e = 0
          · exact .inl ⟨ha, hb, hc, hd, he⟩
          · exact .inr (.inr (.inr (.inr (.inr ⟨ha, hb, hc, hd, by simp [he]⟩))))
        · exact .inr (.inr (.inr (.inr (.inl ⟨ha, hb, hc, by simp [hd]⟩))))
      · exact .inr (.inr (.inr (.inl ⟨ha, hb, by simp [hc]⟩)))
    · exact .inr (.inr (.inl ⟨ha, by simp [hb]⟩))
  · exact .inr (.inl (by simp [ha]))
theorem bool_false_of {p : Prop} [Decidable p] (h : ¬ p) : decide p = false := decide_eq_false h
def OneP (x : It) (m : Int) (w : World) : Ending → World → Prop := fun e w' => (∃ v, e = .returned (.tuple #[.int .i64 v, .bool (okIt x m)]) ∧ (okIt x m = true → v = mostB x)) ∧ Below w.heap.size w w'
theorem oneP {x : It} {m v : Int} {b : Bool} {w w' : World} (h1 : b = okIt x m) (h2 : okIt x m = true → v = mostB x) (h3 : Below w.heap.size w w') : OneP x m w (.returned (.tuple #[.int .i64 v, .bool b])) w' := ⟨⟨_, by rw [h1], h2⟩, h3⟩
set_option maxHeartbeats 8000000 in
theorem one_1 (s a t d lo hi m : Int) (w : World) :
    Calls Try.prog 34 #[itV ⟨1, s, a, t, d, lo, hi⟩, .int .i64 m] w (OneP ⟨1, s, a, t, d, lo, hi⟩ m w) := by
  unfold itV
  simp only
  have E : okIt ⟨1, s, a, t, d, lo, hi⟩ m = (decide (a = 0 ∧ t = 0 ∧ d = 0 ∧ lo = 0 ∧ hi = 0) && (decide (0 ≤ s) && decide (s ≤ 67108864))) := rfl
  rcases five_cases a t d lo hi with h | h
  · obtain ⟨rfl, rfl, rfl, rfl, rfl⟩ := h
    by_cases hs : 0 ≤ s
    · have HE := Lib.hid (show decide (s ≤ 67108864) = okIt ⟨1, s, 0, 0, 0, 0, 0⟩ m by rw [E]; simp [hs])
      have hs' : decide (0 ≤ s) = true := decide_eq_true hs
      clear E
      go_enter Try.func34, Try.ntmps34
      go_wp2_with fail
      go_quiet (fail)
      go_wp2_with fail
      go_ret2
      exact oneP HE.out (fun _ => rfl) (below_drewN (below1 w _) _)
    · have HE := Lib.hid (show false = okIt ⟨1, s, 0, 0, 0, 0, 0⟩ m by rw [E]; simp [hs])
      have hs' : decide (0 ≤ s) = false := decide_eq_false hs
      clear E
      go_enter Try.func34, Try.ntmps34
      go_wp2_with fail
      go_quiet (fail)
      go_wp2_with fail
      go_ret2
      exact oneP HE.out (fun _ => rfl) (below_drewN (below1 w _) _)
  · have HE := Lib.hid (show false = okIt ⟨1, s, a, t, d, lo, hi⟩ m by rw [E, decide_eq_false]; rfl; rintro ⟨rfl, rfl, rfl, rfl, rfl⟩; simp at h)
    clear E
    rcases h with h | ⟨rfl, h⟩ | ⟨rfl, rfl, h⟩ | ⟨rfl, rfl, rfl, h⟩ | ⟨rfl, rfl, rfl, rfl, h⟩
    all_goals
      go_enter Try.func34, Try.ntmps34
      go_wp2_with fail
      go_quiet (fail)
      go_wp2_with fail
      go_ret2
      exact oneP HE.out (fun h => by rw [← HE.out] at h; cases h) (below_drewN (below1 w _) _)
set_option maxHeartbeats 8000000 in
theorem one_2 (s a t d lo hi m : Int) (w : World) :
    Calls Try.prog 34 #[itV ⟨2, s, a, t, d, lo, hi⟩, .int .i64 m] w (OneP ⟨2, s, a, t, d, lo, hi⟩ m w) := by
  unfold itV
  simp only
  have E : okIt ⟨2, s, a, t, d, lo, hi⟩ m = (decide (s = 0 ∧ t = 0 ∧ d = 0 ∧ lo = 0 ∧ hi = 0) && (decide (0 ≤ a) && decide (a ≤ 12))) := rfl
  by_cases h0 : 0 ≤ a
  · by_cases h1 : a ≤ 12
    · have PW := Lib.hid (fun W => rpower_any a W h0 h1)
      have hp := pow_le h0 h1
      have w9 : IntKind.i64.wrap (powB a - 1) = powB a - 1 := IntWalk.i64_in _ (by omega)
      have hs0 : decide (a < 0) = false := by simp; omega
      have hs1 : decide (12 < a) = false := by simp; omega
      have HM := Lib.hid (show powB a - 1 = mostB ⟨2, s, a, t, d, lo, hi⟩ from rfl)
      rw [decide_eq_true h0, decide_eq_true h1, Bool.and_true, Bool.and_true] at E
      generalize powB a = R at *
      clear hp h0 h1
      rcases five_cases s t d lo hi with h | h
      · obtain ⟨rfl, rfl, rfl, rfl, rfl⟩ := h
        have HE := Lib.hid (show true = okIt ⟨2, 0, a, 0, 0, 0, 0⟩ m by rw [E]; rfl)
        clear E
        go_enter Try.func34, Try.ntmps34
        go_wp2_with fail
        go_quiet (exact quiet_eq (PW.out _))
        go_wp2_with fail
        go_ret2
        exact oneP HE.out (fun _ => HM.out) (below_drewN (below1 w _) _)
      · have HE := Lib.hid (show false = okIt ⟨2, s, a, t, d, lo, hi⟩ m by rw [E, decide_eq_false]; rintro ⟨rfl, rfl, rfl, rfl, rfl⟩; simp at h)
        clear E
        rcases h with h | ⟨rfl, h⟩ | ⟨rfl, rfl, h⟩ | ⟨rfl, rfl, rfl, h⟩ | ⟨rfl, rfl, rfl, rfl, h⟩
        all_goals
          go_enter Try.func34, Try.ntmps34
          go_wp2_with fail
          go_quiet (exact quiet_eq (PW.out _))
          go_wp2_with fail
          go_ret2
          exact oneP HE.out (fun h => by rw [← HE.out] at h; cases h) (below_drewN (below1 w _) _)
    · have HE := Lib.hid (show false = okIt ⟨2, s, a, t, d, lo, hi⟩ m by rw [E]; simp [h1])
      have hs0 : decide (a < 0) = false := by simp; omega
      have hs1 : decide (12 < a) = true := by simp; omega
      clear E h0 h1
      go_enter Try.func34, Try.ntmps34
      go_wp2_with fail
      go_ret2
      exact oneP HE.out (fun h => by rw [← HE.out] at h; cases h) (below1 w _)
  · have HE := Lib.hid (show false = okIt ⟨2, s, a, t, d, lo, hi⟩ m by rw [E]; simp [h0])
    have hs0 : decide (a < 0) = true := by simp; omega
    clear E h0
    go_enter Try.func34, Try.ntmps34
    go_wp2_with fail
    go_ret2
    exact oneP HE.out (fun h => by rw [← HE.out] at h; cases h) (below1 w _)
end Go.Proofs.Ytccmfhhdpdbabaa
