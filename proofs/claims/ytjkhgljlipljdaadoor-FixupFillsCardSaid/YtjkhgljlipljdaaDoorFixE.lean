/-
  What each call of the document's Check, Near, data, Width, Type, Reach and fits returns. Conditions: that a value is within its width.
-/
import Derived.Test.YtjkhgljlipljdaaDoorFixD
namespace Go.Proofs.YtjkhgljlipljdaaDoor
open Go.RowKit
set_option linter.unusedVariables false
set_option linter.unusedSimpArgs false

theorem chk_yes {k s : Int} (h : 1 ≤ k ∧ k ≤ 12 ∧ (s = 0 ∨ (k = 9 ∧ 0 ≤ s ∧ s ≤ 3))) : chkI k s = 0 := by
  unfold chkI holeOk
  rw [if_pos]
  simp only [Bool.and_eq_true, Bool.or_eq_true, decide_eq_true_eq]
  exact h
theorem chk_no {k s : Int} (h : ¬ (1 ≤ k ∧ k ≤ 12 ∧ (s = 0 ∨ (k = 9 ∧ 0 ≤ s ∧ s ≤ 3)))) : chkI k s = 1 := by
  unfold chkI holeOk
  rw [if_neg]
  simp only [Bool.and_eq_true, Bool.or_eq_true, decide_eq_true_eq]
  exact h
set_option maxHeartbeats 2000000 in
theorem rcheck_any (h : Hl) (w : World) :
    Calls Tryd.prog 16 #[hlV h] w fun e w' => e = .returned (.int .i64 (chkI h.k h.s)) ∧ Below w.heap.size w w' := by
  obtain ⟨k, s, a, p, m⟩ := h
  unfold hlV
  simp only
  by_cases h9 : k = 9
  · subst h9
    go_enter Tryd.func16, Tryd.ntmps16
    go_wp2_with fail
    all_goals go_ret
    all_goals first | exact ⟨ret1 (chk_yes (by omega)).symm, below1 w _⟩ | exact ⟨ret1 (chk_no (by omega)).symm, below1 w _⟩
  have b9 : (k != 9) = true := by simp [h9]
  go_enter Tryd.func16, Tryd.ntmps16
  go_wp2_with fail
  all_goals go_ret
  all_goals first | exact ⟨ret1 (chk_yes (by omega)).symm, below1 w _⟩ | exact ⟨ret1 (chk_no (by omega)).symm, below1 w _⟩
theorem near_any (h : Hl) (w : World) :
    Calls Tryd.prog 30 #[hlV h] w fun e w' => e = .returned (.bool (decide (h.k ≤ 6))) ∧ Below w.heap.size w w' := by
  obtain ⟨k, s, a, p, m⟩ := h
  unfold hlV
  go_enter Tryd.func30, Tryd.ntmps30
  go_wp2
  go_ret
  exact ⟨rfl, below1 w _⟩
theorem data_any (h : Hl) (w : World) :
    Calls Tryd.prog 43 #[hlV h] w fun e w' => e = .returned (.bool (decide (10 ≤ h.k))) ∧ Below w.heap.size w w' := by
  obtain ⟨k, s, a, p, m⟩ := h
  unfold hlV
  go_enter Tryd.func43, Tryd.ntmps43
  go_wp2
  go_ret
  exact ⟨rfl, below1 w _⟩
set_option maxHeartbeats 4000000 in
theorem rwidth_any (h : Hl) (w : World) :
    Calls Tryd.prog 18 #[hlV h] w fun e w' => e = .returned (.int .i64 (shR h.k h.s).w) ∧ Below w.heap.size w w' := by
  have CK := Lib.hid (fun W => rcheck_any h W)
  obtain ⟨k, s, a, p, m⟩ := h
  skip
  unfold hlV chkI shR at *
  simp only at *
  cases hok : holeOk k s with
  | false =>
    simp only [hok, Bool.false_eq_true, if_false] at *
    go_enter Tryd.func18, Tryd.ntmps18
    go_wp2_with fail
    refine (CK.out _).mono ?_
    rintro e w1 ⟨rfl, hb1⟩
    obtain ⟨g1, hbw, hz⟩ := kept1 hb1
    have HB1 := Lib.hid hbw
    clear hb1 g1 hbw hz
    go_wp2_with fail
    go_returns
    exact ⟨rfl, HB1.out⟩
  | true =>
    obtain ⟨x, hx, rfl, rfl⟩ := holes_all hok
    have hok2 := hok
    clear hok
    simp only [hok2, if_true] at *
    simp only [holesL, List.mem_cons, List.mem_nil_iff, or_false] at hx
    rcases hx with rfl | rfl | rfl | rfl | rfl | rfl | rfl | rfl | rfl | rfl | rfl | rfl | rfl | rfl | rfl
    all_goals
      go_enter Tryd.func18, Tryd.ntmps18
      go_wp2_with fail
      refine (CK.out _).mono ?_
      rintro e w1 ⟨rfl, hb1⟩
      obtain ⟨g1, hbw, hz⟩ := kept1 hb1
      obtain ⟨c0, c1, c2, c3, c4⟩ := five g1
      have HB1 := Lib.hid hbw
      clear hb1 g1 hbw hz
      go_wp2_with fail
      go_returns
      exact ⟨by rfl, HB1.out⟩
set_option maxHeartbeats 4000000 in
theorem rtype_false (h : Hl) (w : World) :
    Calls Tryd.prog 13 #[hlV h, .bool false] w fun e w' => e = .returned (.tuple #[.int .i64 (typI h.k h.s false), .int .i64 (typE h.k h.s false)]) ∧ Below w.heap.size w w' := by
  have CK := Lib.hid (fun W => rcheck_any h W)
  obtain ⟨k, s, a, p, m⟩ := h
  unfold typI typE
  unfold hlV chkI shR at *
  simp only at *
  cases hok : holeOk k s with
  | false =>
    simp only [hok, Bool.false_eq_true, if_false] at *
    go_enter Tryd.func13, Tryd.ntmps13
    go_wp2_with fail
    refine (CK.out _).mono ?_
    rintro e w1 ⟨rfl, hb1⟩
    obtain ⟨g1, hbw, hz⟩ := kept1 hb1
    have HB1 := Lib.hid hbw
    clear hb1 g1 hbw hz
    go_wp2_with fail
    go_returns
    exact ⟨rfl, HB1.out⟩
  | true =>
    obtain ⟨x, hx, rfl, rfl⟩ := holes_all hok
    have hok2 := hok
    clear hok
    simp only [hok2, if_true] at *
    simp only [holesL, List.mem_cons, List.mem_nil_iff, or_false] at hx
    rcases hx with rfl | rfl | rfl | rfl | rfl | rfl | rfl | rfl | rfl | rfl | rfl | rfl | rfl | rfl | rfl
    all_goals
      go_enter Tryd.func13, Tryd.ntmps13
      go_wp2_with fail
      refine (CK.out _).mono ?_
      rintro e w1 ⟨rfl, hb1⟩
      obtain ⟨g1, hbw, hz⟩ := kept1 hb1
      obtain ⟨c0, c1, c2, c3, c4⟩ := five g1
      have HB1 := Lib.hid hbw
      clear hb1 g1 hbw hz
      go_wp2_with fail
      go_returns
      exact ⟨by rfl, HB1.out⟩
set_option maxHeartbeats 4000000 in
theorem rtype_true (h : Hl) (w : World) :
    Calls Tryd.prog 13 #[hlV h, .bool true] w fun e w' => e = .returned (.tuple #[.int .i64 (typI h.k h.s true), .int .i64 (typE h.k h.s true)]) ∧ Below w.heap.size w w' := by
  have CK := Lib.hid (fun W => rcheck_any h W)
  obtain ⟨k, s, a, p, m⟩ := h
  unfold typI typE
  unfold hlV chkI shR at *
  simp only at *
  cases hok : holeOk k s with
  | false =>
    simp only [hok, Bool.false_eq_true, if_false] at *
    go_enter Tryd.func13, Tryd.ntmps13
    go_wp2_with fail
    refine (CK.out _).mono ?_
    rintro e w1 ⟨rfl, hb1⟩
    obtain ⟨g1, hbw, hz⟩ := kept1 hb1
    have HB1 := Lib.hid hbw
    clear hb1 g1 hbw hz
    go_wp2_with fail
    go_returns
    exact ⟨rfl, HB1.out⟩
  | true =>
    obtain ⟨x, hx, rfl, rfl⟩ := holes_all hok
    have hok2 := hok
    clear hok
    simp only [hok2, if_true] at *
    simp only [holesL, List.mem_cons, List.mem_nil_iff, or_false] at hx
    rcases hx with rfl | rfl | rfl | rfl | rfl | rfl | rfl | rfl | rfl | rfl | rfl | rfl | rfl | rfl | rfl
    all_goals
      go_enter Tryd.func13, Tryd.ntmps13
      go_wp2_with fail
      refine (CK.out _).mono ?_
      rintro e w1 ⟨rfl, hb1⟩
      obtain ⟨g1, hbw, hz⟩ := kept1 hb1
      obtain ⟨c0, c1, c2, c3, c4⟩ := five g1
      have HB1 := Lib.hid hbw
      clear hb1 g1 hbw hz
      go_wp2_with fail
      go_returns
      exact ⟨by rfl, HB1.out⟩
theorem rtype_any (h : Hl) (far : Bool) (w : World) :
    Calls Tryd.prog 13 #[hlV h, .bool far] w fun e w' => e = .returned (.tuple #[.int .i64 (typI h.k h.s far), .int .i64 (typE h.k h.s far)]) ∧ Below w.heap.size w w' := by
  cases far
  · exact rtype_false h w
  · exact rtype_true h w
set_option maxHeartbeats 4000000 in
theorem rreach_any (h : Hl) (w : World) :
    Calls Tryd.prog 11 #[hlV h] w fun e w' => e = .returned (.tuple #[.int .i64 (shR h.k h.s).l, .int .i64 (shR h.k h.s).m, .int .i64 (shR h.k h.s).t, .bool (filledB (shR h.k h.s))]) ∧ Below w.heap.size w w' := by
  have CK := Lib.hid (fun W => rcheck_any h W)
  obtain ⟨k, s, a, p, m⟩ := h
  skip
  unfold hlV chkI shR at *
  simp only at *
  cases hok : holeOk k s with
  | false =>
    simp only [hok, Bool.false_eq_true, if_false] at *
    go_enter Tryd.func11, Tryd.ntmps11
    go_wp2_with fail
    refine (CK.out _).mono ?_
    rintro e w1 ⟨rfl, hb1⟩
    obtain ⟨g1, hbw, hz⟩ := kept1 hb1
    have HB1 := Lib.hid hbw
    clear hb1 g1 hbw hz
    go_wp2_with fail
    go_returns
    exact ⟨rfl, HB1.out⟩
  | true =>
    obtain ⟨x, hx, rfl, rfl⟩ := holes_all hok
    have hok2 := hok
    clear hok
    simp only [hok2, if_true] at *
    simp only [holesL, List.mem_cons, List.mem_nil_iff, or_false] at hx
    rcases hx with rfl | rfl | rfl | rfl | rfl | rfl | rfl | rfl | rfl | rfl | rfl | rfl | rfl | rfl | rfl
    all_goals
      go_enter Tryd.func11, Tryd.ntmps11
      go_wp2_with fail
      refine (CK.out _).mono ?_
      rintro e w1 ⟨rfl, hb1⟩
      obtain ⟨g1, hbw, hz⟩ := kept1 hb1
      obtain ⟨c0, c1, c2, c3, c4⟩ := five g1
      have HB1 := Lib.hid hbw
      clear hb1 g1 hbw hz
      go_wp2_with fail
      go_returns
      exact ⟨by rfl, HB1.out⟩
theorem rfits_any (h : Hl) (v : Int) (w : World) :
    Calls Tryd.prog 44 #[hlV h, .int .i64 v] w fun e w' => e = .returned (.bool (filledB (shR h.k h.s) && fitsB (shR h.k h.s) v)) ∧ Below w.heap.size w w' := by
  have RE := Lib.hid (fun W => rreach_any h W)
  have hT := shR_t h.k h.s
  obtain ⟨k, s, a, p, m⟩ := h
  unfold hlV at *
  simp only at *
  generalize shR k s = S at *
  obtain ⟨x0, x1, x2, x3, l, m', t⟩ := S
  unfold filledB fitsB at *
  simp only at *
  by_cases h0 : t = 0
  · subst h0
    go_enter Tryd.func44, Tryd.ntmps44
    go_wp2_with fail
    refine (RE.out _).mono ?_
    rintro e w1 ⟨rfl, hb1⟩
    obtain ⟨g1, hbw, hz⟩ := kept1 hb1
    have HB1 := Lib.hid hbw
    clear hb1 g1 hbw hz
    go_wp2_with fail
    go_ret
    exact ⟨rfl, HB1.out⟩
  · have ht : t = 1 ∨ t = 4 := by omega
    have b0 : (t != 0) = true := by simp [h0]
    rw [b0] at RE ⊢
    rw [Bool.true_and]
    clear hT h0 b0
    by_cases h1 : l ≤ v
    · by_cases h2 : v ≤ m'
      · rw [decide_eq_true h1, decide_eq_true h2, Bool.true_and, Bool.true_and]
        rcases ht with rfl | rfl
        all_goals
          go_enter Tryd.func44, Tryd.ntmps44
          go_wp2_with fail
          refine (RE.out _).mono ?_
          rintro e w1 ⟨rfl, hb1⟩
          obtain ⟨g1, hbw, hz⟩ := kept1 hb1
          have HB1 := Lib.hid hbw
          clear hb1 g1 hbw hz
          go_wp2_with fail
          go_ret
          exact ⟨ret1b (by simp), HB1.out⟩
      · rw [decide_eq_true h1, decide_eq_false h2]
        go_enter Tryd.func44, Tryd.ntmps44
        go_wp2_with fail
        refine (RE.out _).mono ?_
        rintro e w1 ⟨rfl, hb1⟩
        obtain ⟨g1, hbw, hz⟩ := kept1 hb1
        have HB1 := Lib.hid hbw
        clear hb1 g1 hbw hz
        go_wp2_with fail
        go_ret
        exact ⟨rfl, HB1.out⟩
    · rw [decide_eq_false h1]
      go_enter Tryd.func44, Tryd.ntmps44
      go_wp2_with fail
      refine (RE.out _).mono ?_
      rintro e w1 ⟨rfl, hb1⟩
      obtain ⟨g1, hbw, hz⟩ := kept1 hb1
      have HB1 := Lib.hid hbw
      clear hb1 g1 hbw hz
      go_wp2_with fail
      go_ret
      exact ⟨rfl, HB1.out⟩
end Go.Proofs.YtjkhgljlipljdaaDoor
