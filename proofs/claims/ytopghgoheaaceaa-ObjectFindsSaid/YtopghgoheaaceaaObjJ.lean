/-
  What each call of the document's section returns. Conditions: how the section lies.
-/
import Derived.Test.YtopghgoheaaceaaObjG
namespace Go.Proofs.Ytopghgoheaaceaa
open Go.RowKit
set_option linter.unusedVariables false
set_option linter.unusedSimpArgs false

theorem secAlone_e2 (s : Sc) : secAlone s = (secName s.name && ((s.kind == kindB s.name) && (alignOk s.align && (decide (0 ≤ s.size) && (decide (s.size ≤ 1048576) && ((s.data.length : Int) == (if s.kind = 4 then 0 else s.size))))))) := rfl
set_option maxHeartbeats 1600000 in
theorem rsection_any (s : Sc) (m : Int) (w : World) (hin : ScIn w s) (hn : s.name.size ≤ 281474976710656) :
    Calls Try.prog 43 #[scV s, .int .i64 m] w fun e w' => e = .returned (.bool (secOk s m)) ∧ Below w.heap.size w w' := by
  have E : secOk s m = (secAlone s && relOk s m) := rfl
  rw [secAlone_e2] at E
  have RL := Lib.hid (fun (h0 : 0 ≤ s.size) (h1 : s.size ≤ 1048576) (W : World) (hW : Below w.heap.size w W) => rrel_any s m W (hin.keep hW) h0 h1)
  generalize secOk s m = R at *
  generalize relOk s m = Q at *
  obtain ⟨name, kind, align, size, dv, rv, data, rel⟩ := s
  simp only at hn E RL
  obtain ⟨ad, cd, hd⟩ := hin.1.slice
  simp only at hd
  subst hd
  have hdl : data.length ≤ maxLen := by have := RowsO.len hin.1; rwa [List.length_map] at this
  unfold maxLen at hdl
  clear hin
  unfold scV at RL ⊢
  simp only at RL ⊢
  have SN := Lib.hid (fun W => rname_any name W hn)
  have KB := Lib.hid (fun W => rkind_any name W hn)
  have AL := Lib.hid (fun W => ralign_any align W)
  clear hn
  generalize secName name = b1 at *
  generalize kindB name = K at *
  generalize alignOk align = b3 at *
  cases b1 with
  | false =>
    have HE := Lib.hid (E.trans (by rw [Bool.false_and, Bool.false_and]))
    clear E RL
    go_enter Try.func43, Try.ntmps43
    go_wp2_with fail
    go_quiet ((first | exact quiet_eq (SN.out _) | exact quiet_eq (KB.out _) | exact quiet_eq (AL.out _)))
    go_wp2_with fail
    go_ret
    exact ⟨ret1b (by rw [HE.out]), below_drewN (below1 w _) _⟩
  | true =>
    rw [Bool.true_and] at E
    cases c2 : (kind == K) with
    | false =>
      have c2n : (kind != K) = true := by unfold bne; rw [c2]; rfl
      have HE := Lib.hid (E.trans (by rw [c2, Bool.false_and, Bool.false_and]))
      clear E RL
      go_enter Try.func43, Try.ntmps43
      go_wp2_with fail
      go_quiet ((first | exact quiet_eq (SN.out _) | exact quiet_eq (KB.out _) | exact quiet_eq (AL.out _)))
      go_wp2_with fail
      go_ret
      exact ⟨ret1b (by rw [HE.out]), below_drewN (below1 w _) _⟩
    | true =>
      have c2n : (kind != K) = false := by unfold bne; rw [c2]; rfl
      rw [c2, Bool.true_and] at E
      cases b3 with
      | false =>
        have HE := Lib.hid (E.trans (by rw [Bool.false_and, Bool.false_and]))
        clear E RL
        go_enter Try.func43, Try.ntmps43
        go_wp2_with fail
        go_quiet ((first | exact quiet_eq (SN.out _) | exact quiet_eq (KB.out _) | exact quiet_eq (AL.out _)))
        go_wp2_with fail
        go_ret
        exact ⟨ret1b (by rw [HE.out]), below_drewN (below1 w _) _⟩
      | true =>
        rw [Bool.true_and] at E
        by_cases c4 : size < 0
        · rw [decide_eq_false (show ¬ 0 ≤ size by omega), Bool.false_and, Bool.false_and] at E
          replace c4 := decide_eq_true c4
          have HE := Lib.hid (E.trans (by rfl))
          clear E RL
          go_enter Try.func43, Try.ntmps43
          go_wp2_with fail
          go_quiet ((first | exact quiet_eq (SN.out _) | exact quiet_eq (KB.out _) | exact quiet_eq (AL.out _)))
          go_wp2_with fail
          go_ret
          exact ⟨ret1b (by rw [HE.out]), below_drewN (below1 w _) _⟩
        have hs0 : 0 ≤ size := by omega
        rw [decide_eq_true hs0, Bool.true_and] at E
        replace c4 := decide_eq_false c4
        by_cases c5 : 1048576 < size
        · rw [decide_eq_false (show ¬ size ≤ 1048576 by omega), Bool.false_and, Bool.false_and] at E
          replace c5 := decide_eq_true c5
          have HE := Lib.hid (E.trans (by rfl))
          clear E RL
          go_enter Try.func43, Try.ntmps43
          go_wp2_with fail
          go_quiet ((first | exact quiet_eq (SN.out _) | exact quiet_eq (KB.out _) | exact quiet_eq (AL.out _)))
          go_wp2_with fail
          go_ret
          exact ⟨ret1b (by rw [HE.out]), below_drewN (below1 w _) _⟩
        have hs1 : size ≤ 1048576 := by omega
        have RL2 := Lib.hid (RL.out hs0 hs1)
        clear RL
        rw [decide_eq_true hs1, Bool.true_and] at E
        replace c5 := decide_eq_false c5
        by_cases h4 : kind = 4
        · rw [if_pos h4] at E
          subst h4
          cases c6 : ((data.length : Int) == 0) with
          | false =>
            have c6n : (data.length == 0) = false := by rw [← Bool.not_eq_true, beq_iff_eq]; intro h; rw [h] at c6; cases c6
            rw [c6, Bool.false_and] at E
            have HE := Lib.hid E
            clear E
            clear hs0 hs1 hdl
            go_enter Try.func43, Try.ntmps43
            go_wp2_with fail
            go_quiet ((first | exact quiet_eq (SN.out _) | exact quiet_eq (KB.out _) | exact quiet_eq (AL.out _)))
            go_wp2_with fail
            go_ret
            exact ⟨ret1b (by rw [HE.out]), below_drewN (below1 w _) _⟩
          | true =>
            have c6n : data.length = 0 := by rw [beq_iff_eq] at c6; omega
            rw [c6, Bool.true_and] at E
            have HE := Lib.hid E
            clear E
            clear hs0 hs1 hdl
            obtain rfl : data = [] := List.eq_nil_of_length_eq_zero c6n
            simp only [List.length_nil] at RL2 ⊢
            clear c6n c6
            go_enter Try.func43, Try.ntmps43
            go_wp2_with fail
            go_quiet ((first | exact quiet_eq (SN.out _) | exact quiet_eq (KB.out _) | exact quiet_eq (AL.out _)))
            go_wp2_with fail
            refine (RL2.out _ ?hw).mono ?_; case hw => exact below_drewN (below1 w _) _
            rintro e w2 ⟨rfl, hb2⟩
            have HB2 := Lib.hid (Below.thn (below_drewN (below1 w _) _) (by simp) hb2)
            clear hb2
            go_wp2_with fail
            go_ret
            exact ⟨ret1b (by rw [HE.out]), HB2.out⟩
        · rw [if_neg h4] at E
          have h4b : (kind == 4) = false := by simpa using h4
          clear h4
          cases c6 : ((data.length : Int) == size) with
          | false =>
            rw [c6, Bool.false_and] at E
            have HE := Lib.hid E
            clear E
            clear hs0 hs1 hdl
            go_enter Try.func43, Try.ntmps43
            go_wp2_with fail
            go_quiet ((first | exact quiet_eq (SN.out _) | exact quiet_eq (KB.out _) | exact quiet_eq (AL.out _)))
            go_wp2_with fail
            go_ret
            exact ⟨ret1b (by rw [HE.out]), below_drewN (below1 w _) _⟩
          | true =>
            rw [c6, Bool.true_and] at E
            have HE := Lib.hid E
            clear E
            clear hs0 hs1 hdl
            go_enter Try.func43, Try.ntmps43
            go_wp2_with fail
            go_quiet ((first | exact quiet_eq (SN.out _) | exact quiet_eq (KB.out _) | exact quiet_eq (AL.out _)))
            go_wp2_with fail
            refine (RL2.out _ ?hw).mono ?_; case hw => exact below_drewN (below1 w _) _
            rintro e w2 ⟨rfl, hb2⟩
            have HB2 := Lib.hid (Below.thn (below_drewN (below1 w _) _) (by simp) hb2)
            clear hb2
            go_wp2_with fail
            go_ret
            exact ⟨ret1b (by rw [HE.out]), HB2.out⟩
end Go.Proofs.Ytopghgoheaaceaa
