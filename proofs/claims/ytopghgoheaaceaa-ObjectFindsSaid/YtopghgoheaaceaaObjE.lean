/-
  What each call of sectionMayBe and of the document's section's first part returns. Conditions: how the section lies.
-/
import Derived.Test.YtopghgoheaaceaaObjD
namespace Go.Proofs.Ytopghgoheaaceaa
open Go.RowKit
set_option linter.unusedVariables false
set_option linter.unusedSimpArgs false

theorem secAlone_e (s : Sc) : secAlone s = (secName s.name && ((s.kind == kindB s.name) && (alignOk s.align && (decide (0 ≤ s.size) && (decide (s.size ≤ 1048576) && ((s.data.length : Int) == (if s.kind = 4 then 0 else s.size))))))) := rfl
set_option maxHeartbeats 8000000 in
theorem secAlone_any (s : Sc) (w : World) (hin : ScIn w s) (hn : s.name.size ≤ 281474976710656) :
    Calls Try.prog 60 #[scV s] w fun e w' => e = .returned (.bool (secAlone s)) ∧ Below w.heap.size w w' := by
  have E := secAlone_e s
  generalize secAlone s = R at *
  obtain ⟨name, kind, align, size, dv, rv, data, rel⟩ := s
  simp only at hn E
  obtain ⟨ad, cd, hd⟩ := hin.1.slice
  simp only at hd
  subst hd
  clear hin
  unfold scV
  simp only
  have SN := Lib.hid (fun W => secName_any name W hn)
  have KB := Lib.hid (fun W => kind_any name W hn)
  have AL := Lib.hid (fun W => align_any align W)
  clear hn
  generalize secName name = b1 at *
  generalize kindB name = K at *
  generalize alignOk align = b3 at *
  cases b1 with
  | false =>
    by_cases h4 : kind = 4
    · subst h4
      have HE := Lib.hid (E.trans (by rw [Bool.false_and]))
      clear E
      go_enter Try.func60, Try.ntmps60
      go_wp2_with fail
      go_quiet ((first | exact quiet_eq (SN.out _) | exact quiet_eq (KB.out _) | exact quiet_eq (AL.out _)))
      go_wp2_with fail
      go_ret
      exact ⟨ret1b (by rw [HE.out]), below_drewN (below1 w _) _⟩
    · skip
      have h4b : (kind == 4) = false := by simpa using h4
      clear h4
      have HE := Lib.hid (E.trans (by rw [Bool.false_and]))
      clear E
      go_enter Try.func60, Try.ntmps60
      go_wp2_with fail
      go_quiet ((first | exact quiet_eq (SN.out _) | exact quiet_eq (KB.out _) | exact quiet_eq (AL.out _)))
      go_wp2_with fail
      go_ret
      exact ⟨ret1b (by rw [HE.out]), below_drewN (below1 w _) _⟩
  | true =>
    rw [Bool.true_and] at E
    cases c2 : (kind == K) with
    | false =>
      by_cases h4 : kind = 4
      · subst h4
        have HE := Lib.hid (E.trans (by rw [c2, Bool.false_and]))
        clear E
        go_enter Try.func60, Try.ntmps60
        go_wp2_with fail
        go_quiet ((first | exact quiet_eq (SN.out _) | exact quiet_eq (KB.out _) | exact quiet_eq (AL.out _)))
        go_wp2_with fail
        go_ret
        exact ⟨ret1b (by rw [HE.out]), below_drewN (below1 w _) _⟩
      · skip
        have h4b : (kind == 4) = false := by simpa using h4
        clear h4
        have HE := Lib.hid (E.trans (by rw [c2, Bool.false_and]))
        clear E
        go_enter Try.func60, Try.ntmps60
        go_wp2_with fail
        go_quiet ((first | exact quiet_eq (SN.out _) | exact quiet_eq (KB.out _) | exact quiet_eq (AL.out _)))
        go_wp2_with fail
        go_ret
        exact ⟨ret1b (by rw [HE.out]), below_drewN (below1 w _) _⟩
    | true =>
      rw [c2, Bool.true_and] at E
      cases b3 with
      | false =>
        by_cases h4 : kind = 4
        · subst h4
          have HE := Lib.hid (E.trans (by rw [Bool.false_and]))
          clear E
          go_enter Try.func60, Try.ntmps60
          go_wp2_with fail
          go_quiet ((first | exact quiet_eq (SN.out _) | exact quiet_eq (KB.out _) | exact quiet_eq (AL.out _)))
          go_wp2_with fail
          go_ret
          exact ⟨ret1b (by rw [HE.out]), below_drewN (below1 w _) _⟩
        · skip
          have h4b : (kind == 4) = false := by simpa using h4
          clear h4
          have HE := Lib.hid (E.trans (by rw [Bool.false_and]))
          clear E
          go_enter Try.func60, Try.ntmps60
          go_wp2_with fail
          go_quiet ((first | exact quiet_eq (SN.out _) | exact quiet_eq (KB.out _) | exact quiet_eq (AL.out _)))
          go_wp2_with fail
          go_ret
          exact ⟨ret1b (by rw [HE.out]), below_drewN (below1 w _) _⟩
      | true =>
        rw [Bool.true_and] at E
        by_cases c4 : 0 ≤ size
        · rw [decide_eq_true c4, Bool.true_and] at E
          replace c4 := decide_eq_true c4
          by_cases c5 : size ≤ 1048576
          · rw [decide_eq_true c5, Bool.true_and] at E
            replace c5 := decide_eq_true c5
            by_cases h4 : kind = 4
            · rw [if_pos h4] at E
              subst h4
              have HE := Lib.hid (E.trans (by rfl))
              clear E
              go_enter Try.func60, Try.ntmps60
              go_wp2_with fail
              go_quiet ((first | exact quiet_eq (SN.out _) | exact quiet_eq (KB.out _) | exact quiet_eq (AL.out _)))
              go_wp2_with fail
              go_ret
              exact ⟨ret1b (by rw [HE.out]), below_drewN (below1 w _) _⟩
            · rw [if_neg h4] at E
              have h4b : (kind == 4) = false := by simpa using h4
              clear h4
              have HE := Lib.hid (E.trans (by rfl))
              clear E
              go_enter Try.func60, Try.ntmps60
              go_wp2_with fail
              go_quiet ((first | exact quiet_eq (SN.out _) | exact quiet_eq (KB.out _) | exact quiet_eq (AL.out _)))
              go_wp2_with fail
              go_ret
              exact ⟨ret1b (by rw [HE.out]), below_drewN (below1 w _) _⟩
          · rw [decide_eq_false c5, Bool.false_and] at E
            replace c5 := decide_eq_false c5
            by_cases h4 : kind = 4
            · subst h4
              have HE := Lib.hid (E.trans (by rfl))
              clear E
              go_enter Try.func60, Try.ntmps60
              go_wp2_with fail
              go_quiet ((first | exact quiet_eq (SN.out _) | exact quiet_eq (KB.out _) | exact quiet_eq (AL.out _)))
              go_wp2_with fail
              go_ret
              exact ⟨ret1b (by rw [HE.out]), below_drewN (below1 w _) _⟩
            · skip
              have h4b : (kind == 4) = false := by simpa using h4
              clear h4
              have HE := Lib.hid (E.trans (by rfl))
              clear E
              go_enter Try.func60, Try.ntmps60
              go_wp2_with fail
              go_quiet ((first | exact quiet_eq (SN.out _) | exact quiet_eq (KB.out _) | exact quiet_eq (AL.out _)))
              go_wp2_with fail
              go_ret
              exact ⟨ret1b (by rw [HE.out]), below_drewN (below1 w _) _⟩
        · rw [decide_eq_false c4, Bool.false_and] at E
          replace c4 := decide_eq_false c4
          by_cases h4 : kind = 4
          · subst h4
            have HE := Lib.hid (E.trans (by rfl))
            clear E
            go_enter Try.func60, Try.ntmps60
            go_wp2_with fail
            go_quiet ((first | exact quiet_eq (SN.out _) | exact quiet_eq (KB.out _) | exact quiet_eq (AL.out _)))
            go_wp2_with fail
            go_ret
            exact ⟨ret1b (by rw [HE.out]), below_drewN (below1 w _) _⟩
          · skip
            have h4b : (kind == 4) = false := by simpa using h4
            clear h4
            have HE := Lib.hid (E.trans (by rfl))
            clear E
            go_enter Try.func60, Try.ntmps60
            go_wp2_with fail
            go_quiet ((first | exact quiet_eq (SN.out _) | exact quiet_eq (KB.out _) | exact quiet_eq (AL.out _)))
            go_wp2_with fail
            go_ret
            exact ⟨ret1b (by rw [HE.out]), below_drewN (below1 w _) _⟩
end Go.Proofs.Ytopghgoheaaceaa
