/-
  The document's Check and Text: what each call returns. Conditions: a text of at most 1048576 bytes, a number of 64 bits.
-/
import Derived.Test.YtjmdcimfmmfinaaDoorLexRefK
import Derived.Test.YtjmdcimfmmfinaaDoorLexU
import Derived.Deep.QuietTactic
import Derived.BigQuiet
namespace Go.Proofs.YtjmdcimfmmfinaaDoor
open Go.RowKit Go.Shelf
set_option linter.unusedVariables false
attribute [local go_sem] Oper.semAt_some

theorem sign_doc (t : Bs) : isSignB t = (decide (0 < t.length) && signN t == t.length) := by
  cases h : isSignB t with
  | true =>
    rcases sign_cases h with rfl | rfl | ⟨c, rfl, hc⟩
    · rfl
    · rfl
    · obtain ⟨_, _, _, _, h5, h6, _, _⟩ := sign_byte c hc
      have hs : signN [c] = 1 := by rw [signN, if_neg (by simp), if_pos hc]
      simp [hs]
  | false =>
    cases t with
    | nil => rfl
    | cons c r =>
      symm
      rw [Bool.and_eq_false_iff]
      right
      rw [beq_eq_false_iff_ne]
      intro e
      have hl := sign_take (s := c :: r) (by rw [e]; simp)
      rw [e, List.take_length, h] at hl
      cases hl
set_option maxRecDepth 100000 in
set_option maxHeartbeats 16000000 in
theorem rcheck_any (k : Int) (t : ByteArray) (n p : Int) (w : World) (ht : t.size ≤ 1048576) :
    Calls Tryd.prog 19 #[.agg #[.int .i64 k, .string t, .int .u64 n, .int .i64 p]] w fun e w' => e = .returned (.int .i64 (errC (checkB k t.data.toList n p))) ∧ Below w.heap.size w w' := by
  have DN := Lib.hid (fun w => docName_any t w (by unfold maxLen; omega))
  have DS := Lib.hid (fun w => docSign_any t w (by unfold maxLen; omega))
  unfold checkB fitsB
  rw [sign_doc]
  rw [← size_list]
  obtain ⟨x0, e0⟩ : ∃ x, decide (0 ≤ p) = x := ⟨_, rfl⟩
  obtain ⟨x1, e1⟩ : ∃ x, (n == 0) = x := ⟨_, rfl⟩
  have n0 : decide (p < 0) = !x0 := by
    rw [← e0, ← decide_not, decide_eq_decide]; omega
  rw [e0, e1]
  clear e0
  by_cases h1 : k = 1
  · subst h1
    generalize nameB t.data.toList = nm at *
    simp only [if_true]
    cases nm
    · clear e1
      cases x0 <;> cases x1
      all_goals
        simp only [Bool.not_true, Bool.not_false] at n0
        go_enter Tryd.func19, Tryd.ntmps19
        go_wp2_with fail
        refine (DN.out _).mono ?_
        rintro e w1 ⟨rfl, rfl⟩
        go_wp2_with fail
        go_ret
        exact ⟨rfl, below1 w _⟩
    · cases x0 <;> cases x1
      all_goals
        simp only [Bool.not_true, Bool.not_false] at n0
        go_enter Tryd.func19, Tryd.ntmps19
        go_wp2_with fail
        refine (DN.out _).mono ?_
        rintro e w1 ⟨rfl, rfl⟩
        go_wp2_with fail
        go_ret
        exact ⟨rfl, below1 w _⟩
  by_cases h2 : k = 2
  · subst h2
    simp only [if_neg h1, if_true]
    have hte : (t.data.toList == []) = (t.toList == []) := by rw [ByteArray.toList_eq]
    have hte2 : (t.data.toList == []) = t.toList.isEmpty := by rw [ByteArray.toList_eq]; cases t.data.toList <;> rfl
    obtain ⟨y, hy⟩ : ∃ y, (t.data.toList == []) = y := ⟨_, rfl⟩
    rw [hy] at hte hte2
    rw [hy]
    have hte' := hte.symm
    have hte2' := hte2.symm
    clear hte hte2 hy e1
    cases y <;> cases x0
    all_goals
      simp only [Bool.not_true, Bool.not_false] at n0
      go_enter Tryd.func19, Tryd.ntmps19
      go_wp2_with fail
      go_ret
      exact ⟨by cases x1 <;> rfl, below1 w _⟩
  by_cases h3 : k = 3
  · subst h3
    simp only [if_neg h1, if_neg h2, if_true]
    by_cases h5 : t.size ≤ 512
    · have h5' : (t.size : Int) ≤ 512 := by omega
      rw [decide_eq_true h5]
      cases x0 <;> cases x1
      all_goals
        simp only [Bool.not_true, Bool.not_false] at n0
        go_enter Tryd.func19, Tryd.ntmps19
        go_wp2_with fail
        go_ret
        exact ⟨rfl, below1 w _⟩
    · have h5' : ¬ ((t.size : Int) ≤ 512) := by omega
      rw [decide_eq_false h5]
      clear e1
      cases x0
      all_goals
        simp only [Bool.not_true, Bool.not_false] at n0
        go_enter Tryd.func19, Tryd.ntmps19
        go_wp2_with fail
        go_ret
        exact ⟨by cases x1 <;> rfl, below1 w _⟩
  by_cases h4 : k = 4
  · subst h4
    simp only [if_neg h1, if_neg h2, if_neg h3, if_true]
    by_cases hz : 0 < t.size
    · rw [decide_eq_true hz]
      have hz' : (0 : Int) < (t.size : Int) := by omega
      by_cases hs : signN t.data.toList = t.size
      · rw [hs] at DS ⊢
        rw [beq_self_eq_true]
        have hq : ((t.size : Int) == (t.size : Int)) = true := by simp
        cases x0 <;> cases x1
        all_goals
          simp only [Bool.not_true, Bool.not_false] at n0
          go_enter Tryd.func19, Tryd.ntmps19
          go_wp2_with fail
          go_quiet ((go_at_call 36; exact Calls.quiet_of (DS.out _)))
          go_wp2_with fail
          go_ret
          exact ⟨rfl, below_drewN (below1 w _) _⟩
      · have hq : ((signN t.data.toList : Int) == (t.size : Int)) = false := by rw [beq_eq_false_iff_ne]; omega
        have hq2 : (signN t.data.toList == t.size) = false := by rw [beq_eq_false_iff_ne]; exact hs
        rw [hq2]
        generalize signN t.data.toList = sn at *
        clear e1 hs
        cases x0
        all_goals
          simp only [Bool.not_true, Bool.not_false] at n0
          go_enter Tryd.func19, Tryd.ntmps19
          go_wp2_with fail
          go_quiet ((go_at_call 36; exact Calls.quiet_of (DS.out _)))
          go_wp2_with fail
          go_ret
          exact ⟨by cases x1 <;> rfl, below_drewN (below1 w _) _⟩
    · rw [decide_eq_false hz]
      have hz' : ¬ ((0 : Int) < (t.size : Int)) := by omega
      have hz2 : decide (0 < t.size) = false := decide_eq_false hz
      clear e1
      cases x0
      all_goals
        simp only [Bool.not_true, Bool.not_false] at n0
        go_enter Tryd.func19, Tryd.ntmps19
        go_wp2_with fail
        go_quiet (fail)
        go_wp2_with fail
        go_ret
        exact ⟨by cases x1 <;> rfl, below_drewN (below1 w _) _⟩
  · simp only [if_neg h1, if_neg h2, if_neg h3, if_neg h4]
    have b1 : (k == 1) = false := by simp [h1]
    have b2 : (k == 2) = false := by simp [h2]
    have b3 : (k == 3) = false := by simp [h3]
    have b4 : (k == 4) = false := by simp [h4]
    clear h1 h2 h3 h4 e1
    cases x0
    all_goals
      simp only [Bool.not_true, Bool.not_false] at n0
      go_enter Tryd.func19, Tryd.ntmps19
      go_wp2_with fail
      go_ret
      exact ⟨by rw [Bool.and_false]; rfl, below1 w _⟩
set_option maxRecDepth 100000 in
set_option maxHeartbeats 4000000 in
theorem rtext_any (k : Int) (t : ByteArray) (n : Nat) (p : Int) (w : World) (ht : t.size ≤ 1048576) (hn : n < 18446744073709551616) :
    Calls Tryd.prog 21 #[.agg #[.int .i64 k, .string t, .int .u64 (n : Int), .int .i64 p]] w fun e w' => e = .returned (.string ⟨(textO k t.data.toList n p).toArray⟩) ∧ Below w.heap.size w w' := by
  have CK := Lib.hid (fun w => rcheck_any k t (n : Int) p w ht)
  have FM := Lib.hid (fun w => rnum_any n hn w)
  have QU := Lib.hid (fun w => rQuote_any t w ht)
  have htB : (⟨t.data.toList.toArray⟩ : ByteArray) = t := by simp
  unfold textO textB
  cases hc : checkB k t.data.toList (n : Int) p with
  | false =>
    rw [hc] at CK
    rw [if_neg (by decide)]
    clear hc ht hn htB
    go_enter Tryd.func21, Tryd.ntmps21
    go_wp2_with fail
    refine (CK.out _).mono ?_
    rintro e w1 ⟨rfl, hb1⟩
    have HB := Lib.hid (Below.thn (below1 w _) (by simp) hb1)
    clear hb1
    rw [show errC false = 1 from rfl]
    go_wp2_with fail
    go_ret
    exact ⟨rfl, HB.out⟩
  | true =>
    rw [hc] at CK
    rw [if_pos rfl]
    simp only
    by_cases k2 : k = 2
    · subst k2
      rw [if_pos rfl]
      clear hc ht hn htB
      go_enter Tryd.func21, Tryd.ntmps21
      go_wp2_with fail
      refine (CK.out _).mono ?_
      rintro e w1 ⟨rfl, hb1⟩
      have HB := Lib.hid (Below.thn (below1 w _) (by simp) hb1)
      have q0 : w1.cell? ⟨w.heap.size, 0, none⟩ = some (.int .i64 2) := (hb1.cell (p := ⟨w.heap.size, 0, none⟩) (by simp)).trans (cell_four_new w _ _ _ _ _ 0 _ rfl)
      have q2 : w1.cell? ⟨w.heap.size, 2, none⟩ = some (.int .u64 (n : Int)) := (hb1.cell (p := ⟨w.heap.size, 2, none⟩) (by simp)).trans (cell_four_new w _ _ _ _ _ 2 _ rfl)
      clear hb1
      rw [show errC true = 0 from rfl]
      go_wp2_with fail
      refine (FM.out _).mono ?_
      rintro e w2 ⟨rfl, hb2⟩
      have HB2 := Lib.hid (Below.thn HB.out HB.out.size hb2)
      clear hb2
      go_wp2_with fail
      go_ret
      exact ⟨rfl, HB2.out⟩
    by_cases k3 : k = 3
    · subst k3
      rw [if_neg (by decide), if_pos rfl]
      clear hc ht hn htB
      go_enter Tryd.func21, Tryd.ntmps21
      go_wp2_with fail
      refine (CK.out _).mono ?_
      rintro e w1 ⟨rfl, hb1⟩
      have HB := Lib.hid (Below.thn (below1 w _) (by simp) hb1)
      have q0 : w1.cell? ⟨w.heap.size, 0, none⟩ = some (.int .i64 3) := (hb1.cell (p := ⟨w.heap.size, 0, none⟩) (by simp)).trans (cell_four_new w _ _ _ _ _ 0 _ rfl)
      have q1 : w1.cell? ⟨w.heap.size, 1, none⟩ = some (.string t) := (hb1.cell (p := ⟨w.heap.size, 1, none⟩) (by simp)).trans (cell_four_new w _ _ _ _ _ 1 _ rfl)
      clear hb1
      rw [show errC true = 0 from rfl]
      go_wp2_with fail
      refine (QU.out _).mono ?_
      rintro e w2 ⟨rfl, hb2⟩
      have HB2 := Lib.hid (Below.thn HB.out HB.out.size hb2)
      clear hb2
      go_wp2_with fail
      go_ret
      exact ⟨rfl, HB2.out⟩
    · rw [if_neg k2, if_neg k3]
      have b2 : (k == 2) = false := by simp [k2]
      have b3 : (k == 3) = false := by simp [k3]
      rw [htB]
      clear hc ht hn htB k2 k3
      go_enter Tryd.func21, Tryd.ntmps21
      go_wp2_with fail
      refine (CK.out _).mono ?_
      rintro e w1 ⟨rfl, hb1⟩
      have HB := Lib.hid (Below.thn (below1 w _) (by simp) hb1)
      have q0 : w1.cell? ⟨w.heap.size, 0, none⟩ = some (.int .i64 k) := (hb1.cell (p := ⟨w.heap.size, 0, none⟩) (by simp)).trans (cell_four_new w _ _ _ _ _ 0 _ rfl)
      have q1 : w1.cell? ⟨w.heap.size, 1, none⟩ = some (.string t) := (hb1.cell (p := ⟨w.heap.size, 1, none⟩) (by simp)).trans (cell_four_new w _ _ _ _ _ 1 _ rfl)
      clear hb1
      rw [show errC true = 0 from rfl]
      go_wp2_with fail
      go_ret
      exact ⟨rfl, HB.out⟩
end Go.Proofs.YtjmdcimfmmfinaaDoor
