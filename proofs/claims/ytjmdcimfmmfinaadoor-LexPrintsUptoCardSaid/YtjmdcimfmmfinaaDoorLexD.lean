/-
  What each call of isSign, fits and Check returns. No conditions beyond those that each lemma states.
-/
import Derived.Test.YtjmdcimfmmfinaaDoorLexC
import Derived.Test.YtjmdcimfmmfinaaDoorLexShelf
namespace Go.Proofs.YtjmdcimfmmfinaaDoor
open Go.RowKit

theorem signs_has : ∀ c : UInt8, decide (0 ≤ Lib.indexByte signL c) = signL.contains c := all_bytes (by decide +kernel)
theorem isSignB_no {l : Bs} (h1 : l ≠ [60, 60]) (h2 : l ≠ [62, 62]) (h3 : l.length ≠ 1) : isSignB l = false := by
  unfold isSignB
  rw [beq_eq_false_iff_ne.2 h1, beq_eq_false_iff_ne.2 h2]
  split
  · simp at h3
  · rfl
set_option maxHeartbeats 1000000 in
theorem isSign_any (s : ByteArray) (w : World) :
    Calls Tryd.prog 62 #[.string s] w fun e w' => e = .returned (.bool (isSignB s.data.toList)) ∧ w = w' := by
  by_cases h1 : s = ⟨#[60, 60]⟩
  · subst h1
    go_enter Tryd.func62, Tryd.ntmps62
    go_wp2
    go_ret
    exact ⟨rfl, rfl⟩
  by_cases h2 : s = ⟨#[62, 62]⟩
  · subst h2
    go_enter Tryd.func62, Tryd.ntmps62
    go_wp2
    go_ret
    exact ⟨rfl, rfl⟩
  have g1 : (s.toList == [60, 60]) = false := lit_no h1
  have g2 : (s.toList == [62, 62]) = false := lit_no h2
  by_cases h3 : s.size = 1
  · match hl : s.data.toList, (size_list s).symm.trans h3 with
    | [c], _ =>
      obtain rfl : s = ⟨#[c]⟩ := bytes_eq hl
      have C := Lib.hid (fun w => Tryd.strings_Contains_one ⟨#[44, 91, 93, 33, 35, 58, 43, 45, 42, 47, 37, 38, 124, 94, 126, 40, 41, 61]⟩ c w)
      have R : isSignB [c] = decide (0 ≤ Lib.indexByte (⟨#[44, 91, 93, 33, 35, 58, 43, 45, 42, 47, 37, 38, 124, 94, 126, 40, 41, 61]⟩ : ByteArray).data.toList c) := by
        rw [show (⟨#[44, 91, 93, 33, 35, 58, 43, 45, 42, 47, 37, 38, 124, 94, 126, 40, 41, 61]⟩ : ByteArray).data.toList = signL from rfl, signs_has]
        simp [isSignB]
      have RH := Lib.hid R
      generalize decide (0 ≤ Lib.indexByte (⟨#[44, 91, 93, 33, 35, 58, 43, 45, 42, 47, 37, 38, 124, 94, 126, 40, 41, 61]⟩ : ByteArray).data.toList c) = b at *
      clear R hl h1 h2
      go_enter Tryd.func62, Tryd.ntmps62
      go_wp2_with fail
      refine (C.out _).mono ?_
      rintro e w' ⟨rfl, rfl⟩
      go_wp2_with fail
      go_ret
      exact ⟨ret1b (by rw [RH.out]), rfl⟩
  · have h3' : ((s.size : Int) == 1) = false := by simp; omega
    have R := Lib.hid (isSignB_no (fun e => h1 (bytes_eq e)) (fun e => h2 (bytes_eq e)) (by rw [← size_list]; exact h3))
    clear h1 h2 h3
    go_enter Tryd.func62, Tryd.ntmps62
    go_wp2_with fail
    go_ret
    exact ⟨ret1b (by rw [R.out]), rfl⟩

def fitsB (k : Int) (t : Bs) : Bool := if k = 1 then nameB t else if k = 2 then t == [] else if k = 3 then decide (t.length ≤ 512) else if k = 4 then isSignB t else false
set_option maxHeartbeats 1000000 in
theorem fits_any (k : Int) (t : ByteArray) (w : World) (ht : t.size ≤ maxLen) :
    Calls Tryd.prog 35 #[.int .i64 k, .string t] w fun e w' => e = .returned (.bool (fitsB k t.data.toList)) ∧ w = w' := by
  have N := Lib.hid (fun w => name_any t w ht)
  have S := Lib.hid (fun w => isSign_any t w)
  unfold maxLen at ht
  by_cases h1 : k = 1
  · subst h1
    go_enter Tryd.func35, Tryd.ntmps35
    go_wp2_with fail
    refine (N.out _).mono ?_
    rintro e w' ⟨rfl, rfl⟩
    go_wp2_with fail
    go_ret
    exact ⟨rfl, rfl⟩
  by_cases h2 : k = 2
  · subst h2
    have R : t.toList.isEmpty = fitsB 2 t.data.toList := by
      rw [ByteArray.toList_eq]
      show _ = (t.data.toList == [])
      cases t.data.toList <;> rfl
    have RH := Lib.hid R
    clear R
    go_enter Tryd.func35, Tryd.ntmps35
    go_wp2_with fail
    go_ret
    exact ⟨ret1b (by rw [← RH.out]), rfl⟩
  by_cases h3 : k = 3
  · subst h3
    have R : fitsB 3 t.data.toList = decide ((t.size : Int) ≤ 512) := by
      show decide (t.data.toList.length ≤ 512) = _
      rw [← size_list, Bool.eq_iff_iff, decide_eq_true_eq, decide_eq_true_eq]; omega
    have RH := Lib.hid R
    clear R
    go_enter Tryd.func35, Tryd.ntmps35
    go_wp2_with fail
    go_ret
    exact ⟨ret1b (by rw [RH.out]), rfl⟩
  by_cases h4 : k = 4
  · subst h4
    go_enter Tryd.func35, Tryd.ntmps35
    go_wp2_with fail
    refine (S.out _).mono ?_
    rintro e w' ⟨rfl, rfl⟩
    go_wp2_with fail
    go_ret
    exact ⟨rfl, rfl⟩
  have b1 : (k == 1) = false := by simp [h1]
  have b2 : (k == 2) = false := by simp [h2]
  have b3 : (k == 3) = false := by simp [h3]
  have b4 : (k == 4) = false := by simp [h4]
  have R := Lib.hid (show fitsB k t.data.toList = false by unfold fitsB; rw [if_neg h1, if_neg h2, if_neg h3, if_neg h4])
  clear h1 h2 h3 h4
  go_enter Tryd.func35, Tryd.ntmps35
  go_wp2_with fail
  go_ret
  exact ⟨ret1b (by rw [R.out]), rfl⟩

def checkB (k : Int) (t : Bs) (n p : Int) : Bool := decide (0 ≤ p) && (n == 0 || k == 2) && fitsB k t
def errC (b : Bool) : Int := if b = true then 0 else 1
set_option maxHeartbeats 2000000 in
theorem check_any (k : Int) (t : ByteArray) (n p : Int) (w : World) (ht : t.size ≤ maxLen) :
    Calls Tryd.prog 18 #[.agg #[.int .i64 k, .string t, .int .u64 n, .int .i64 p]] w fun e w' => e = .returned (.int .i64 (errC (checkB k t.data.toList n p))) ∧ Below w.heap.size w w' := by
  have F := Lib.hid (fun w => fits_any k t w ht)
  clear ht
  unfold checkB
  generalize fitsB k t.data.toList = f at *
  obtain ⟨x0, e0⟩ : ∃ x, decide (0 ≤ p) = x := ⟨_, rfl⟩
  obtain ⟨x1, e1⟩ : ∃ x, (n == 0) = x := ⟨_, rfl⟩
  obtain ⟨x2, e2⟩ : ∃ x, (k == 2) = x := ⟨_, rfl⟩
  rw [e0, e1, e2]
  have n0 : decide (p < 0) = !x0 := by
    rw [← e0, ← decide_not, decide_eq_decide]; omega
  have n1 : (n != 0) = !x1 := by rw [← e1]; rfl
  have n2 : (k != 2) = !x2 := by rw [← e2]; rfl
  cases x0
  · simp only [Bool.not_false] at n0
    clear e0
    go_enter Tryd.func18, Tryd.ntmps18
    go_wp2_with fail
    go_ret
    exact ⟨rfl, below1 _ _⟩
  cases x1 <;> cases x2
  · simp only [Bool.not_true, Bool.not_false] at n0 n1 n2
    clear e0
    go_enter Tryd.func18, Tryd.ntmps18
    go_wp2_with fail
    go_ret
    exact ⟨rfl, below1 _ _⟩
  all_goals
    simp only [Bool.not_true, Bool.not_false] at n0 n1 n2
    clear e0
    go_enter Tryd.func18, Tryd.ntmps18
    go_wp2_with fail
    refine (F.out _).mono ?_
    rintro e w' ⟨rfl, rfl⟩
    cases f
    all_goals
      go_wp2_with fail
      go_ret
      exact ⟨rfl, below1 _ _⟩
end Go.Proofs.YtjmdcimfmmfinaaDoor
