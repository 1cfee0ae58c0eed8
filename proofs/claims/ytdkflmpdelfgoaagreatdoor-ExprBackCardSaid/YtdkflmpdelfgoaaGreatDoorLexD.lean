/-
  What each call of isSign, fits and Check returns. No conditions beyond those that each lemma states.
-/
import Derived.Test.YtdkflmpdelfgoaaGreatDoorLexA
import Derived.Test.YtdkflmpdelfgoaaGreatDoorLexShelf
namespace Go.Proofs.YtdkflmpdelfgoaaGreatDoor
open Go.RowKit

theorem signs_has : ∀ c : UInt8, decide (0 ≤ Lib.indexByte signL c) = signL.contains c := all_bytes (by decide +kernel)
theorem isSignB_no {l : Bs} (h1 : l ≠ [60, 60]) (h2 : l ≠ [62, 62]) (h3 : l.length ≠ 1) : isSignB l = false := by
  unfold isSignB
  rw [beq_eq_false_iff_ne.2 h1, beq_eq_false_iff_ne.2 h2]
  split
  · simp at h3
  · rfl
set_option maxHeartbeats 1000000 in
theorem isSign_any (s : ByteArray) (w : World) :
    Calls Tryz.prog 72 #[.string s] w fun e w' => e = .returned (.bool (isSignB s.data.toList)) ∧ w = w' := by
  by_cases h1 : s = ⟨#[60, 60]⟩
  · subst h1
    go_enter Tryz.func72, Tryz.ntmps72
    go_wp2
    go_ret
    exact ⟨rfl, rfl⟩
  by_cases h2 : s = ⟨#[62, 62]⟩
  · subst h2
    go_enter Tryz.func72, Tryz.ntmps72
    go_wp2
    go_ret
    exact ⟨rfl, rfl⟩
  have g1 : (s.toList == [60, 60]) = false := lit_no h1
  have g2 : (s.toList == [62, 62]) = false := lit_no h2
  by_cases h3 : s.size = 1
  · match hl : s.data.toList, (size_list s).symm.trans h3 with
    | [c], _ =>
      obtain rfl : s = ⟨#[c]⟩ := bytes_eq hl
      have C := Lib.hid (fun w => Tryz.strings_Contains_one ⟨#[44, 91, 93, 33, 35, 58, 43, 45, 42, 47, 37, 38, 124, 94, 126, 40, 41, 61]⟩ c w)
      have R : isSignB [c] = decide (0 ≤ Lib.indexByte (⟨#[44, 91, 93, 33, 35, 58, 43, 45, 42, 47, 37, 38, 124, 94, 126, 40, 41, 61]⟩ : ByteArray).data.toList c) := by
        rw [show (⟨#[44, 91, 93, 33, 35, 58, 43, 45, 42, 47, 37, 38, 124, 94, 126, 40, 41, 61]⟩ : ByteArray).data.toList = signL from rfl, signs_has]
        simp [isSignB]
      have RH := Lib.hid R
      generalize decide (0 ≤ Lib.indexByte (⟨#[44, 91, 93, 33, 35, 58, 43, 45, 42, 47, 37, 38, 124, 94, 126, 40, 41, 61]⟩ : ByteArray).data.toList c) = b at *
      clear R hl h1 h2
      go_enter Tryz.func72, Tryz.ntmps72
      go_wp2_with fail
      refine (C.out _).mono ?_
      rintro e w' ⟨rfl, rfl⟩
      go_wp2_with fail
      go_ret
      exact ⟨ret1b (by rw [RH.out]), rfl⟩
  · have h3' : ((s.size : Int) == 1) = false := by simp; omega
    have R := Lib.hid (isSignB_no (fun e => h1 (bytes_eq e)) (fun e => h2 (bytes_eq e)) (by rw [← size_list]; exact h3))
    clear h1 h2 h3
    go_enter Tryz.func72, Tryz.ntmps72
    go_wp2_with fail
    go_ret
    exact ⟨ret1b (by rw [R.out]), rfl⟩

def fitsB (k : Int) (t : Bs) : Bool := if k = 1 then nameB t else if k = 2 then t == [] else if k = 3 then decide (t.length ≤ 512) else if k = 4 then isSignB t else false
def checkB (k : Int) (t : Bs) (n p : Int) : Bool := decide (0 ≤ p) && (n == 0 || k == 2) && fitsB k t
def errC (b : Bool) : Int := if b = true then 0 else 1
end Go.Proofs.YtdkflmpdelfgoaaGreatDoor
