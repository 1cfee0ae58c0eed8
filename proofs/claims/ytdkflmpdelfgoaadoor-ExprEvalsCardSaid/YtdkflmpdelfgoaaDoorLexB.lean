/-
  What each call of Name and isWord returns. No conditions beyond those that each lemma states.
-/
import Derived.Test.YtdkflmpdelfgoaaDoorLexA
namespace Go.Proofs.YtdkflmpdelfgoaaDoor
open Go.RowKit

theorem head_byte {s : ByteArray} {c : UInt8} {r : List UInt8} (h : s.data.toList = c :: r) : ∃ h0 : 0 < s.size, s[0]'h0 = c := by
  have h0 : 0 < s.size := by rw [size_list, h]; simp
  exact ⟨h0, by rw [get_list h0]; simp [h]⟩
theorem empty_yes {s : ByteArray} (h : s.data.toList = []) : s = ⟨#[]⟩ := bytes_eq h
theorem empty_no {s : ByteArray} {c : UInt8} {r : List UInt8} (h : s.data.toList = c :: r) : (s.toList == []) = false ∧ (s.toList != []) = true ∧ s.toList.isEmpty = false := by
  rw [ByteArray.toList_eq, h]; exact ⟨rfl, rfl, rfl⟩
theorem run_all (p : UInt8 → Bool) : ∀ l : Bs, (run p l = l.length) ↔ l.all p = true
  | [] => by simp [run]
  | c :: r => by
    cases h : p c with
    | false => rw [run_no p h]; simp [h]
    | true => rw [run_head p h]; simp [h, run_all p r]
theorem nameB_run (c : UInt8) (r : Bs) : nameB (c :: r) = (isL c && decide (run isLD (c :: r) = (c :: r).length)) := by
  have e : nameB (c :: r) = (isL c && r.all isLD) := rfl
  rw [e]
  cases h : isL c with
  | false => simp
  | true =>
    have hl : isLD c = true := by simp [isLD, h]
    rw [Bool.eq_iff_iff]
    simp only [Bool.true_and, decide_eq_true_eq, run_all, List.all_cons, hl]
set_option maxHeartbeats 1000000 in
theorem name_any (s : ByteArray) (w : World) (hs : s.size ≤ maxLen) :
    Calls Tryd.prog 51 #[.string s] w fun e w' => e = .returned (.bool (nameB s.data.toList)) ∧ w = w' := by
  cases hl : s.data.toList with
  | nil =>
    obtain rfl := empty_yes hl
    go_enter Tryd.func51, Tryd.ntmps51
    go_wp2
    go_ret
    exact ⟨rfl, rfl⟩
  | cons c r =>
    obtain ⟨h0, gx⟩ := head_byte hl
    obtain ⟨g1, g2, g3⟩ := empty_no hl
    have h0' : 0 < (s.size : Int) := by omega
    have H := Lib.hid (fun w => has_any 2 c w (by decide))
    have K := Lib.hid (fun w => count_any 6 s w (by decide) hs)
    rw [hasB_2] at H
    rw [show hasB 6 = isLD from funext hasB_6, hl] at K
    have R := Lib.hid (nameB_run c r)
    have Z := Lib.hid (show (c :: r).length = s.size by rw [size_list, hl])
    generalize run isLD (c :: r) = n at *
    generalize nameB (c :: r) = b at *
    unfold maxLen at hs
    clear hl
    cases hc : isL c with
    | false =>
      rw [hc] at H R
      clear hc
      go_enter Tryd.func51, Tryd.ntmps51
      go_wp2_with fail
      refine (H.out _).mono ?_
      rintro e w' ⟨rfl, rfl⟩
      go_wp2_with fail
      go_ret
      exact ⟨ret1b (by rw [R.out]; rfl), rfl⟩
    | true =>
      rw [hc] at H R
      clear hc
      go_enter Tryd.func51, Tryd.ntmps51
      go_wp2_with fail
      refine (H.out _).mono ?_
      rintro e w' ⟨rfl, rfl⟩
      go_wp2_with fail
      refine (K.out _).mono ?_
      rintro e w' ⟨rfl, rfl⟩
      go_wp2_with fail
      go_ret
      exact ⟨ret1b (by rw [R.out, Z.out, Bool.true_and, Bool.eq_iff_iff]; simp; omega), rfl⟩

theorem below1 (w : World) (o : Obj) : Below w.heap.size w (w.alloc o) := (Below.refl _ _).alloc (Nat.le_refl _) _
end Go.Proofs.YtdkflmpdelfgoaaDoor
