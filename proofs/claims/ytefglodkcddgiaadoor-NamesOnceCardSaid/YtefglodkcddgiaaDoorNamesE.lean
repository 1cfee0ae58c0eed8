/-
  What each call of the document's Reg returns. No conditions.
-/
import Derived.Test.YtefglodkcddgiaaDoorNamesD
namespace Go.Proofs.YtefglodkcddgiaaDoor
open Go.RowKit

set_option maxHeartbeats 1000000 in
theorem rreg_four (s : ByteArray) (w : World) (h : s = ⟨#[119, 122, 114]⟩ ∨ s = ⟨#[120, 122, 114]⟩ ∨ s = ⟨#[119, 115, 112]⟩ ∨ s = ⟨#[115, 112]⟩) :
    Calls Tryd.prog 10 #[.string s] w fun e w' => e = regOut s.data.toList ∧ Below w.heap.size w w' := by
  rcases h with rfl | rfl | rfl | rfl
  · rw [show (⟨#[119, 122, 114]⟩ : ByteArray).data.toList = [119, 122, 114] from rfl, out_wzr]
    go_enter Tryd.func10, Tryd.ntmps10
    go_wp2
    exact bodyPost_ret (v := .tuple #[.agg #[.int .i64 31, .bool false, .bool false], .int .i64 0]) (by simp [results, Tryd.results10, go_sem]) rfl ⟨rfl, ((Below.refl _ _).alloc (Nat.le_refl _) _)⟩
  · rw [show (⟨#[120, 122, 114]⟩ : ByteArray).data.toList = [120, 122, 114] from rfl, out_xzr]
    go_enter Tryd.func10, Tryd.ntmps10
    go_wp2
    exact bodyPost_ret (v := .tuple #[.agg #[.int .i64 31, .bool true, .bool false], .int .i64 0]) (by simp [results, Tryd.results10, go_sem]) rfl ⟨rfl, ((Below.refl _ _).alloc (Nat.le_refl _) _)⟩
  · rw [show (⟨#[119, 115, 112]⟩ : ByteArray).data.toList = [119, 115, 112] from rfl, out_wsp]
    go_enter Tryd.func10, Tryd.ntmps10
    go_wp2
    exact bodyPost_ret (v := .tuple #[.agg #[.int .i64 31, .bool false, .bool true], .int .i64 0]) (by simp [results, Tryd.results10, go_sem]) rfl ⟨rfl, ((Below.refl _ _).alloc (Nat.le_refl _) _)⟩
  · rw [show (⟨#[115, 112]⟩ : ByteArray).data.toList = [115, 112] from rfl, out_sp]
    go_enter Tryd.func10, Tryd.ntmps10
    go_wp2
    exact bodyPost_ret (v := .tuple #[.agg #[.int .i64 31, .bool true, .bool true], .int .i64 0]) (by simp [results, Tryd.results10, go_sem]) rfl ⟨rfl, ((Below.refl _ _).alloc (Nat.le_refl _) _)⟩

set_option maxHeartbeats 1000000 in
theorem rreg_empty (w : World) :
    Calls Tryd.prog 10 #[.string ⟨#[]⟩] w fun e w' => e = regOut [] ∧ Below w.heap.size w w' := by
  rw [out_none (show look regT [] = none by decide +kernel)]
  go_enter Tryd.func10, Tryd.ntmps10
  go_wp2
  exact bodyPost_ret (v := .tuple #[.agg #[.int .i64 0, .bool false, .bool false], .int .i64 30]) (by simp [results, Tryd.results10, go_sem]) rfl ⟨rfl, ((Below.refl _ _).alloc (Nat.le_refl _) _)⟩

set_option maxHeartbeats 2000000 in
theorem rreg_tail (s : ByteArray) (c : UInt8) (r : List UInt8) (w : World) (hsd : s.data.toList = c :: r) (h1 : c :: r ≠ [119, 122, 114]) (h2 : c :: r ≠ [120, 122, 114]) (h3 : c :: r ≠ [119, 115, 112]) (h4 : c :: r ≠ [115, 112]) :
    Calls Tryd.prog 10 #[.string s] w fun e w' => e = regOut (c :: r) ∧ Below w.heap.size w w' := by
  obtain ⟨h0, gx⟩ := head_byte hsd
  have h0' : 0 < (s.size : Int) := by omega
  have q1 : (s.toList == [119, 122, 114]) = false := lit_no (fun e => h1 (by rw [← hsd, e]))
  have q2 : (s.toList == [120, 122, 114]) = false := lit_no (fun e => h2 (by rw [← hsd, e]))
  have q3 : (s.toList == [119, 115, 112]) = false := lit_no (fun e => h3 (by rw [← hsd, e]))
  have q4 : (s.toList == [115, 112]) = false := lit_no (fun e => h4 (by rw [← hsd, e]))
  have h1s : 1 ≤ s.size := h0
  by_cases hz2 : (s.size : Int) < 2
  · have hr : r = [] := by
      have e2 : s.size = r.length + 1 := by show s.data.size = _; rw [← Array.length_toList, hsd]; rfl
      exact List.length_eq_zero_iff.1 (by omega)
    rw [out_none (reg_look_tail (.inr (by rw [hr]; exact dig0 _ _)) h1 h2 h3 h4)]
    clear h1 h2 h3 h4 hsd hr
    go_enter Tryd.func10, Tryd.ntmps10
    go_wp2
    exact bodyPost_ret (v := .tuple #[.agg #[.int .i64 0, .bool false, .bool false], .int .i64 30]) (by simp [results, Tryd.results10, go_sem]) rfl ⟨rfl, ((Below.refl _ _).alloc (Nat.le_refl _) _)⟩
  by_cases hc : c ≠ 120 ∧ c ≠ 119
  · rw [out_none (reg_look_tail (.inl hc) h1 h2 h3 h4)]
    have e1 : ((c.toNat : Int) != 120) = true := by
      rw [bne_iff_ne]; intro e; exact hc.1 (UInt8.toNat_inj.1 (by show c.toNat = 120; omega))
    have e2 : ((c.toNat : Int) != 119) = true := by
      rw [bne_iff_ne]; intro e; exact hc.2 (UInt8.toNat_inj.1 (by show c.toNat = 119; omega))
    clear h1 h2 h3 h4 hc hsd
    go_enter Tryd.func10, Tryd.ntmps10
    go_wp2
    exact bodyPost_ret (v := .tuple #[.agg #[.int .i64 0, .bool false, .bool false], .int .i64 30]) (by simp [results, Tryd.results10, go_sem]) rfl ⟨rfl, ((Below.refl _ _).alloc (Nat.le_refl _) _)⟩
  · have hx : c = 120 ∨ c = 119 := by
      by_cases g : c = 120
      · exact .inl g
      · exact .inr (by by_cases g' : c = 119; exact g'; exact absurd ⟨g, g'⟩ hc)
    have TD := Lib.hid (tail_data hsd)
    have DC : ∀ E : ByteArray, E.data.toList = r → ∀ w : World, Calls Tryd.prog 23 #[.string E, .int .i64 30] w fun e w' => ∃ v b, e = .returned (.tuple #[.int .i64 v, .bool b]) ∧ DigOut r 30 v b ∧ w = w' := fun E hE w => by
      have := digits_any E 30 w (by decide)
      rw [hE] at this; exact this
    have DH := Lib.hid DC
    have HN := Lib.hid (fun hd => out_none (reg_look_tail (c := c) (r := r) (.inr hd) h1 h2 h3 h4))
    clear DC h1 h2 h3 h4 hc hsd
    rcases hx with rfl | rfl
    · go_enter Tryd.func10, Tryd.ntmps10
      go_wp2_with fail
      refine (DH.out _ TD.out _).mono ?_
      rintro e w1 ⟨v, b, rfl, hD, rfl⟩
      rcases hD with ⟨rfl, n, hd, rfl⟩ | ⟨rfl, hd, _, _⟩
      · have HD := Lib.hid hd
        have hn9 : (n : Int) ≤ 30 := by have := dig_spec hd; omega
        clear hd
        go_wp2_with fail
        refine bodyPost_ret (v := .tuple #[.agg #[.int .i64 (n : Int), .bool true, .bool false], .int .i64 0]) (by simp [results, Tryd.results10, go_sem]) rfl ⟨?_, ((Below.refl _ _).alloc (Nat.le_refl _) _)⟩
        obtain ⟨g1, g2, g3, g4⟩ := dig_spec HD.out
        rw [← g3, out_x (show n < 31 by omega)]
      · have HE := Lib.hid (HN.out hd)
        clear hd
        go_wp2_with fail
        exact bodyPost_ret (v := .tuple #[.agg #[.int .i64 0, .bool false, .bool false], .int .i64 30]) (by simp [results, Tryd.results10, go_sem]) rfl ⟨HE.out.symm, ((Below.refl _ _).alloc (Nat.le_refl _) _)⟩
    · go_enter Tryd.func10, Tryd.ntmps10
      go_wp2_with fail
      refine (DH.out _ TD.out _).mono ?_
      rintro e w1 ⟨v, b, rfl, hD, rfl⟩
      rcases hD with ⟨rfl, n, hd, rfl⟩ | ⟨rfl, hd, _, _⟩
      · have HD := Lib.hid hd
        have hn9 : (n : Int) ≤ 30 := by have := dig_spec hd; omega
        clear hd
        go_wp2_with fail
        refine bodyPost_ret (v := .tuple #[.agg #[.int .i64 (n : Int), .bool false, .bool false], .int .i64 0]) (by simp [results, Tryd.results10, go_sem]) rfl ⟨?_, ((Below.refl _ _).alloc (Nat.le_refl _) _)⟩
        obtain ⟨g1, g2, g3, g4⟩ := dig_spec HD.out
        rw [← g3, out_w (show n < 31 by omega)]
      · have HE := Lib.hid (HN.out hd)
        clear hd
        go_wp2_with fail
        exact bodyPost_ret (v := .tuple #[.agg #[.int .i64 0, .bool false, .bool false], .int .i64 30]) (by simp [results, Tryd.results10, go_sem]) rfl ⟨HE.out.symm, ((Below.refl _ _).alloc (Nat.le_refl _) _)⟩
theorem rreg_any (s : ByteArray) (w : World) :
    Calls Tryd.prog 10 #[.string s] w fun e w' => e = regOut s.data.toList ∧ Below w.heap.size w w' := by
  by_cases h1 : s = ⟨#[119, 122, 114]⟩
  · exact rreg_four s w (.inl h1)
  by_cases h2 : s = ⟨#[120, 122, 114]⟩
  · exact rreg_four s w (.inr (.inl h2))
  by_cases h3 : s = ⟨#[119, 115, 112]⟩
  · exact rreg_four s w (.inr (.inr (.inl h3)))
  by_cases h4 : s = ⟨#[115, 112]⟩
  · exact rreg_four s w (.inr (.inr (.inr h4)))
  cases e : s.data.toList with
  | nil =>
    obtain rfl : s = ⟨#[]⟩ := bytes_eq e
    exact rreg_empty w
  | cons c r =>
    exact rreg_tail s c r w e (fun g => h1 (bytes_eq (e.trans g))) (fun g => h2 (bytes_eq (e.trans g))) (fun g => h3 (bytes_eq (e.trans g))) (fun g => h4 (bytes_eq (e.trans g)))
end Go.Proofs.YtefglodkcddgiaaDoor
