/-
  What each call of the program's Reg and of the document's returns. Conditions: what the variables of the library hold (Good), and a text of at most 2^48 letters.
-/
import Derived.Test.YtefglodkcddgiaaDoorNamesC
namespace Go.Proofs.YtefglodkcddgiaaDoor
open Go.RowKit

def errO {α : Type} (o : Option α) : Int := match o with
  | some _ => 0
  | none => 30
def regAgg (o : Option Nat) : Value := match o with
  | some m => .agg #[.int .i64 (regN m), .bool (regX m), .bool (regP m)]
  | none => .agg #[.int .i64 0, .bool false, .bool false]
def regOut (s : List UInt8) : Ending := .returned (.tuple #[regAgg (look regT s), .int .i64 (errO (look regT s))])

theorem look_wzr : look regT [119, 122, 114] = some 31 := by decide +kernel
theorem look_xzr : look regT [120, 122, 114] = some 63 := by decide +kernel
theorem look_wsp : look regT [119, 115, 112] = some 95 := by decide +kernel
theorem look_sp : look regT [115, 112] = some 127 := by decide +kernel
theorem out_wzr : regOut [119, 122, 114] = .returned (.tuple #[.agg #[.int .i64 31, .bool false, .bool false], .int .i64 0]) := by unfold regOut; rw [look_wzr]; rfl
theorem out_xzr : regOut [120, 122, 114] = .returned (.tuple #[.agg #[.int .i64 31, .bool true, .bool false], .int .i64 0]) := by unfold regOut; rw [look_xzr]; rfl
theorem out_wsp : regOut [119, 115, 112] = .returned (.tuple #[.agg #[.int .i64 31, .bool false, .bool true], .int .i64 0]) := by unfold regOut; rw [look_wsp]; rfl
theorem out_sp : regOut [115, 112] = .returned (.tuple #[.agg #[.int .i64 31, .bool true, .bool true], .int .i64 0]) := by unfold regOut; rw [look_sp]; rfl
theorem out_none {s : List UInt8} (h : look regT s = none) : regOut s = .returned (.tuple #[.agg #[.int .i64 0, .bool false, .bool false], .int .i64 30]) := by unfold regOut; rw [h]; rfl
theorem out_x {n : Nat} (h : n < 31) : regOut (120 :: dd n) = .returned (.tuple #[.agg #[.int .i64 (n : Int), .bool true, .bool false], .int .i64 0]) := by
  obtain ⟨a1, _, a3, _, a5, _, a7, _⟩ := reg_dd n h
  unfold regOut; rw [a1]; unfold regAgg errO; simp only; rw [a3, a5, a7]
theorem out_w {n : Nat} (h : n < 31) : regOut (119 :: dd n) = .returned (.tuple #[.agg #[.int .i64 (n : Int), .bool false, .bool false], .int .i64 0]) := by
  obtain ⟨_, a2, _, a4, _, a6, _, a8⟩ := reg_dd n h
  unfold regOut; rw [a2]; unfold regAgg errO; simp only; rw [a4, a6, a8]
theorem below_set3 {B b : Nat} {w W : World} (h : Below B w W) (hB : B ≤ b) (x y z : Value) : Below B w (((W.setCell ⟨b, 0, none⟩ x).setCell ⟨b, 1, none⟩ y).setCell ⟨b, 2, none⟩ z) :=
  ((h.setCell (p := ⟨b, 0, none⟩) hB x).setCell (p := ⟨b, 1, none⟩) hB y).setCell (p := ⟨b, 2, none⟩) hB z
theorem tail_data {s : ByteArray} {c : UInt8} {r : List UInt8} (h : s.data.toList = c :: r) : (s.extract 1 s.size).data.toList = r := by
  rw [Lib.extract_to_end, h]; rfl
theorem head_byte {s : ByteArray} {c : UInt8} {r : List UInt8} (h : s.data.toList = c :: r) : ∃ h0 : 0 < s.size, s[0]'h0 = c := by
  have hz : s.size = r.length + 1 := by show s.data.size = _; rw [← Array.length_toList, h]; rfl
  refine ⟨by omega, ?_⟩
  have h2 : s.data.toList[0]? = some c := by rw [h]; rfl
  have h3 : s.data[0]? = some c := by rw [← Array.getElem?_toList]; exact h2
  obtain ⟨h4, h5⟩ := Array.getElem?_eq_some_iff.1 h3
  exact h5
/-- a text that is none of the four -/
theorem reg_look_tail {c : UInt8} {r : List UInt8} (h : (c ≠ 120 ∧ c ≠ 119) ∨ dig r 0 30 = none)
    (h1 : c :: r ≠ [119, 122, 114]) (h2 : c :: r ≠ [120, 122, 114]) (h3 : c :: r ≠ [119, 115, 112]) (h4 : c :: r ≠ [115, 112]) : look regT (c :: r) = none := by
  refine reg_look h1 h2 h3 h4 fun n hn => ?_
  rcases h with ⟨a, b⟩ | h
  · exact ⟨fun e => a (List.cons.inj e).1, fun e => b (List.cons.inj e).1⟩
  · rw [dig_iff_none (by decide)] at h
    exact ⟨fun e => h n (by omega) (by omega) (List.cons.inj e).2.symm, fun e => h n (by omega) (by omega) (List.cons.inj e).2.symm⟩

set_option maxHeartbeats 1000000 in
theorem reg_four (s : ByteArray) (w : World) (h : s = ⟨#[119, 122, 114]⟩ ∨ s = ⟨#[120, 122, 114]⟩ ∨ s = ⟨#[119, 115, 112]⟩ ∨ s = ⟨#[115, 112]⟩) :
    Calls Tryd.prog 9 #[.string s] w fun e w' => e = regOut s.data.toList ∧ Below w.heap.size w w' := by
  rcases h with rfl | rfl | rfl | rfl
  · rw [show (⟨#[119, 122, 114]⟩ : ByteArray).data.toList = [119, 122, 114] from rfl, out_wzr]
    go_enter Tryd.func9, Tryd.ntmps9
    go_wp2
    exact bodyPost_ret (v := .tuple #[.agg #[.int .i64 31, .bool false, .bool false], .int .i64 0]) (by simp [results, Tryd.results9, go_sem]) rfl ⟨rfl, ((Below.refl _ _).alloc (Nat.le_refl _) _)⟩
  · rw [show (⟨#[120, 122, 114]⟩ : ByteArray).data.toList = [120, 122, 114] from rfl, out_xzr]
    go_enter Tryd.func9, Tryd.ntmps9
    go_wp2
    exact bodyPost_ret (v := .tuple #[.agg #[.int .i64 31, .bool true, .bool false], .int .i64 0]) (by simp [results, Tryd.results9, go_sem]) rfl ⟨rfl, ((Below.refl _ _).alloc (Nat.le_refl _) _)⟩
  · rw [show (⟨#[119, 115, 112]⟩ : ByteArray).data.toList = [119, 115, 112] from rfl, out_wsp]
    go_enter Tryd.func9, Tryd.ntmps9
    go_wp2
    exact bodyPost_ret (v := .tuple #[.agg #[.int .i64 31, .bool false, .bool true], .int .i64 0]) (by simp [results, Tryd.results9, go_sem]) rfl ⟨rfl, ((Below.refl _ _).alloc (Nat.le_refl _) _)⟩
  · rw [show (⟨#[115, 112]⟩ : ByteArray).data.toList = [115, 112] from rfl, out_sp]
    go_enter Tryd.func9, Tryd.ntmps9
    go_wp2
    exact bodyPost_ret (v := .tuple #[.agg #[.int .i64 31, .bool true, .bool true], .int .i64 0]) (by simp [results, Tryd.results9, go_sem]) rfl ⟨rfl, ((Below.refl _ _).alloc (Nat.le_refl _) _)⟩

set_option maxHeartbeats 1000000 in
theorem reg_empty (w : World) :
    Calls Tryd.prog 9 #[.string ⟨#[]⟩] w fun e w' => e = regOut [] ∧ Below w.heap.size w w' := by
  rw [out_none (show look regT [] = none by decide +kernel)]
  go_enter Tryd.func9, Tryd.ntmps9
  go_wp2
  exact bodyPost_ret (v := .tuple #[.agg #[.int .i64 0, .bool false, .bool false], .int .i64 30]) (by simp [results, Tryd.results9, go_sem]) rfl ⟨rfl, ((Below.refl _ _).alloc (Nat.le_refl _) _)⟩

set_option maxHeartbeats 2000000 in
theorem reg_tail (s : ByteArray) (c : UInt8) (r : List UInt8) (w : World) (hsd : s.data.toList = c :: r) (hG : Good w) (hs : s.size ≤ 281474976710656) (h1 : c :: r ≠ [119, 122, 114]) (h2 : c :: r ≠ [120, 122, 114]) (h3 : c :: r ≠ [119, 115, 112]) (h4 : c :: r ≠ [115, 112]) :
    Calls Tryd.prog 9 #[.string s] w fun e w' => e = regOut (c :: r) ∧ Below w.heap.size w w' := by
  obtain ⟨h0, gx⟩ := head_byte hsd
  have h0' : 0 < (s.size : Int) := by omega
  have q1 : (s.toList == [119, 122, 114]) = false := lit_no (fun e => h1 (by rw [← hsd, e]))
  have q2 : (s.toList == [120, 122, 114]) = false := lit_no (fun e => h2 (by rw [← hsd, e]))
  have q3 : (s.toList == [119, 115, 112]) = false := lit_no (fun e => h3 (by rw [← hsd, e]))
  have q4 : (s.toList == [115, 112]) = false := lit_no (fun e => h4 (by rw [← hsd, e]))
  have q5 : (s.toList == []) = false := lit_no (l := []) (fun e => by rw [e] at h0; exact absurd h0 (by decide))
  have h1s : 1 ≤ s.size := h0
  by_cases hc : c ≠ 120 ∧ c ≠ 119
  · rw [out_none (reg_look_tail (.inl hc) h1 h2 h3 h4)]
    have e1 : ((c.toNat : Int) != 120) = true := by
      rw [bne_iff_ne]; intro e; exact hc.1 (UInt8.toNat_inj.1 (by show c.toNat = 120; omega))
    have e2 : ((c.toNat : Int) != 119) = true := by
      rw [bne_iff_ne]; intro e; exact hc.2 (UInt8.toNat_inj.1 (by show c.toNat = 119; omega))
    clear h1 h2 h3 h4 hG hs hc hsd
    go_enter Tryd.func9, Tryd.ntmps9
    go_wp2
    exact bodyPost_ret (v := .tuple #[.agg #[.int .i64 0, .bool false, .bool false], .int .i64 30]) (by simp [results, Tryd.results9, go_sem]) rfl ⟨rfl, ((Below.refl _ _).alloc (Nat.le_refl _) _)⟩
  · have hx : c = 120 ∨ c = 119 := by
      by_cases g : c = 120
      · exact .inl g
      · exact .inr (by by_cases g' : c = 119; exact g'; exact absurd ⟨g, g'⟩ hc)
    have hG1 := hG.thn (((Below.refl w.heap.size w).alloc (Nat.le_refl _) (.cells #[.int .i64 0, .bool false, .bool false] 23)))
    have TD := Lib.hid (tail_data hsd)
    cases hd : dig r 0 30 with
    | none =>
      rw [out_none (reg_look_tail (.inr hd) h1 h2 h3 h4)]
      have DC : ∀ E : ByteArray, E.data.toList = r → Calls Tryd.prog 22 #[.string E, .int .i64 0, .int .i64 30] (w.alloc (.cells #[.int .i64 0, .bool false, .bool false] 23)) fun e w' => e = .returned (.tuple #[.int .i64 0, .bool false]) ∧ Below (w.alloc (.cells #[.int .i64 0, .bool false, .bool false] 23)).heap.size (w.alloc (.cells #[.int .i64 0, .bool false, .bool false] 23)) w' := fun E hE =>
        decimal_none E 0 30 _ hG1 (by decide) (by
          have e1 : E.size = r.length := by show E.data.size = _; rw [← Array.length_toList, hE]
          have e2 : s.size = r.length + 1 := by show s.data.size = _; rw [← Array.length_toList, hsd]; rfl
          omega) (by rw [hE]; exact hd)
      have DH := Lib.hid DC
      clear DC h1 h2 h3 h4 hG hG1 hc hd hsd hs
      rcases hx with rfl | rfl
      all_goals
        go_enter Tryd.func9, Tryd.ntmps9
        go_wp2_with fail
        refine (DH.out _ TD.out).mono ?_
        rintro e w1 ⟨rfl, hb⟩
        obtain ⟨hcc, hff⟩ := bcell hb
        have hz : w.heap.size < w1.heap.size := by have := hb.size; simp at this; omega
        have HB := Lib.hid hb
        clear hb
        go_wp2_with fail
        exact bodyPost_ret (v := .tuple #[.agg #[.int .i64 0, .bool false, .bool false], .int .i64 30]) (by simp [results, Tryd.results9, hcc, go_sem]) rfl ⟨rfl, below_set3 ((((Below.refl _ _).alloc (Nat.le_refl _) _).trans (HB.out.mono (by simp)))) (Nat.le_refl _) _ _ _⟩
    | some n =>
      obtain ⟨g1, g2, g3, g4⟩ := dig_spec hd
      have DC : ∀ E : ByteArray, E.data.toList = r → Calls Tryd.prog 22 #[.string E, .int .i64 0, .int .i64 30] (w.alloc (.cells #[.int .i64 0, .bool false, .bool false] 23)) fun e w' => e = .returned (.tuple #[.int .i64 (n : Int), .bool true]) ∧ Below (w.alloc (.cells #[.int .i64 0, .bool false, .bool false] 23)).heap.size (w.alloc (.cells #[.int .i64 0, .bool false, .bool false] 23)) w' := fun E hE =>
        decimal_some E 0 30 n _ (by rw [hE]; exact hd)
      have DH := Lib.hid DC
      have hn9 : (n : Int) ≤ 30 := by omega
      rw [← g3]
      rcases hx with rfl | rfl
      · rw [out_x (show n < 31 by omega)]
        clear DC h1 h2 h3 h4 hG hG1 hc hd hsd hs g1 g2 g3 g4
        go_enter Tryd.func9, Tryd.ntmps9
        go_wp2_with fail
        refine (DH.out _ TD.out).mono ?_
        rintro e w1 ⟨rfl, hb⟩
        obtain ⟨hcc, hff⟩ := bcell hb
        have hz : w.heap.size < w1.heap.size := by have := hb.size; simp at this; omega
        have HB := Lib.hid hb
        clear hb
        go_wp2_with fail
        exact bodyPost_ret (v := .tuple #[.agg #[.int .i64 (n : Int), .bool true, .bool false], .int .i64 0]) (by simp [results, Tryd.results9, hcc, go_sem]) rfl ⟨rfl, below_set3 ((((Below.refl _ _).alloc (Nat.le_refl _) _).trans (HB.out.mono (by simp)))) (Nat.le_refl _) _ _ _⟩
      · rw [out_w (show n < 31 by omega)]
        clear DC h1 h2 h3 h4 hG hG1 hc hd hsd hs g1 g2 g3 g4
        go_enter Tryd.func9, Tryd.ntmps9
        go_wp2_with fail
        refine (DH.out _ TD.out).mono ?_
        rintro e w1 ⟨rfl, hb⟩
        obtain ⟨hcc, hff⟩ := bcell hb
        have hz : w.heap.size < w1.heap.size := by have := hb.size; simp at this; omega
        have HB := Lib.hid hb
        clear hb
        go_wp2_with fail
        exact bodyPost_ret (v := .tuple #[.agg #[.int .i64 (n : Int), .bool false, .bool false], .int .i64 0]) (by simp [results, Tryd.results9, hcc, go_sem]) rfl ⟨rfl, below_set3 ((((Below.refl _ _).alloc (Nat.le_refl _) _).trans (HB.out.mono (by simp)))) (Nat.le_refl _) _ _ _⟩
theorem reg_any (s : ByteArray) (w : World) (hG : Good w) (hs : s.size ≤ 281474976710656) :
    Calls Tryd.prog 9 #[.string s] w fun e w' => e = regOut s.data.toList ∧ Below w.heap.size w w' := by
  by_cases h1 : s = ⟨#[119, 122, 114]⟩
  · exact reg_four s w (.inl h1)
  by_cases h2 : s = ⟨#[120, 122, 114]⟩
  · exact reg_four s w (.inr (.inl h2))
  by_cases h3 : s = ⟨#[119, 115, 112]⟩
  · exact reg_four s w (.inr (.inr (.inl h3)))
  by_cases h4 : s = ⟨#[115, 112]⟩
  · exact reg_four s w (.inr (.inr (.inr h4)))
  cases e : s.data.toList with
  | nil =>
    obtain rfl : s = ⟨#[]⟩ := bytes_eq e
    exact reg_empty w
  | cons c r =>
    exact reg_tail s c r w e hG hs (fun g => h1 (bytes_eq (e.trans g))) (fun g => h2 (bytes_eq (e.trans g))) (fun g => h3 (bytes_eq (e.trans g))) (fun g => h4 (bytes_eq (e.trans g)))
end Go.Proofs.YtefglodkcddgiaaDoor
