/-
  live: some names that the document tells: true. Conditions: what the package-level variables hold (Good).
-/
import Derived.Test.YtefglodkcddgiaaDoorNamesR
namespace Go.Proofs.YtefglodkcddgiaaDoor
open Go.RowKit Go.Shelf

theorem form_text : sysText 23056 = [115, 51, 95, 51, 95, 99, 52, 95, 99, 50, 95, 48] := by decide +kernel
theorem form_num : numOf 6 [115, 51, 95, 51, 95, 99, 52, 95, 99, 50, 95, 48] = some 23056 := by
  rw [← form_text, numOf_6 _ (sysText_fresh (by decide))]; exact sysLook_text (by decide)
theorem form_name : nameOf 6 23056 = some [110, 122, 99, 118] := nameOf_in (show rlook sysT 23056 = _ by decide +kernel)
theorem three_keep {w w1 : World} {a b c : Value} {T : TypeId} (hb : Below (w.alloc (.cells #[a, b, c] T)).heap.size (w.alloc (.cells #[a, b, c] T)) w1) :
    (w1.cell? ⟨w.heap.size, 0, none⟩ = some a ∧ w1.cell? ⟨w.heap.size, 1, none⟩ = some b ∧ w1.cell? ⟨w.heap.size, 2, none⟩ = some c) ∧ w.heap.size < w1.heap.size ∧ Below w.heap.size w w1 := by
  have hh := World.alloc_heap_new w (.cells #[a, b, c] T)
  obtain ⟨hc, _⟩ := bcell hb
  have hs := hb.size
  refine ⟨⟨?_, ?_, ?_⟩, by simp at hs; omega, ((Below.refl _ w).alloc (Nat.le_refl _) _).trans (hb.mono (by simp))⟩
  · rw [hc _ _ (by simp)]; unfold World.cell?; simp only [hh]; rfl
  · rw [hc _ _ (by simp)]; unfold World.cell?; simp only [hh]; rfl
  · rw [hc _ _ (by simp)]; unfold World.cell?; simp only [hh]; rfl
theorem three_on {w w1 : World} {a b c : Option Value} {B : Nat} (hb : Below w.heap.size w w1) (hB : B < w.heap.size) (h : w.cell? ⟨B, 0, none⟩ = a ∧ w.cell? ⟨B, 1, none⟩ = b ∧ w.cell? ⟨B, 2, none⟩ = c) :
    w1.cell? ⟨B, 0, none⟩ = a ∧ w1.cell? ⟨B, 1, none⟩ = b ∧ w1.cell? ⟨B, 2, none⟩ = c := by
  obtain ⟨hc, _⟩ := bcell hb
  exact ⟨(hc B 0 hB).trans h.1, (hc B 1 hB).trans h.2.1, (hc B 2 hB).trans h.2.2⟩

set_option maxHeartbeats 2000000 in
theorem live_any (w : World) (hG : Good w) :
    Calls Tryd.prog 8 #[] w fun e w' => e = .returned (.bool true) ∧ Below w.heap.size w w' := by
  have R := reg_any ⟨#[119, 115, 112]⟩ w hG (by decide)
  rw [show (⟨#[119, 115, 112]⟩ : ByteArray).data.toList = [119, 115, 112] from rfl, out_wsp] at R
  have N := Lib.hid (fun w (hG : Good w) => by
    have h := number_any 6 ⟨#[115, 51, 95, 51, 95, 99, 52, 95, 99, 50, 95, 48]⟩ w hG (by decide)
    rw [show (⟨#[115, 51, 95, 51, 95, 99, 52, 95, 99, 50, 95, 48]⟩ : ByteArray).data.toList = [115, 51, 95, 51, 95, 99, 52, 95, 99, 50, 95, 48] from rfl, numOut_yes form_num] at h
    exact h)
  have M := Lib.hid (fun w (hG : Good w) => by
    have h := name_any 6 23056 w hG
    rw [strOut_yes form_name] at h
    exact h)
  have R' := Lib.hid R
  have HG := Lib.hid hG
  clear R hG
  go_enter Tryd.func8, Tryd.ntmps8
  go_wp2_with fail
  refine R'.out.mono ?_
  rintro e w1 ⟨rfl, hb1⟩
  have hG1 := Lib.hid (HG.out.thn (Below.thn hb1 hb1.size ((Below.refl _ _).alloc (Nat.le_refl _) (.cells #[.int .i64 31, .bool false, .bool true] 23))))
  go_wp2_with fail
  refine (N.out _ hG1.out).mono ?_
  rintro e w2 ⟨rfl, hb2⟩
  obtain ⟨c3, hz, hb3⟩ := three_keep hb2
  have hG2 := Lib.hid (hG1.out.thn hb2)
  have C3 := Lib.hid c3
  clear c3
  go_wp2_with fail
  refine (M.out _ hG2.out).mono ?_
  rintro e w3 ⟨rfl, hb4⟩
  obtain ⟨c0, c1, c2⟩ := three_on hb4 hz C3.out
  have HB := Lib.hid (show Below w.heap.size w w3 from (Below.thn hb1 hb1.size hb3).trans (hb4.mono (by have := hb2.size; have := hb1.size; omega)))
  clear hb1 hb2 hb3 hb4
  go_wp2_with fail
  go_ret
  exact ⟨rfl, HB.out⟩
end Go.Proofs.YtefglodkcddgiaaDoor
