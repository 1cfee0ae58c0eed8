/-
  What each call of Get and Put returns, for every input, the program's own and the document's; nothing that lay in memory has changed.
-/
import Derived.Test.YtfpaambihjijoaaDoorBitsA
namespace Go.Proofs.YtfpaambihjijoaaDoor
open Go.RowKit BM
set_option maxHeartbeats 400000 in
theorem fieldOnes_any (l n : Int) (w : World) (h1 : 1 ≤ n) (h2 : n ≤ 32) :
    Calls Tryd.prog 25 #[.agg #[.int .i64 l, .int .i64 n]] w fun e w' => e = .returned (.int .u32 (onesI n)) ∧ Below w.heap.size w w' := by
  go_enter Tryd.func25, Tryd.ntmps25
  go_wp2
  go_ret
  exact ⟨ret1 (ones_code32 h2), (Below.refl _ _).alloc (Nat.le_refl _) _⟩

set_option maxHeartbeats 400000 in
theorem lies_yes (l n : Int) (w : World) (h1 : 0 ≤ l) (h2 : l < 32) (h3 : 1 ≤ n) (h4 : n ≤ 32) (h5 : l + n ≤ 32) :
    Calls Tryd.prog 24 #[.agg #[.int .i64 l, .int .i64 n]] w fun e w' => e = .returned (.bool true) ∧ Below w.heap.size w w' := by
  go_enter Tryd.func24, Tryd.ntmps24
  go_wp2
  go_ret
  exact ⟨ret1b (by first | rfl | (simp; omega)), (Below.refl _ _).alloc (Nat.le_refl _) _⟩
set_option maxHeartbeats 400000 in
theorem lies_no (l n : Int) (w : World) (h : ¬ (0 ≤ l ∧ l < 32 ∧ 1 ≤ n ∧ n ≤ 32 ∧ l + n ≤ 32)) :
    Calls Tryd.prog 24 #[.agg #[.int .i64 l, .int .i64 n]] w fun e w' => e = .returned (.bool false) ∧ Below w.heap.size w w' := by
  have H := Lib.hid h
  clear h
  go_enter Tryd.func24, Tryd.ntmps24
  go_wp2
  all_goals go_ret
  all_goals exact ⟨ret1b (by first | rfl | (have := H.out; simp; omega)), (Below.refl _ _).alloc (Nat.le_refl _) _⟩

set_option maxHeartbeats 400000 in
theorem mask_any (l n : Int) (w : World) (h1 : 0 ≤ l) (h2 : l < 32) (h3 : 1 ≤ n) (h4 : n ≤ 32) (h5 : l + n ≤ 32) :
    Calls Tryd.prog 26 #[.agg #[.int .i64 l, .int .i64 n]] w fun e w' => e = .returned (.int .u32 (maskI l n)) ∧ Below w.heap.size w w' := by
  go_enter Tryd.func26, Tryd.ntmps26
  go_wp2_with fail
  go_region_held3 (fun w' => (w'.cell? ⟨w.heap.size, 0, none⟩ = some (.int .i64 l) ∧ w'.cell? ⟨w.heap.size, 1, none⟩ = some (.int .i64 n)) ∧ w.heap.size < w'.heap.size ∧ Below w.heap.size w w') (first | exact two_start (Below.refl _ _) | exact two_keep (by assumption) (by assumption))
    ((go_at_call 25; refine (fieldOnes_any l n _ h3 h4).mono ?_; rintro e w1 ⟨rfl, hb⟩; obtain ⟨hc, hf⟩ := bcell hb))
  go_wp2
  go_ret
  rename_i hS
  exact ⟨ret1 (mask_val h1 h3 h5), hS.2.2⟩

set_option maxHeartbeats 400000 in
theorem put_over (x l n v : Int) (w : World) (c1 : 0 ≤ v) (c2 : v < 4294967296) (h1 : 0 ≤ l) (h2 : l < 32) (h3 : 1 ≤ n) (h4 : n ≤ 32) (h5 : l + n ≤ 32) (hv : ¬ v < powI n) :
    Calls Tryd.prog 18 #[.int .u32 x, .agg #[.int .i64 l, .int .i64 n], .int .u32 v] w fun e w' => e = .returned (.tuple #[.int .u32 0, .int .i64 7]) ∧ Below w.heap.size w w' := by
  have ht := over_yes c1 c2 h4 hv
  go_enter Tryd.func18, Tryd.ntmps18
  go_wp2_with (first | (go_at_call 24; refine (lies_yes l n _ h1 h2 h3 h4 h5).mono ?_; rintro e w1 ⟨rfl, hb⟩; obtain ⟨hc, hf⟩ := bcell hb; have hz := hb.size) | (go_at_call 25; refine (fieldOnes_any l n _ h3 h4).mono ?_; rintro e w2 ⟨rfl, hb2⟩; obtain ⟨hc2, hf2⟩ := bcell hb2))
  go_ret2
  exact ⟨rfl, Below.thn (Below.thn ((Below.refl _ _).alloc (Nat.le_refl _) _) (by simp) hb) (by simp at hz ⊢; omega) hb2⟩

set_option maxHeartbeats 400000 in
theorem put_yes (x l n v : Int) (w : World) (b1 : 0 ≤ x) (b2 : x < 4294967296) (c1 : 0 ≤ v) (c2 : v < 4294967296) (h1 : 0 ≤ l) (h2 : l < 32) (h3 : 1 ≤ n) (h4 : n ≤ 32) (h5 : l + n ≤ 32) (hv : v < powI n) :
    Calls Tryd.prog 18 #[.int .u32 x, .agg #[.int .i64 l, .int .i64 n], .int .u32 v] w fun e w' => e = .returned (.tuple #[.int .u32 (putI x l n v), .int .i64 0]) ∧ Below w.heap.size w w' := by
  have ht := over_no c1 c2 h4 hv
  go_enter Tryd.func18, Tryd.ntmps18
  go_wp2_with (first | (go_at_call 24; refine (lies_yes l n _ h1 h2 h3 h4 h5).mono ?_; rintro e w1 ⟨rfl, hb⟩; obtain ⟨hc, hf⟩ := bcell hb; have hz := hb.size) | (go_at_call 25; refine (fieldOnes_any l n _ h3 h4).mono ?_; rintro e w2 ⟨rfl, hb2⟩; obtain ⟨hc2, hf2⟩ := bcell hb2; have hz2 := hb2.size))
  have h12 := hb.trans (hb2.mono hz)
  go_region_held3 (fun w' => (w'.cell? ⟨w.heap.size, 0, none⟩ = some (.int .i64 l) ∧ w'.cell? ⟨w.heap.size, 1, none⟩ = some (.int .i64 n)) ∧ w.heap.size < w'.heap.size ∧ Below w.heap.size w w') (first | exact two_start (by assumption) | exact two_keep (by assumption) (by assumption))
    ((go_at_call 26; refine (mask_any l n _ h1 h2 h3 h4 h5).mono ?_; rintro e w3 ⟨rfl, hb3⟩; obtain ⟨hc3, hf3⟩ := bcell hb3))
  go_wp2
  go_ret2
  rename_i hS
  exact ⟨ret2 (put_val b1 b2 c1 hv h1 h3 h5), hS.2.2⟩
end Go.Proofs.YtfpaambihjijoaaDoor
