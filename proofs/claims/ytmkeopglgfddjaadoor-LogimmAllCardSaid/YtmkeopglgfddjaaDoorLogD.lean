/-
  What Decode and Value return, the program's and the document's. No conditions beyond those that each lemma states.
-/
import Derived.Test.YtmkeopglgfddjaaDoorLogP
namespace Go.Proofs.YtmkeopglgfddjaaDoor
open Go.RowKit Go.Shelf BM

theorem size_mark {s : Nat} (h : IsSize s) : topN s + s ≤ 64 ∧ ((s = 64 ∧ bitN s = 1) ∨ (s ≠ 64 ∧ bitN s = 0)) := by
  rcases h with rfl | rfl | rfl | rfl | rfl | rfl <;> decide
theorem fit_valid {n r m : Int} {s W : Nat} (hs : IsSize s) (hl : s ≤ W) (h : Fit n r m s) : Valid s (m - (topN s : Int) + 1).toNat r.toNat W := by
  obtain ⟨_, h2, h3, h4, h5⟩ := h
  exact ⟨hs, hl, by omega, by omega, by omega⟩
theorem fit_one {n r m : Int} {s s' : Nat} (hs : IsSize s) (hs' : IsSize s') (h : Fit n r m s) (h' : Fit n r m s') : s = s' := by
  obtain ⟨a1, a2, a3, _, _⟩ := h
  obtain ⟨b1, b2, b3, _, _⟩ := h'
  rcases hs with rfl | rfl | rfl | rfl | rfl | rfl <;> rcases hs' with rfl | rfl | rfl | rfl | rfl | rfl <;> first | rfl | (exfalso; have c : (bitN 64 : Int) = 1 := rfl; have c1 : (bitN 2 : Int) = 0 := rfl; have c2 : (bitN 4 : Int) = 0 := rfl; have c3 : (bitN 8 : Int) = 0 := rfl; have c4 : (bitN 16 : Int) = 0 := rfl; have c5 : (bitN 32 : Int) = 0 := rfl; unfold topN at *; omega)

/-- what a pattern of these parts is worth -/
def decI (s : Nat) (r m : Int) (W : Nat) : Int := ((valN s (m - (topN s : Int) + 1).toNat r.toNat W : Nat) : Int)

theorem of_yes (n r m : Int) (s W : Nat) (w : World) (hW : IsW W) (hs : IsSize s) (hl : s ≤ W) (hf : Fit n r m s) :
    Calls Tryd.prog 22 #[.int .i64 n, .int .i64 r, .int .i64 m, .int .i64 (W : Int)] w fun e w' =>
      e = .returned (.tuple #[.agg #[.int .i64 (s : Int), .int .i64 (m - (topN s : Int) + 1), .int .i64 r], .bool true]) ∧ Below w.heap.size w w' := by
  refine (ofParts_any n r m W w hW).mono ?_
  rintro e w' ⟨⟨s', h1, h2, h3, rfl⟩ | ⟨h1, _⟩, hb⟩
  · have := fit_one hs h1 hf h3
    subst this
    exact ⟨rfl, hb⟩
  · exact absurd hf (h1 s hs hl)
theorem of_no (n r m : Int) (W : Nat) (w : World) (hW : IsW W) (hf : ∀ s, IsSize s → s ≤ W → ¬ Fit n r m s) :
    Calls Tryd.prog 22 #[.int .i64 n, .int .i64 r, .int .i64 m, .int .i64 (W : Int)] w fun e w' =>
      e = .returned (.tuple #[.agg #[.int .i64 0, .int .i64 0, .int .i64 0], .bool false]) ∧ Below w.heap.size w w' := by
  refine (ofParts_any n r m W w hW).mono ?_
  rintro e w' ⟨⟨s', h1, h2, h3, rfl⟩ | ⟨_, rfl⟩, hb⟩
  · exact absurd h3 (hf s' h1 h2)
  · exact ⟨rfl, hb⟩

set_option maxHeartbeats 1000000 in
theorem decode_yes (n r m : Int) (s W : Nat) (w : World) (hW : IsW W) (hs : IsSize s) (hl : s ≤ W) (hf : Fit n r m s) :
    Calls Tryd.prog 8 #[.int .i64 n, .int .i64 r, .int .i64 m, .int .i64 (W : Int)] w fun e w' => e = .returned (.tuple #[.int .u64 (decI s r m W), .int .i64 0]) ∧ Below w.heap.size w w' := by
  have hv := fit_valid hs hl hf
  have vy := fun w => value_yes s (m - (topN s : Int) + 1).toNat r.toNat W w hW hv
  have e1 : (((m - (topN s : Int) + 1).toNat : Nat) : Int) = m - (topN s : Int) + 1 := by have := hf.2.1; omega
  have e2 : ((r.toNat : Nat) : Int) = r := by have := hf.2.2.2.1; omega
  rw [e1, e2] at vy
  have VY := Lib.hid vy
  have OP := Lib.hid (of_yes n r m s W w hW hs hl hf)
  have HF := Lib.hid hf
  clear vy e1 e2 hv hf
  go_enter Tryd.func8, Tryd.ntmps8
  go_wp2_with (first | (go_at_call 21; refine (isw_yes W _ hW).mono ?_; rintro e w1 ⟨rfl, rfl⟩) | (go_at_call 22; refine OP.out.mono ?_; rintro e w1 ⟨rfl, hb⟩) | (go_at_call 23; refine (VY.out _).mono ?_; rintro e w2 ⟨rfl, hb2⟩))
  go_ret2
  have hz := hb.size
  exact ⟨rfl, Below.thn ((hb.alloc hz _)) (by simp; omega) hb2⟩
set_option maxHeartbeats 1000000 in
theorem decode_no (n r m : Int) (W : Nat) (w : World) (hW : IsW W) (hf : ∀ s, IsSize s → s ≤ W → ¬ Fit n r m s) :
    Calls Tryd.prog 8 #[.int .i64 n, .int .i64 r, .int .i64 m, .int .i64 (W : Int)] w fun e w' => e = .returned (.tuple #[.int .u64 0, .int .i64 20]) ∧ Below w.heap.size w w' := by
  have OP := Lib.hid (of_no n r m W w hW hf)
  clear hf
  go_enter Tryd.func8, Tryd.ntmps8
  go_wp2_with (first | (go_at_call 21; refine (isw_yes W _ hW).mono ?_; rintro e w1 ⟨rfl, rfl⟩) | (go_at_call 22; refine OP.out.mono ?_; rintro e w1 ⟨rfl, hb⟩))
  go_ret2
  have hz := hb.size
  exact ⟨rfl, hb.alloc hz _⟩
set_option maxHeartbeats 1000000 in
theorem decode_bad (n r m W : Int) (w : World) (h : W ≠ 32) (h' : W ≠ 64) :
    Calls Tryd.prog 8 #[.int .i64 n, .int .i64 r, .int .i64 m, .int .i64 W] w fun e w' => e = .returned (.tuple #[.int .u64 0, .int .i64 1]) ∧ Below w.heap.size w w' := by
  go_enter Tryd.func8, Tryd.ntmps8
  go_wp2_with (go_at_call 21; refine (isw_no W _ h h').mono ?_; rintro e w1 ⟨rfl, rfl⟩)
  go_ret2
  exact ⟨rfl, Below.refl _ _⟩
end Go.Proofs.YtmkeopglgfddjaaDoor
