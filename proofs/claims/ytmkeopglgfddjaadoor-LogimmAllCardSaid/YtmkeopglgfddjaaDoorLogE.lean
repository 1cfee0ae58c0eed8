/-
  What Value of the program returns, and what Decode and Value of the document return. No conditions beyond those that each lemma states.
-/
import Derived.Test.YtmkeopglgfddjaaDoorLogD
namespace Go.Proofs.YtmkeopglgfddjaaDoor
open Go.RowKit Go.Shelf BM

theorem and63 (x : Int) : bits .and .i64 x 63 = x % 64 := by
  have h2 : (BitVec.ofInt 64 (63 : Int)).toNat = 63 := by decide
  show IntKind.i64.wrap ((BitVec.ofInt 64 x &&& BitVec.ofInt 64 63).toNat : Int) = _
  have e : (BitVec.ofInt 64 x).toNat &&& 63 = (BitVec.ofInt 64 x).toNat % 64 := Nat.and_two_pow_sub_one_eq_mod _ 6
  rw [BitVec.toNat_and, h2, e, BitVec.toNat_ofInt]
  have e2 : 2 ^ 64 = 18446744073709551616 := by decide
  rw [e2, IntWalk.i64_in _ (by omega)]
  omega

/-- the three parts of a field -/
abbrev pN (f : Int) : Int := f / 4096
abbrev pR (f : Int) : Int := f / 64 % 64
abbrev pM (f : Int) : Int := f % 64
set_option maxHeartbeats 1000000 in
theorem value_any {f W : Int} {w : World} {e0 : Ending} (hd : ∀ w : World, Calls Tryd.prog 8 #[.int .i64 (pN f), .int .i64 (pR f), .int .i64 (pM f), .int .i64 W] w fun e w' => (∃ a b, e = .returned (.tuple #[a, b]) ∧ e0 = e) ∧ Below w.heap.size w w') :
    Calls Tryd.prog 10 #[.int .i64 f, .int .i64 W] w fun e w' => e = e0 ∧ Below w.heap.size w w' := by
  have a1 := Lib.hid (and63 (f / 64))
  have a2 := Lib.hid (and63 f)
  go_enter Tryd.func10, Tryd.ntmps10
  go_wp2_with fail
  rw [a1.out, a2.out]
  refine (hd _).mono ?_
  rintro e w1 ⟨⟨a, b, rfl, rfl⟩, hb⟩
  go_wp2
  go_ret2
  exact ⟨rfl, hb⟩

/-- the sizes below s have been looked at -/
def Tried (P : Nat → Prop) (W s : Nat) : Prop := ∀ z, IsSize z → z ≤ W → z < s → ¬ P z
theorem tried_start (P : Nat → Prop) (W : Nat) : Tried P W 2 := fun z hz _ h => by unfold IsSize at hz; omega
theorem tried_more {P : Nat → Prop} {W s : Nat} (hs : IsSize s) (h : Tried P W s) (hn : ¬ P s) : Tried P W (s * 2) := fun z hz hl hlt => by
  by_cases g : z < s
  · exact h z hz hl g
  · have : z = s := by unfold IsSize at hz hs; omega
    rw [this]; exact hn
theorem size_double {s W : Nat} (hs : IsSize s) (hW : IsW W) (hl : s ≤ W) : IsSize (s * 2) ∨ W < s * 2 := by
  unfold IsSize at *; unfold IsW at hW; omega
set_option maxRecDepth 100000 in
set_option maxHeartbeats 4000000 in
theorem rdecode_any (n r m : Int) (W : Nat) (w : World) (hW : IsW W) :
    Calls Tryd.prog 9 #[.int .i64 n, .int .i64 r, .int .i64 m, .int .i64 (W : Int)] w fun e w' =>
      ((∃ s : Nat, IsSize s ∧ s ≤ W ∧ Fit n r m s ∧ e = .returned (.tuple #[.int .u64 (decI s r m W), .int .i64 0])) ∨
        ((∀ s, IsSize s → s ≤ W → ¬ Fit n r m s) ∧ e = .returned (.tuple #[.int .u64 0, .int .i64 20]))) ∧ w = w' := by
  go_enter Tryd.func9, Tryd.ntmps9
  go_wp2_with (go_at_call 24; refine (bad_no W _ hW).mono ?_; rintro e w1 ⟨rfl, rfl⟩)
  go_loop [10] (fun i => ∃ s : Nat, i = .int .i64 (s : Int) ∧ (IsSize s ∨ W < s) ∧ s ≤ 128 ∧ Hid (Tried (Fit n r m) W s)) (fun i => 200 - (intOf i).toNat)
  case atStart => exact ⟨2, rfl, .inl (.inl rfl), by decide, Lib.hid (tried_start _ _)⟩
  case round =>
    obtain ⟨s, rfl, hs, hs2, ht⟩ := hrel
    by_cases hlt : (s : Int) ≤ (W : Int)
    · have hs' : IsSize s := by rcases hs with h | h; · exact h
                                · omega
      obtain ⟨k1, k2⟩ := size_mark hs'
      have hsb := size_bd hs'
      by_cases hf : Fit n r m s
      · have HF := Lib.hid hf
        have hv := fit_valid hs' (by omega) hf
        have vy := fun w => rvalue_any s (m - (topN s : Int) + 1).toNat r.toNat W w (by omega) (by omega) hv.2.2.2.2 (w_bd hW).2
        obtain ⟨f1, f2, f3, f4, f5⟩ := hf
        have e1 : (((m - (topN s : Int) + 1).toNat : Nat) : Int) = m - (topN s : Int) + 1 := by omega
        have e2 : ((r.toNat : Nat) : Int) = r := by omega
        rw [e1, e2] at vy
        have VY := Lib.hid vy
        have HS := Lib.hid hs'
        have q1 : (n = 1 ∧ ((s : Int) == 64) = true) ∨ (n = 0 ∧ ((s : Int) == 64) = false) := by
          rcases k2 with ⟨g1, g2⟩ | ⟨g1, g2⟩
          · exact .inl ⟨by rw [f1, g2]; rfl, by rw [g1]; rfl⟩
          · exact .inr ⟨by rw [f1, g2]; rfl, by simp; omega⟩
        have w1 : IntKind.i64.wrap (m - (topN s : Int)) = m - (topN s : Int) := IntWalk.i64_in _ (by omega)
        have w2 : IntKind.i64.wrap (m - (topN s : Int) + 1) = m - (topN s : Int) + 1 := IntWalk.i64_in _ (by omega)
        have m1 : 1 ≤ m - (topN s : Int) + 1 := by omega
        have m2 : m - (topN s : Int) + 1 < (s : Int) := by omega
        have m3 : 0 ≤ m := by omega
        have m4 : m < 64 := by omega
        have RT := rtop_any s w hs'
        have HV := Lib.hid hsb
        have HT := Lib.hid (show s ≤ W by omega)
        clear f1 k2 k1 hsb e1 vy hv hs hs' f2 f3 hlt
        have hlt : (s : Int) ≤ (W : Int) := Int.ofNat_le.2 HT.out
        rcases q1 with ⟨rfl, g⟩ | ⟨rfl, g⟩
        all_goals
          go_wp2_with (first | (go_at_call 25; refine RT.mono ?_; rintro e w1 ⟨rfl, rfl⟩) | (go_at_call 26; refine (VY.out _).mono ?_; rintro e w1 ⟨rfl, rfl⟩))
          go_ret2
          exact ⟨.inl ⟨s, HS.out, HT.out, HF.out, rfl⟩, rfl⟩
      · have RT := rtop_any s w hs'
        have HF := Lib.hid hf
        have HS := Lib.hid hs'
        have w0 : IntKind.i64.wrap ((s : Int) * 2) = ((s * 2 : Nat) : Int) := by rw [IntWalk.i64_in _ (by omega)]; omega
        have TM := Lib.hid (tried_more hs' ht.out hf)
        have SD := Lib.hid (size_double hs' hW (by omega))
        have K1 := Lib.hid k1
        have K2 := Lib.hid k2
        have HB := Lib.hid hsb
        clear hf hs hs' k1 k2 hsb
        have kc : n = 0 ∨ n = 1 ∨ ((n == 0) = false ∧ (n == 1) = false) := by
          by_cases a : n = 0
          · exact .inl a
          · by_cases b : n = 1
            · exact .inr (.inl b)
            · exact .inr (.inr ⟨by simp [a], by simp [b]⟩)
        have kg : ((s : Int) == 64) = true ∨ ((s : Int) == 64) = false := by cases ((s : Int) == 64) <;> simp
        have HG := Lib.hid kg
        by_cases hm : 0 ≤ m ∧ m < 64
        · obtain ⟨m1, m2⟩ := hm
          have w1 : IntKind.i64.wrap (m - (topN s : Int)) = m - (topN s : Int) := IntWalk.i64_in _ (by have := K1.out; omega)
          have w2 : IntKind.i64.wrap (m - (topN s : Int) + 1) = m - (topN s : Int) + 1 := IntWalk.i64_in _ (by have := K1.out; omega)
          rcases kc with rfl | rfl | ⟨kc1, kc2⟩ <;> rcases kg with kg | kg
          all_goals go_wp2_with (go_at_call 25; refine RT.mono ?_; rintro e w1 ⟨rfl, rfl⟩)
          all_goals first
            | exact ⟨⟨s * 2, by first | rfl | rw [← w0] | simp, SD.out, by have := HB.out; omega, TM.out⟩, by have := HB.out; simp [intOf]; omega⟩
            | (exfalso; apply HF.out; unfold Fit; have a1 := K1.out; have a2 := K2.out; have a3 : (s : Int) = 64 ∨ (s : Int) ≠ 64 := by omega
               simp at kg; omega)
            | trace_state
        · have w3 : ∃ o, IntKind.i64.wrap (IntKind.i64.wrap (m - (topN s : Int)) + 1) = o := ⟨_, rfl⟩
          have hmx : 0 ≤ m → decide (m < 64) = false := by intro h; simp; omega
          by_cases hm0 : 0 ≤ m
          · have mx := hmx hm0
            clear hmx hm w3
            rcases kc with rfl | rfl | ⟨kc1, kc2⟩ <;> rcases kg with kg | kg
            all_goals go_wp2_with (go_at_call 25; refine RT.mono ?_; rintro e w1 ⟨rfl, rfl⟩)
            all_goals first
              | exact ⟨⟨s * 2, by first | rfl | rw [← w0] | simp, SD.out, by have := HB.out; omega, TM.out⟩, by have := HB.out; simp [intOf]; omega⟩
              | (exfalso; simp at mx; omega)
              | trace_state
          · have mx : decide (0 ≤ m) = false := by simp; omega
            clear hmx hm hm0 w3
            rcases kc with rfl | rfl | ⟨kc1, kc2⟩ <;> rcases kg with kg | kg
            all_goals go_wp2_with (go_at_call 25; refine RT.mono ?_; rintro e w1 ⟨rfl, rfl⟩)
            all_goals first
              | exact ⟨⟨s * 2, by first | rfl | rw [← w0] | simp, SD.out, by have := HB.out; omega, TM.out⟩, by have := HB.out; simp [intOf]; omega⟩
              | (exfalso; simp at mx; omega)
              | trace_state
    · have TR := Lib.hid ht.out
      go_wp2
      go_ret2
      exact ⟨.inr ⟨fun z hz hl => TR.out z hz hl (by omega), rfl⟩, rfl⟩
end Go.Proofs.YtmkeopglgfddjaaDoor
