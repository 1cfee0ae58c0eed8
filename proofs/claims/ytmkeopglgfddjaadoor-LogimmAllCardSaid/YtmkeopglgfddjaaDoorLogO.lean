/-
  What Decode and Value give, said once for the program and the document: the value and the error that the parts, or a field, and a width have. No conditions beyond those that each lemma states.
-/
import Derived.Test.YtmkeopglgfddjaaDoorLogE
namespace Go.Proofs.YtmkeopglgfddjaaDoor
open Go.RowKit Go.Shelf BM

/-- a width that is one -/
def WI (W : Int) : Prop := W = 32 ∨ W = 64
theorem WI.nat {W : Int} (h : WI W) : IsW W.toNat ∧ ((W.toNat : Nat) : Int) = W := by
  rcases h with rfl | rfl
  · exact ⟨.inl rfl, rfl⟩
  · exact ⟨.inr rfl, rfl⟩
/-- the value v and the error e of the parts n, r, m at width W -/
def DecOut (n r m W v e : Int) : Prop :=
  (WI W ∧ (∃ s : Nat, IsSize s ∧ s ≤ W.toNat ∧ Fit n r m s ∧ v = decI s r m W.toNat) ∧ e = 0) ∨
  (WI W ∧ (∀ s, IsSize s → s ≤ W.toNat → ¬ Fit n r m s) ∧ v = 0 ∧ e = 20) ∨ (¬ WI W ∧ v = 0 ∧ e = 1)
theorem decOut_ex (n r m W : Int) : ∃ v e, DecOut n r m W v e := by
  by_cases hW : WI W
  · by_cases h : ∃ s : Nat, IsSize s ∧ s ≤ W.toNat ∧ Fit n r m s
    · obtain ⟨s, a, b, c⟩ := h
      exact ⟨_, _, .inl ⟨hW, ⟨s, a, b, c, rfl⟩, rfl⟩⟩
    · exact ⟨0, 20, .inr (.inl ⟨hW, fun s a b c => h ⟨s, a, b, c⟩, rfl, rfl⟩)⟩
  · exact ⟨0, 1, .inr (.inr ⟨hW, rfl, rfl⟩)⟩
theorem decI_bd (s : Nat) (r m : Int) {W : Nat} (h : W ≤ 64) : 0 ≤ decI s r m W ∧ decI s r m W < 18446744073709551616 := by
  have := valN_64 (s := s) (n := (m - (topN s : Int) + 1).toNat) (t := r.toNat) h
  unfold decI; omega
theorem DecOut.bd {n r m W v e : Int} (h : DecOut n r m W v e) : 0 ≤ v ∧ v < 18446744073709551616 ∧ (e = 0 ∨ (v = 0 ∧ (e = 20 ∨ e = 1))) := by
  rcases h with ⟨hW, ⟨s, _, _, _, rfl⟩, rfl⟩ | ⟨_, _, rfl, rfl⟩ | ⟨_, rfl, rfl⟩
  · have := decI_bd s r m (w_bd hW.nat.1).2
    exact ⟨this.1, this.2, .inl rfl⟩
  · exact ⟨by decide, by decide, .inr ⟨rfl, .inl rfl⟩⟩
  · exact ⟨by decide, by decide, .inr ⟨rfl, .inr rfl⟩⟩
theorem decode_out {n r m W v e : Int} (h : DecOut n r m W v e) (w : World) :
    Calls Tryd.prog 8 #[.int .i64 n, .int .i64 r, .int .i64 m, .int .i64 W] w fun e' w' => e' = .returned (.tuple #[.int .u64 v, .int .i64 e]) ∧ Below w.heap.size w w' := by
  rcases h with ⟨hW, ⟨s, a, b, c, rfl⟩, rfl⟩ | ⟨hW, h, rfl, rfl⟩ | ⟨hW, rfl, rfl⟩
  · have := decode_yes n r m s W.toNat w hW.nat.1 a b c
    rw [hW.nat.2] at this; exact this
  · have := decode_no n r m W.toNat w hW.nat.1 h
    rw [hW.nat.2] at this; exact this
  · exact decode_bad n r m W w (fun g => hW (.inl g)) (fun g => hW (.inr g))
set_option maxHeartbeats 1000000 in
theorem rdecode_bad (n r m W : Int) (w : World) (h : W ≠ 32) (h' : W ≠ 64) :
    Calls Tryd.prog 9 #[.int .i64 n, .int .i64 r, .int .i64 m, .int .i64 W] w fun e w' => e = .returned (.tuple #[.int .u64 0, .int .i64 1]) ∧ w = w' := by
  go_enter Tryd.func9, Tryd.ntmps9
  go_wp2_with (go_at_call 24; refine (bad_yes W _ h h').mono ?_; rintro e w1 ⟨rfl, rfl⟩)
  go_ret2
  exact ⟨rfl, rfl⟩
theorem rdecode_out {n r m W v e : Int} (h : DecOut n r m W v e) (w : World) :
    Calls Tryd.prog 9 #[.int .i64 n, .int .i64 r, .int .i64 m, .int .i64 W] w fun e' w' => e' = .returned (.tuple #[.int .u64 v, .int .i64 e]) ∧ w = w' := by
  rcases h with ⟨hW, ⟨s, a, b, c, rfl⟩, rfl⟩ | ⟨hW, h, rfl, rfl⟩ | ⟨hW, rfl, rfl⟩
  · have := rdecode_any n r m W.toNat w hW.nat.1
    rw [hW.nat.2] at this
    refine this.mono ?_
    rintro e' w' ⟨⟨s', h1, h2, h3, rfl⟩ | ⟨h1, _⟩, hb⟩
    · have := fit_one a h1 c h3
      subst this
      exact ⟨rfl, hb⟩
    · exact absurd c (h1 s a b)
  · have := rdecode_any n r m W.toNat w hW.nat.1
    rw [hW.nat.2] at this
    refine this.mono ?_
    rintro e' w' ⟨⟨s', h1, h2, h3, rfl⟩ | ⟨h1, rfl⟩, hb⟩
    · exact absurd h3 (h s' h1 h2)
    · exact ⟨rfl, hb⟩
  · exact rdecode_bad n r m W w (fun g => hW (.inl g)) (fun g => hW (.inr g))
/-- the value v and the error e of the field f at width W -/
def ValOut (f W v e : Int) : Prop := DecOut (pN f) (pR f) (pM f) W v e
theorem value_out {f W v e : Int} (h : ValOut f W v e) (w : World) :
    Calls Tryd.prog 10 #[.int .i64 f, .int .i64 W] w fun e' w' => e' = .returned (.tuple #[.int .u64 v, .int .i64 e]) ∧ Below w.heap.size w w' :=
  value_any (fun w => (decode_out h w).mono (by rintro e' w' ⟨rfl, hb⟩; exact ⟨⟨_, _, rfl, rfl⟩, hb⟩))
theorem fit_range {f : Int} {s : Nat} (h : Fit (pN f) (pR f) (pM f) s) (hs : IsSize s) : 0 ≤ f ∧ f < 8192 := by
  have := size_mark hs
  have h1 := h.1
  unfold pN at h1
  omega
set_option maxHeartbeats 2000000 in
theorem rvalue_out {f W v e : Int} (h : ValOut f W v e) (w : World) :
    Calls Tryd.prog 11 #[.int .i64 f, .int .i64 W] w fun e' w' => e' = .returned (.tuple #[.int .u64 v, .int .i64 e]) ∧ w = w' := by
  by_cases hW : WI W
  · have BN := bad_no W.toNat w hW.nat.1
    rw [hW.nat.2] at BN
    by_cases hf : 0 ≤ f ∧ f < 8192
    · obtain ⟨f1, f2⟩ := hf
      have rd := rdecode_out h w
      unfold pN pR pM at rd
      have t1 : Int.tmod (f / 64) 64 = f / 64 % 64 := Int.tmod_eq_emod_of_nonneg (by omega)
      have t2 : Int.tmod f 64 = f % 64 := Int.tmod_eq_emod_of_nonneg f1
      have RD := Lib.hid rd
      clear rd h hW
      go_enter Tryd.func11, Tryd.ntmps11
      go_wp2_with (first | (go_at_call 24; refine BN.mono ?_; rintro e w1 ⟨rfl, rfl⟩) | (go_at_call 9; refine RD.out.mono ?_; rintro e w1 ⟨rfl, rfl⟩))
      go_ret2
      exact ⟨rfl, rfl⟩
    · have hv : v = 0 ∧ e = 20 := by
        rcases h with ⟨_, ⟨s, a, b, c, _⟩, _⟩ | ⟨_, _, h1, h2⟩ | ⟨hn, _⟩
        · exact absurd (fit_range c a) hf
        · exact ⟨h1, h2⟩
        · exact absurd hW hn
      obtain ⟨rfl, rfl⟩ := hv
      have HF := Lib.hid hf
      clear h hW hf
      go_enter Tryd.func11, Tryd.ntmps11
      go_wp2_with (first | (go_at_call 24; refine BN.mono ?_; rintro e w1 ⟨rfl, rfl⟩) | (exfalso; have := HF.out; omega))
      all_goals go_ret2
      all_goals exact ⟨rfl, rfl⟩
  · have hv : v = 0 ∧ e = 1 := by
      rcases h with ⟨hn, _⟩ | ⟨hn, _⟩ | ⟨_, h1, h2⟩
      · exact absurd hn hW
      · exact absurd hn hW
      · exact ⟨h1, h2⟩
    obtain ⟨rfl, rfl⟩ := hv
    have BY := bad_yes W w (fun g => hW (.inl g)) (fun g => hW (.inr g))
    clear h hW
    go_enter Tryd.func11, Tryd.ntmps11
    go_wp2_with (go_at_call 24; refine BY.mono ?_; rintro e w1 ⟨rfl, rfl⟩)
    go_ret2
    exact ⟨rfl, rfl⟩
end Go.Proofs.YtmkeopglgfddjaaDoor
