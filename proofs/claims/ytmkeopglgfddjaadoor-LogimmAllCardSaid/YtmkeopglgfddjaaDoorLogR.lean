/-
  What Pattern, Encode and Field of the document return. No conditions beyond those that each lemma states.
-/
import Derived.Test.YtmkeopglgfddjaaDoorLogF
namespace Go.Proofs.YtmkeopglgfddjaaDoor
open Go.RowKit Go.Shelf BM

theorem pop_next (k v : Nat) : pop (k + 1) v = pop k v + v / 2 ^ k % 2 := by
  rw [pop_add]; simp [pop]
/-- some pattern of s places is v -/
def HasP (v W s : Nat) : Prop := ∃ n t, FoundP v W s n t
theorem hasP_pop {v W s n t : Nat} (h : FoundP v W s n t) : n = pop s v := by
  obtain ⟨⟨h1, h2, h3, h4, h5⟩, rfl⟩ := h
  rw [pop_val (by have := size_bd h1; omega) (Nat.le_of_lt h4) h5 h2]
set_option maxRecDepth 100000 in
set_option maxHeartbeats 4000000 in
theorem rpattern_any (v W : Nat) (w : World) (hW : IsW W) (hv : v < 18446744073709551616) :
    Calls Tryd.prog 18 #[.int .u64 (v : Int), .int .i64 (W : Int)] w fun e w' =>
      ((∃ s n t : Nat, FoundP v W s n t ∧ e = .returned (.tuple #[.int .i64 (s : Int), .int .i64 (n : Int), .int .i64 (t : Int), .int .i64 0])) ∨
        ((∀ s n t, ¬ FoundP v W s n t) ∧ e = .returned (.tuple #[.int .i64 0, .int .i64 0, .int .i64 0, .int .i64 20]))) ∧ w = w' := by
  have hwb := w_bd hW
  have HV := Lib.hid hv
  clear hv
  go_enter Tryd.func18, Tryd.ntmps18
  go_wp2_with (go_at_call 24; refine (bad_no W _ hW).mono ?_; rintro e w1 ⟨rfl, rfl⟩)
  go_loop [8, 9, 10, 11] (fun z _ _ _ => ∃ s : Nat, z = .int .i64 (s : Int) ∧ (IsSize s ∨ W < s) ∧ s ≤ 128 ∧ Hid (Tried (HasP v W) W s)) (fun z _ _ _ => 200 - (intOf z).toNat)
  case atStart => exact ⟨2, rfl, .inl (.inl rfl), by decide, Lib.hid (tried_start _ _)⟩
  case round =>
    obtain ⟨s, rfl, hs, hs2, ht⟩ := hrel
    by_cases hlt : (s : Int) ≤ (W : Int)
    · have hs' : IsSize s := by rcases hs with h | h; · exact h
                                · omega
      have hsb := size_bd hs'
      have w0 : IntKind.i64.wrap ((s : Int) * 2) = ((s * 2 : Nat) : Int) := by rw [IntWalk.i64_in _ (by omega)]; omega
      have SD := Lib.hid (size_double hs' hW (by omega))
      have HS := Lib.hid hs'
      have HR := Lib.hid hs
      clear hs hs'
      go_wp2
      go_loop [9, 10] (fun o i => ∃ k : Nat, k ≤ s ∧ i = .int .i64 (k : Int) ∧ o = .int .i64 ((pop k v : Nat) : Int)) (fun _ i => (s - intOf i).toNat)
      case atStart => exact ⟨0, Nat.zero_le _, rfl, rfl⟩
      case round =>
        obtain ⟨k, hk, rfl, rfl⟩ := hrel
        by_cases hks : (k : Int) < (s : Int)
        · have pk := pop_le k v
          have PN := pop_next k v
          have t0 : (v : Int) / 2 ^ k = ((v / 2 ^ k : Nat) : Int) := by simp
          have t1 : Int.tmod ((v : Int) / 2 ^ k) 2 = ((v / 2 ^ k % 2 : Nat) : Int) := by rw [t0]; exact tmod_cast _ 2
          have hm := Nat.mod_lt (v / 2 ^ k) (show 0 < 2 by decide)
          obtain ⟨b, hb⟩ : ∃ b, v / 2 ^ k % 2 = b := ⟨_, rfl⟩
          rw [hb] at t1 PN hm
          have t2 : IntKind.i64.wrap ((b : Nat) : Int) = (b : Int) := IntWalk.i64_in _ (by omega)
          have t3 : IntKind.i64.wrap ((pop k v : Nat) + (b : Int)) = ((pop (k + 1) v : Nat) : Int) := by rw [IntWalk.i64_in _ (by omega), PN]; omega
          have P2 := Lib.hid (show ((pop k v : Nat) : Int) + (b : Int) = ((pop (k + 1) v : Nat) : Int) by rw [PN]; omega)
          have w9 : IntKind.i64.wrap ((k : Int) + 1) = ((k + 1 : Nat) : Int) := by rw [IntWalk.i64_in _ (by omega)]; omega
          clear t0 PN hb
          go_wp2
          exact ⟨⟨k + 1, by omega, by first | rfl | rw [← w9], rfl⟩, by simp [intOf]; omega⟩
        · have ks : k = s := by omega
          subst ks
          obtain ⟨o, ho⟩ : ∃ o, pop k v = o := ⟨_, rfl⟩
          rw [ho]
          have HO := Lib.hid ho
          have hok := pop_le k v
          rw [ho] at hok
          clear ho hks hk
          by_cases hin : 1 ≤ o ∧ o < k
          · obtain ⟨i1, i2⟩ := hin
            have i1' : ((o : Int) < 1) = False := by simp; omega
            have i2' : ((k : Int) ≤ (o : Int)) = False := by simp; omega
            go_wp2
            go_loop [11] (fun i => ∃ t : Nat, t ≤ k ∧ i = .int .i64 (t : Int) ∧ Hid (∀ z, z < t → valN k o z W ≠ v)) (fun i => (k - intOf i).toNat)
            case atStart => exact ⟨0, Nat.zero_le _, rfl, Lib.hid (fun z hz => by omega)⟩
            case round =>
              obtain ⟨t, htk, rfl, hall⟩ := hrel
              by_cases htl : (t : Int) < (k : Int)
              · have RV := rvalue_any k o t W w (by omega) (by omega) (by omega) (by omega)
                have w9 : IntKind.i64.wrap ((t : Int) + 1) = ((t + 1 : Nat) : Int) := by rw [IntWalk.i64_in _ (by omega)]; omega
                by_cases hval : valN k o t W = v
                · have FP := Lib.hid (show FoundP v W k o t from ⟨⟨HS.out, by omega, i1, i2, by omega⟩, hval⟩)
                  rw [hval] at RV
                  clear hval
                  go_wp2_with (go_at_call 26; refine RV.mono ?_; rintro e w1 ⟨rfl, rfl⟩)
                  exact ⟨rfl, .tuple #[.int .i64 (k : Int), .int .i64 (o : Int), .int .i64 (t : Int), .int .i64 0], by simp [results, Tryd.f18, go_sem], .inl ⟨k, o, t, FP.out, rfl⟩, rfl⟩
                · have hq : (((valN k o t W : Nat) : Int) == (v : Int)) = false := by simp; omega
                  have HA := Lib.hid (show ∀ z, z < t + 1 → valN k o z W ≠ v from fun z hz => by
                    by_cases g : z < t
                    · exact hall.out z g
                    · rw [show z = t by omega]; exact hval)
                  clear hval
                  go_wp2_with (go_at_call 26; refine RV.mono ?_; rintro e w1 ⟨rfl, rfl⟩)
                  exact ⟨⟨t + 1, by omega, by first | rfl | rw [← w9], HA⟩, by simp [intOf]; omega⟩
              · have TM := Lib.hid (tried_more HS.out ht.out (fun ⟨n', t', h⟩ => by
                  have e1 := hasP_pop h
                  rw [HO.out] at e1
                  subst e1
                  obtain ⟨hh, he⟩ := h
                  exact hall.out t' (by have := hh.2.2.2.2; omega) he))
                go_wp2
                exact ⟨⟨k * 2, by first | rfl | rw [← w0] | simp, SD.out, by omega, TM⟩, by simp [intOf]; omega⟩
          · have TM := Lib.hid (tried_more HS.out ht.out (fun ⟨n', t', h⟩ => hin (by
              have e1 := hasP_pop h
              rw [HO.out] at e1
              subst e1
              exact ⟨h.1.2.2.1, h.1.2.2.2.1⟩)))
            have hor : o = 0 ∨ o = k := by omega
            clear hin
            rcases hor with rfl | rfl
            all_goals go_wp2
            all_goals exact ⟨⟨_, by first | rfl | rw [← w0] | simp, SD.out, by omega, TM⟩, by simp [intOf]; omega⟩
    · have TR := Lib.hid ht.out
      go_wp2
      exact ⟨rfl, .tuple #[.int .i64 0, .int .i64 0, .int .i64 0, .int .i64 20], by simp [results, Tryd.f18, go_sem], .inr ⟨fun a b c h => TR.out a h.1.1 h.1.2.1 (by have := h.1.2.1; omega) ⟨b, c, h⟩, rfl⟩, rfl⟩

set_option maxHeartbeats 1000000 in
theorem rpattern_bad (v W : Int) (w : World) (h : W ≠ 32) (h' : W ≠ 64) :
    Calls Tryd.prog 18 #[.int .u64 v, .int .i64 W] w fun e w' => e = .returned (.tuple #[.int .i64 0, .int .i64 0, .int .i64 0, .int .i64 1]) ∧ w = w' := by
  go_enter Tryd.func18, Tryd.ntmps18
  go_wp2_with (go_at_call 24; refine (bad_yes W _ h h').mono ?_; rintro e w1 ⟨rfl, rfl⟩)
  exact ⟨rfl, .tuple #[.int .i64 0, .int .i64 0, .int .i64 0, .int .i64 1], by simp [results, Tryd.f18, go_sem], rfl, rfl⟩
theorem rpattern_out {v W s n t e : Int} (h : PatOut v W s n t e) (b1 : 0 ≤ v) (b2 : v < 18446744073709551616) (w : World) :
    Calls Tryd.prog 18 #[.int .u64 v, .int .i64 W] w fun e' w' => e' = .returned (.tuple #[.int .i64 s, .int .i64 n, .int .i64 t, .int .i64 e]) ∧ w = w' := by
  obtain ⟨V, rfl⟩ := Int.eq_ofNat_of_zero_le b1
  by_cases hW : WI W
  · have hn := hW.nat
    obtain ⟨X, hX⟩ : ∃ X, W.toNat = X := ⟨_, rfl⟩
    unfold PatOut at h
    rw [hX, Int.toNat_natCast] at h
    rw [hX] at hn
    have hW2 := hn.2
    have := rpattern_any V X w hn.1 (by omega)
    rw [hW2] at this
    refine this.mono ?_
    rintro e' w' ⟨⟨s', n', t', hf, rfl⟩ | ⟨hf, rfl⟩, hb⟩
    · rcases h with ⟨_, ⟨a, b, c, hf2, rfl, rfl, rfl⟩, rfl⟩ | ⟨_, hno, _⟩ | ⟨hno, _⟩
      · obtain ⟨rfl, rfl, rfl⟩ := found_one hn.1 hf hf2
        exact ⟨rfl, hb⟩
      · exact absurd hf (hno _ _ _)
      · exact absurd hW hno
    · rcases h with ⟨_, ⟨a, b, c, hf2, rfl, rfl, rfl⟩, rfl⟩ | ⟨_, hno, rfl, rfl, rfl, rfl⟩ | ⟨hno, _⟩
      · exact absurd hf2 (hf _ _ _)
      · exact ⟨rfl, hb⟩
      · exact absurd hW hno
  · rcases h with ⟨hno, _⟩ | ⟨hno, _⟩ | ⟨_, rfl, rfl, rfl, rfl⟩
    · exact absurd hno hW
    · exact absurd hno hW
    · exact rpattern_bad V W w (fun g => hW (.inl g)) (fun g => hW (.inr g))
set_option maxRecDepth 100000 in
set_option maxHeartbeats 1000000 in
theorem rencode_out {v W s n t e : Int} (h : PatOut v W s n t e) (b1 : 0 ≤ v) (b2 : v < 18446744073709551616) (w : World) :
    Calls Tryd.prog 14 #[.int .u64 v, .int .i64 W] w fun e' w' => e' = .returned (.tuple #[.int .i64 (encA s e), .int .i64 t, .int .i64 (encC s n e), .int .i64 e]) ∧ w = w' := by
  have OV := Lib.hid (rpattern_out h b1 b2 w)
  by_cases he : e = 0
  · subst he
    have hr : ∃ a b c : Nat, s = (a : Int) ∧ n = (b : Int) ∧ t = (c : Int) ∧ IsSize a ∧ 1 ≤ b ∧ b < a := by
      rcases h with ⟨_, ⟨a, b, c, hf, rfl, rfl, rfl⟩, _⟩ | ⟨_, _, _, _, _, h0⟩ | ⟨_, _, _, _, h0⟩
      · exact ⟨a, b, c, rfl, rfl, rfl, (found_range hf).1, (found_range hf).2.1, (found_range hf).2.2.1⟩
      · exact absurd h0 (by decide)
      · exact absurd h0 (by decide)
    obtain ⟨a, b, c, rfl, rfl, rfl, ha, hb1, hb2⟩ := hr
    have hsz := size_bd ha
    have htop : topN a ≤ 60 := by unfold topN; omega
    have ea : encA (a : Int) 0 = (bitN a : Int) := by unfold encA; rw [if_pos rfl, Int.toNat_natCast]
    have ec : encC (a : Int) (b : Int) 0 = (topN a : Int) + (b : Int) - 1 := by unfold encC; rw [if_pos rfl, Int.toNat_natCast]
    have w1 : IntKind.i64.wrap ((topN a : Int) + (b : Int)) = (topN a : Int) + (b : Int) := IntWalk.i64_in _ (by omega)
    have w2 : IntKind.i64.wrap ((topN a : Int) + (b : Int) - 1) = (topN a : Int) + (b : Int) - 1 := IntWalk.i64_in _ (by omega)
    have MK := fun w => rtop_any a w ha
    rw [ea, ec]
    clear h b1 b2 ea ec
    by_cases h64 : a = 64
    · have eb : (bitN a : Int) = 1 := by rw [h64]; rfl
      have q : ((a : Int) == 64) = true := by rw [h64]; rfl
      rw [eb]
      clear h64 eb
      go_enter Tryd.func14, Tryd.ntmps14
      go_wp2_with (first | (go_at_call 18; refine OV.out.mono ?_; rintro e1 w1 ⟨rfl, rfl⟩) | (go_at_call 25; refine (MK _).mono ?_; rintro e1 w1 ⟨rfl, rfl⟩))
      exact ⟨rfl, .tuple #[.int .i64 1, .int .i64 (c : Int), .int .i64 ((topN a : Int) + (b : Int) - 1), .int .i64 0], by simp [results, Tryd.f14, go_sem], rfl, rfl⟩
    · have eb : (bitN a : Int) = 0 := by unfold bitN; rw [if_neg h64]; rfl
      have q : ((a : Int) == 64) = false := by simp; omega
      rw [eb]
      clear h64 eb
      go_enter Tryd.func14, Tryd.ntmps14
      go_wp2_with (first | (go_at_call 18; refine OV.out.mono ?_; rintro e1 w1 ⟨rfl, rfl⟩) | (go_at_call 25; refine (MK _).mono ?_; rintro e1 w1 ⟨rfl, rfl⟩))
      exact ⟨rfl, .tuple #[.int .i64 0, .int .i64 (c : Int), .int .i64 ((topN a : Int) + (b : Int) - 1), .int .i64 0], by simp [results, Tryd.f14, go_sem], rfl, rfl⟩
  · have he' : (e != 0) = true := by simp [he]
    have ht : t = 0 := by
      rcases h with ⟨_, _, h0⟩ | ⟨_, _, _, _, h0, _⟩ | ⟨_, _, _, h0, _⟩
      · exact absurd h0 he
      · exact h0
      · exact h0
    have ea : encA s e = 0 := by unfold encA; rw [if_neg he]
    have ec : encC s n e = 0 := by unfold encC; rw [if_neg he]
    rw [ea, ec]
    subst ht
    clear h b1 b2 ea ec he
    go_enter Tryd.func14, Tryd.ntmps14
    go_wp2_with (go_at_call 18; refine OV.out.mono ?_; rintro e1 w1 ⟨rfl, rfl⟩)
    exact ⟨rfl, .tuple #[.int .i64 0, .int .i64 0, .int .i64 0, .int .i64 e], by simp [results, Tryd.f14, go_sem], rfl, rfl⟩
set_option maxRecDepth 100000 in
set_option maxHeartbeats 1000000 in
theorem rfield_out {v W s n t e : Int} (h : PatOut v W s n t e) (b1 : 0 ≤ v) (b2 : v < 18446744073709551616) (w : World) :
    Calls Tryd.prog 16 #[.int .u64 v, .int .i64 W] w fun e' w' => e' = .returned (.tuple #[.int .i64 (encF s n t e), .int .i64 e]) ∧ w = w' := by
  have EO := rencode_out h b1 b2 w
  obtain ⟨a, b, c, e1, e2, e3, ha, hb, hc⟩ := enc_range h
  have O3 := or3 ha hb hc
  have ef : encF s n t e = (a : Int) * 4096 + (b : Int) * 64 + (c : Int) := by unfold encF; rw [e1, e2, e3]
  by_cases he : e = 0
  · subst he
    rw [e1, e2, e3] at EO
    rw [ef, ← O3]
    have EO2 := Lib.hid EO
    clear h b1 b2 EO e1 e2 e3 O3 ef
    go_enter Tryd.func16, Tryd.ntmps16
    go_wp2_with (go_at_call 14; refine EO2.out.mono ?_; rintro e1 w1 ⟨rfl, rfl⟩)
    go_ret2
    exact ⟨rfl, rfl⟩
  · have he' : (e != 0) = true := by simp [he]
    have ht : t = 0 := by
      rcases h with ⟨_, _, h0⟩ | ⟨_, _, _, _, h0, _⟩ | ⟨_, _, _, h0, _⟩
      · exact absurd h0 he
      · exact h0
      · exact h0
    have ea : encA s e = 0 := by unfold encA; rw [if_neg he]
    have ec : encC s n e = 0 := by unfold encC; rw [if_neg he]
    have ef0 : encF s n t e = 0 := by unfold encF; rw [ea, ec, ht]; rfl
    rw [ef0]
    have EO2 := Lib.hid EO
    clear h b1 b2 EO e1 e2 e3 O3 ef ea ec ef0 he
    go_enter Tryd.func16, Tryd.ntmps16
    go_wp2_with (go_at_call 14; refine EO2.out.mono ?_; rintro e1 w1 ⟨rfl, rfl⟩)
    go_ret2
    exact ⟨rfl, rfl⟩
end Go.Proofs.YtmkeopglgfddjaaDoor
