/-
  The value of a pattern, as the program and as the document compute it. No conditions beyond those that each lemma states.
-/
import Derived.Test.YtmkeopglgfddjaaDoorLogA
namespace Go.Proofs.YtmkeopglgfddjaaDoor
open Go.RowKit BM

/-- one element more -/
theorem val_next {s n t k : Nat} (hs : 1 ≤ s) (hn : n ≤ s) (ht : t < s) (h : s * (k + 1) ≤ 64) :
    valN s n t (s * k) ||| (turnN (2 ^ n - 1) s t * 2 ^ (s * k) % 2 ^ 64) = valN s n t (s * (k + 1)) := by
  have hn2 : 2 ^ n ≤ 2 ^ s := Nat.pow_le_pow_right (by decide) hn
  have hp := Nat.two_pow_pos n
  have hv : 2 ^ n - 1 < 2 ^ s := by omega
  have hmul : s * (k + 1) = s * k + s := Nat.mul_succ s k
  apply Nat.eq_of_testBit_eq; intro i
  rw [Nat.testBit_or, valN_bit, valN_bit, Nat.testBit_mod_two_pow, Nat.mul_comm (turnN _ _ _), Nat.testBit_two_pow_mul]
  by_cases g : i < s * k
  · simp [g, show i < s * (k + 1) by omega, show ¬ s * k ≤ i by omega]
  · by_cases g2 : i < s * (k + 1)
    · have g3 : i - s * k < s := by omega
      have e : i % s = i - s * k := by
        rw [show i = i - s * k + s * k by omega, Nat.add_mul_mod_self_left, Nat.mod_eq_of_lt g3]; omega
      rw [turnN_bit hv ht g3, ones_bit]
      unfold bitP
      rw [e]; simp [g, g2, show i < 64 by omega, show s * k ≤ i by omega]
    · have : (turnN (2 ^ n - 1) s t).testBit (i - s * k) = false :=
        Nat.testBit_lt_two_pow (Nat.lt_of_lt_of_le (turnN_lt hv (Nat.le_of_lt ht)) (Nat.pow_le_pow_right (by decide) (by omega)))
      simp [g, g2, this]
theorem turn64 {s n t : Nat} (hn : n ≤ s) (ht : t < s) (h : s ≤ 64) : turnN (2 ^ n - 1) s t < 18446744073709551616 := by
  have hn2 : 2 ^ n ≤ 2 ^ s := Nat.pow_le_pow_right (by decide) hn
  have hp := Nat.two_pow_pos n
  exact Nat.lt_of_lt_of_le (turnN_lt (show 2 ^ n - 1 < 2 ^ s by omega) (Nat.le_of_lt ht)) (pow64 h)
theorem valN_64 {s n t W : Nat} (h : W ≤ 64) : valN s n t W < 18446744073709551616 := Nat.lt_of_lt_of_le (valN_lt s n t W) (pow64 h)
theorem val_step {s n t k : Nat} (hs : 1 ≤ s) (hn : n ≤ s) (ht : t < s) (h : s * (k + 1) ≤ 64) :
    bits .or .u64 ((valN s n t (s * k) : Nat) : Int) (IntKind.u64.wrap (((turnN (2 ^ n - 1) s t : Nat) : Int) * 2 ^ (s * k))) = ((valN s n t (s * (k + 1)) : Nat) : Int) := by
  have hmul : s * (k + 1) = s * k + s := Nat.mul_succ s k
  have h1 := valN_64 (s := s) (n := n) (t := t) (W := s * k) (by omega)
  have e : 2 ^ 64 = 18446744073709551616 := by decide
  have cw : IntKind.u64.wrap (((turnN (2 ^ n - 1) s t : Nat) : Int) * 2 ^ (s * k)) = ((turnN (2 ^ n - 1) s t * 2 ^ (s * k) % 18446744073709551616 : Nat) : Int) := by
    rw [wrap_u64]; simp
  have hy : turnN (2 ^ n - 1) s t * 2 ^ (s * k) % 18446744073709551616 < 18446744073709551616 := Nat.mod_lt _ (by decide)
  have hv := val_next hs hn ht h
  rw [e] at hv
  rw [cw, u64_or _ _ (Int.natCast_nonneg _) (by exact Int.ofNat_lt.2 h1) (Int.natCast_nonneg _) (by exact Int.ofNat_lt.2 hy), Int.toNat_natCast, Int.toNat_natCast, hv]
theorem elem_val {s n t : Nat} (hn : n < s) (ht : t < s) (h64 : s ≤ 64) :
    bits .and .u64 (bits .or .u64 (onesI (n : Int) / 2 ^ t) (IntKind.u64.wrap (onesI (n : Int) * 2 ^ (s - t)))) (onesI (s : Int)) = ((turnN (2 ^ n - 1) s t : Nat) : Int) := by
  have ho := onesI_bd64 (n := (n : Int)) (by omega)
  have hlt : onesI (n : Int) < powI (s : Int) := by
    have : powI (n : Int) ≤ powI (s : Int) := powI_le (by omega)
    have e : onesI (n : Int) + 1 = powI (n : Int) := by unfold onesI powI; have := Nat.two_pow_pos (n : Int).toNat; omega
    omega
  have tv := turn_val (r := (t : Int)) ho.1 hlt (by omega) (by omega) (by omega)
  rw [Int.toNat_natCast, show ((s : Int) - (t : Int)).toNat = s - t by omega] at tv
  rw [tv]
  unfold turnI onesI
  simp only [Int.toNat_natCast]

set_option maxRecDepth 100000 in
set_option maxHeartbeats 1000000 in
theorem value_yes (s n t W : Nat) (w : World) (hW : IsW W) (hv : Valid s n t W) :
    Calls Tryd.prog 23 #[.agg #[.int .i64 (s : Int), .int .i64 (n : Int), .int .i64 (t : Int)], .int .i64 (W : Int)] w
      fun e w' => e = .returned (.int .u64 ((valN s n t W : Nat) : Int)) ∧ Below w.heap.size w w' := by
  obtain ⟨hs, hl, h1, hn, ht⟩ := hv
  obtain ⟨m, hm, hm1⟩ := size_w hs hW hl
  have hb := size_bd hs
  have hwb := w_bd hW
  have s1 : IntKind.i64.wrap ((s : Int) - (t : Int)) = (s : Int) - (t : Int) := IntWalk.i64_in _ (by omega)
  have s2 : 0 ≤ (s : Int) - (t : Int) := by omega
  have EV := Lib.hid (elem_val hn ht hb.2)
  have HM := Lib.hid hm
  clear hm
  go_enter Tryd.func23, Tryd.ntmps23
  go_wp2_with (go_at_call 32; refine (low_any _ _ (by omega) (by omega)).mono ?_; rintro e w1 ⟨rfl, rfl⟩)
  go_quiet ((go_at_call 32; exact quiet_eq (low_any _ _ (by omega) (by omega))))
  go_wp2
  rw [EV.out]
  go_loop [7, 8] (fun v i => ∃ k a : Nat, k ≤ m ∧ a = s * k ∧ i = .int .i64 (a : Int) ∧ v = .int .u64 ((valN s n t a : Nat) : Int)) (fun _ i => (W - intOf i).toNat)
  case atStart => exact ⟨0, 0, Nat.zero_le _, rfl, rfl, rfl⟩
  case round =>
    obtain ⟨k, a, hk, ha, rfl, rfl⟩ := hrel
    by_cases hlt : (a : Int) < W
    · have hm := HM.out
      have hk2 : k + 1 ≤ m := by
        rcases Nat.lt_or_ge k m with g | g
        · exact g
        · have := Nat.mul_le_mul_left s g; omega
      have hks := Nat.mul_le_mul_left s hk2
      have hmul : s * (k + 1) = s * k + s := Nat.mul_succ s k
      have VS := Lib.hid (val_step (s := s) (n := n) (t := t) (k := k) (by omega) (Nat.le_of_lt hn) ht (by omega))
      have s3 : IntKind.i64.wrap ((a : Int) + (s : Int)) = ((a + s : Nat) : Int) := by rw [IntWalk.i64_in _ (by omega)]; omega
      have A1 := Lib.hid (show a + s = s * (k + 1) by omega)
      have H2 : (a : Int) ≤ 64 := by omega
      have HA := Lib.hid ha
      clear hmul hks hm ha
      go_wp2
      go_round
      case rel => exact ⟨k + 1, a + s, hk2, A1.out, by first | rfl | rw [← s3], by rw [HA.out, VS.out, ← A1.out, HA.out]⟩
      case measure => simp [intOf]; omega
    · have A1 := Lib.hid (show a = W by have := Nat.mul_le_mul_left s hk; have := HM.out; omega)
      clear ha
      go_wp2
      go_ret
      exact ⟨ret1 (by rw [A1.out]), below_drewN ((Below.refl _ _).alloc (Nat.le_refl _) _) _⟩

theorem tmod_cast (a b : Nat) : Int.tmod (a : Int) (b : Int) = ((a % b : Nat) : Int) := by
  rw [Int.tmod_eq_emod_of_nonneg (Int.natCast_nonneg a)]; rfl
theorem one_shl {k : Nat} (h : k < 64) : IntKind.u64.wrap (2 ^ k) = ((2 ^ k : Nat) : Int) := by
  have hp : 2 ^ k < 2 ^ 64 := Nat.pow_lt_pow_right (by decide) h
  have e : 2 ^ 64 = 18446744073709551616 := by decide
  rw [e] at hp
  have c : (2 : Int) ^ k = ((2 ^ k : Nat) : Int) := by simp
  rw [wrap_u64, c]
  generalize 2 ^ k = X at *
  omega
theorem rval_step {s n t k : Nat} (h : k < 64) (hb : bitP s n t k = true) :
    bits .or .u64 ((valN s n t k : Nat) : Int) (IntKind.u64.wrap (2 ^ k)) = ((valN s n t (k + 1) : Nat) : Int) := by
  have h1 := valN_64 (s := s) (n := n) (t := t) (W := k) (by omega)
  have hp : 2 ^ k < 2 ^ 64 := Nat.pow_lt_pow_right (by decide) h
  have e : 2 ^ 64 = 18446744073709551616 := by decide
  rw [e] at hp
  rw [one_shl h, u64_or _ _ (Int.natCast_nonneg _) (by exact Int.ofNat_lt.2 h1) (Int.natCast_nonneg _) (by exact Int.ofNat_lt.2 hp), Int.toNat_natCast, Int.toNat_natCast, valN_or, if_pos hb]

set_option maxRecDepth 100000 in
set_option maxHeartbeats 1000000 in
theorem rvalue_any (s n t W : Nat) (w : World) (hs1 : 1 ≤ s) (hs : s ≤ 64) (ht : t < s) (hW : W ≤ 64) :
    Calls Tryd.prog 26 #[.int .i64 (s : Int), .int .i64 (n : Int), .int .i64 (t : Int), .int .i64 (W : Int)] w
      fun e w' => e = .returned (.int .u64 ((valN s n t W : Nat) : Int)) ∧ w = w' := by
  go_enter Tryd.func26, Tryd.ntmps26
  go_wp2
  go_loop [9, 10] (fun v i => ∃ k : Nat, k ≤ W ∧ i = .int .i64 (k : Int) ∧ v = .int .u64 ((valN s n t k : Nat) : Int)) (fun _ i => (W - intOf i).toNat)
  case atStart => exact ⟨0, Nat.zero_le _, rfl, rfl⟩
  case round =>
    obtain ⟨k, hk, rfl, rfl⟩ := hrel
    by_cases hlt : (k : Int) < W
    · have m1 := Nat.mod_lt k (show 0 < s by omega)
      have m2 := Nat.mod_lt (k % s + t) (show 0 < s by omega)
      have T1 := tmod_cast k s
      have T2 : IntKind.i64.wrap (((k % s : Nat) : Int) + (t : Int)) = ((k % s + t : Nat) : Int) := by rw [IntWalk.i64_in _ (by omega)]; omega
      have T3 := tmod_cast (k % s + t) s
      have s3 : IntKind.i64.wrap ((k : Int) + 1) = ((k + 1 : Nat) : Int) := by rw [IntWalk.i64_in _ (by omega)]; omega
      have hs0 : ((s : Int) == 0) = false := by simp; omega
      have hx : ((k : Int) + (t : Int)) % (s : Int) = (((k % s + t) % s : Nat) : Int) := by rw [Nat.mod_add_mod]; rfl
      by_cases hb : bitP s n t k = true
      · have VS := Lib.hid (rval_step (by omega) hb)
        have hb' : (((k : Int) + (t : Int)) % (s : Int) < (n : Int)) := by rw [hx]; exact Int.ofNat_lt.2 (of_decide_eq_true hb)
        clear hx m2 T3
        go_wp2
        go_round
        case rel => exact ⟨k + 1, by omega, by first | rfl | rw [← s3], by rw [VS.out]⟩
        case measure => simp [intOf]; omega
      · have VS := Lib.hid (show valN s n t k = valN s n t (k + 1) by rw [valN, if_neg hb]; rfl)
        have hb' : ¬ (((k : Int) + (t : Int)) % (s : Int) < (n : Int)) := by rw [hx]; exact fun g => hb (decide_eq_true (Int.ofNat_lt.1 g))
        clear hx m2 T3
        go_wp2
        go_round
        case rel => exact ⟨k + 1, by omega, by first | rfl | rw [← s3], by rw [VS.out]⟩
        case measure => simp [intOf]; omega
    · have A1 := Lib.hid (show k = W by omega)
      go_wp2
      go_ret
      exact ⟨ret1 (by rw [A1.out]), rfl⟩
end Go.Proofs.YtmkeopglgfddjaaDoor
