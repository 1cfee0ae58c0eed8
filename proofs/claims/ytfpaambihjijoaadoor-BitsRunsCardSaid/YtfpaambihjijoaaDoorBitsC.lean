/-
  What each call of Ones, Sign and Turn of the program returns, for every input; nothing in memory changes.
-/
import Derived.Test.YtfpaambihjijoaaDoorBitsA
namespace Go.Proofs.YtfpaambihjijoaaDoor
open Go.RowKit BM

theorem onesI_bd64 {n : Int} (h : n ≤ 64) : 0 ≤ onesI n ∧ onesI n < 18446744073709551616 := by
  unfold onesI
  have h1 : 2 ^ n.toNat ≤ 2 ^ 64 := Nat.pow_le_pow_right (by decide) (by omega)
  have e : 2 ^ 64 = 18446744073709551616 := by decide
  rw [e] at h1
  have := Nat.two_pow_pos n.toNat
  omega
theorem ones_code64 {n : Int} (h : n ≤ 64) : IntKind.u64.wrap (IntKind.u64.wrap (2 ^ n.toNat) - 1) = onesI n := by
  have h1 : 2 ^ n.toNat ≤ 2 ^ 64 := Nat.pow_le_pow_right (by decide) (by omega)
  have e : 2 ^ 64 = 18446744073709551616 := by decide
  rw [e] at h1
  have hq := Nat.two_pow_pos n.toNat
  have c : (2 : Int) ^ n.toNat = ((2 ^ n.toNat : Nat) : Int) := by simp
  unfold onesI
  rw [wrap_u64, wrap_u64, c]
  generalize 2 ^ n.toNat = X at *
  omega
theorem ones_past {n : Int} (h : 64 < n) : IntKind.u64.wrap (IntKind.u64.wrap (2 ^ min n.toNat 64) - 1) = onesI 64 := by
  rw [show min n.toNat 64 = (64 : Int).toNat by omega]
  exact ones_code64 (Int.le_refl _)

theorem over64_iff {v n : Int} (b1 : 0 ≤ v) (b2 : v < 18446744073709551616) (h4 : n ≤ 64) : bits .andNot .u64 v (onesI n) = 0 ↔ v < powI n := by
  obtain ⟨V, rfl⟩ := Int.eq_ofNat_of_zero_le b1
  have ho := onesI_bd64 h4
  rw [u64_andNot _ _ b1 b2 ho.1 ho.2]
  have h := over_code 64 V n.toNat (by have e : 2 ^ 64 = 18446744073709551616 := by decide
                                       rw [e]; omega) (by omega)
  have e2 : 2 ^ 64 - 1 = 18446744073709551615 := by decide
  rw [e2] at h
  unfold onesI powI
  rw [Int.toNat_natCast, Int.toNat_natCast]
  constructor
  · intro g; exact Int.ofNat_lt.2 (h.1 (by omega))
  · intro g; rw [h.2 (Int.ofNat_lt.1 g)]; rfl
theorem over64_no {v n : Int} (b1 : 0 ≤ v) (b2 : v < 18446744073709551616) (h4 : n ≤ 64) (hv : v < powI n) : (bits .andNot .u64 v (onesI n) != 0) = false := by
  rw [(over64_iff b1 b2 h4).2 hv]; rfl
theorem over64_yes {v n : Int} (b1 : 0 ≤ v) (b2 : v < 18446744073709551616) (h4 : n ≤ 64) (hv : ¬ v < powI n) : (bits .andNot .u64 v (onesI n) != 0) = true := by
  rw [bne_iff_ne]; exact fun g => hv ((over64_iff b1 b2 h4).1 g)

/-- a number turned to the right by r places -/
def turnI (v n r : Int) : Int := ((turnN v.toNat n.toNat r.toNat : Nat) : Int)
theorem lt_pow {v n : Int} (b1 : 0 ≤ v) (hv : v < powI n) : v.toNat < 2 ^ n.toNat := by
  have : ((2 ^ n.toNat : Nat) : Int) = powI n := rfl
  omega
theorem pow64 {n : Nat} (h : n ≤ 64) : 2 ^ n ≤ 18446744073709551616 := by
  have h1 : 2 ^ n ≤ 2 ^ 64 := Nat.pow_le_pow_right (by decide) h
  have e : 2 ^ 64 = 18446744073709551616 := by decide
  rw [e] at h1; exact h1
theorem turnI_bd {v n r : Int} (b1 : 0 ≤ v) (hv : v < powI n) (h2 : n ≤ 64) (r1 : r ≤ n) : 0 ≤ turnI v n r ∧ turnI v n r < powI n ∧ turnI v n r < 18446744073709551616 := by
  have h := turnN_lt (lt_pow b1 hv) (show r.toNat ≤ n.toNat by omega)
  have h3 := pow64 (n := n.toNat) (by omega)
  unfold turnI powI
  omega
theorem turn_val {v n r : Int} (b1 : 0 ≤ v) (hv : v < powI n) (h2 : n ≤ 64) (r0 : 0 ≤ r) (r1 : r < n) :
    bits .and .u64 (bits .or .u64 (v / 2 ^ r.toNat) (IntKind.u64.wrap (v * 2 ^ (n - r).toNat))) (onesI n) = turnI v n r := by
  have hv' := lt_pow b1 hv
  obtain ⟨V, rfl⟩ := Int.eq_ofNat_of_zero_le b1
  rw [Int.toNat_natCast] at hv'
  have hp := pow64 (n := n.toNat) (by omega)
  have ho := onesI_bd64 h2
  have c1 : ((V : Int) / 2 ^ r.toNat) = ((V / 2 ^ r.toNat : Nat) : Int) := by simp
  have c2 : (V : Int) * 2 ^ (n - r).toNat = ((V * 2 ^ (n - r).toNat : Nat) : Int) := by simp
  have hx : V / 2 ^ r.toNat < 18446744073709551616 := Nat.lt_of_le_of_lt (Nat.div_le_self _ _) (by omega)
  have hy : V * 2 ^ (n - r).toNat % 18446744073709551616 < 18446744073709551616 := Nat.mod_lt _ (by decide)
  have cw : IntKind.u64.wrap ((V * 2 ^ (n - r).toNat : Nat) : Int) = ((V * 2 ^ (n - r).toNat % 18446744073709551616 : Nat) : Int) := by rw [wrap_u64]; omega
  rw [c1, c2, cw, u64_or _ _ (Int.natCast_nonneg _) (by exact Int.ofNat_lt.2 hx) (Int.natCast_nonneg _) (by exact Int.ofNat_lt.2 hy), Int.toNat_natCast, Int.toNat_natCast]
  have e : 2 ^ 64 = 18446744073709551616 := by decide
  have hz : V / 2 ^ r.toNat ||| V * 2 ^ (n - r).toNat % 18446744073709551616 < 18446744073709551616 := by
    have := Nat.or_lt_two_pow (x := V / 2 ^ r.toNat) (y := V * 2 ^ (n - r).toNat % 18446744073709551616) (n := 64) (by rw [e]; exact hx) (by rw [e]; exact hy)
    rw [e] at this; exact this
  rw [u64_and _ _ (Int.natCast_nonneg _) (by exact Int.ofNat_lt.2 hz) ho.1 ho.2, Int.toNat_natCast]
  have hc := turn_code hv' (show n.toNat ≤ 64 by omega) (show r.toNat < n.toNat by omega)
  rw [e, show n.toNat - r.toNat = (n - r).toNat by omega] at hc
  unfold onesI turnI
  rw [Int.toNat_natCast, Int.toNat_natCast, hc]
theorem sign_val {v n : Int} (b1 : 0 ≤ v) (h1 : 1 ≤ n) (h2 : n ≤ 64) : wrap64 (IntKind.u64.wrap (v * 2 ^ (64 - n).toNat)) / 2 ^ (64 - n).toNat = sgn v.toNat n.toNat := by
  obtain ⟨V, rfl⟩ := Int.eq_ofNat_of_zero_le b1
  have e : 2 ^ 64 = 18446744073709551616 := by decide
  have c2 : (V : Int) * 2 ^ (64 - n).toNat = ((V * 2 ^ (64 - n).toNat : Nat) : Int) := by simp
  have cw : IntKind.u64.wrap ((V * 2 ^ (64 - n).toNat : Nat) : Int) = ((V * 2 ^ (64 - n).toNat % 18446744073709551616 : Nat) : Int) := by rw [wrap_u64]; omega
  have hs := sign_code (v := V) (n := n.toNat) (by omega) (by omega)
  rw [e, show 64 - n.toNat = (64 - n).toNat by omega, IntKind.wrap_i64] at hs
  rw [c2, cw, Int.toNat_natCast]
  unfold wrap64
  exact hs

set_option maxHeartbeats 400000 in
theorem ones_any (n : Int) (w : World) (h1 : 0 ≤ n) (h2 : n ≤ 64) :
    Calls Tryd.prog 27 #[.int .i64 n] w fun e w' => e = .returned (.int .u64 (onesI n)) ∧ w = w' := by
  go_enter Tryd.func27, Tryd.ntmps27
  go_wp2
  go_ret
  exact ⟨ret1 (ones_code64 h2), rfl⟩
set_option maxHeartbeats 400000 in
theorem ones_neg (n : Int) (w : World) (h1 : ¬ 0 ≤ n) :
    Calls Tryd.prog 27 #[.int .i64 n] w fun e w' => e = .returned (.int .u64 0) ∧ w = w' := by
  go_enter Tryd.func27, Tryd.ntmps27
  go_wp2
  go_ret
  exact ⟨rfl, rfl⟩
set_option maxHeartbeats 400000 in
theorem ones_over (n : Int) (w : World) (h1 : 64 < n) :
    Calls Tryd.prog 27 #[.int .i64 n] w fun e w' => e = .returned (.int .u64 (onesI 64)) ∧ w = w' := by
  have h0 : 0 ≤ n := by omega
  go_enter Tryd.func27, Tryd.ntmps27
  go_wp2
  go_ret
  exact ⟨ret1 (ones_past h1), rfl⟩

set_option maxHeartbeats 400000 in
theorem isW_yes (n : Int) (w : World) (h1 : 1 ≤ n) (h2 : n ≤ 64) :
    Calls Tryd.prog 22 #[.int .i64 n] w fun e w' => e = .returned (.bool true) ∧ w = w' := by
  go_enter Tryd.func22, Tryd.ntmps22
  go_wp2
  go_ret
  exact ⟨ret1b (by first | rfl | (simp; omega)), rfl⟩
set_option maxHeartbeats 400000 in
theorem isW_no (n : Int) (w : World) (h : n < 1 ∨ 64 < n) :
    Calls Tryd.prog 22 #[.int .i64 n] w fun e w' => e = .returned (.bool false) ∧ w = w' := by
  have H := Lib.hid h
  clear h
  go_enter Tryd.func22, Tryd.ntmps22
  go_wp2
  all_goals go_ret
  all_goals exact ⟨ret1b (by first | rfl | (have := H.out; simp; omega)), rfl⟩

set_option maxHeartbeats 400000 in
theorem sign_yes (v n : Int) (w : World) (b1 : 0 ≤ v) (h1 : 1 ≤ n) (h2 : n ≤ 64) :
    Calls Tryd.prog 14 #[.int .u64 v, .int .i64 n] w fun e w' => e = .returned (.tuple #[.int .i64 (sgn v.toNat n.toNat), .int .i64 0]) ∧ w = w' := by
  go_enter Tryd.func14, Tryd.ntmps14
  go_wp2
  go_ret2
  exact ⟨ret2 (sign_val b1 h1 h2), rfl⟩
set_option maxHeartbeats 400000 in
theorem sign_no (v n : Int) (w : World) (h : n < 1 ∨ 64 < n) :
    Calls Tryd.prog 14 #[.int .u64 v, .int .i64 n] w fun e w' => e = .returned (.tuple #[.int .i64 0, .int .i64 10]) ∧ w = w' := by
  have H := Lib.hid h
  clear h
  go_enter Tryd.func14, Tryd.ntmps14
  go_wp2_with (go_at_call 22; refine (isW_no _ _ H.out).mono ?_; rintro e w1 ⟨rfl, rfl⟩)
  go_ret2
  exact ⟨rfl, rfl⟩

set_option maxHeartbeats 400000 in
theorem turn_no (v n b : Int) (w : World) (h : n < 1 ∨ 64 < n) :
    Calls Tryd.prog 19 #[.int .u64 v, .int .i64 n, .int .i64 b] w fun e w' => e = .returned (.tuple #[.int .u64 0, .int .i64 10]) ∧ w = w' := by
  have H := Lib.hid h
  clear h
  go_enter Tryd.func19, Tryd.ntmps19
  go_wp2_with (go_at_call 22; refine (isW_no _ _ H.out).mono ?_; rintro e w1 ⟨rfl, rfl⟩)
  go_ret2
  exact ⟨rfl, rfl⟩
set_option maxHeartbeats 400000 in
theorem turn_over (v n b : Int) (w : World) (b1 : 0 ≤ v) (b2 : v < 18446744073709551616) (h1 : 1 ≤ n) (h2 : n ≤ 64) (hv : ¬ v < powI n) :
    Calls Tryd.prog 19 #[.int .u64 v, .int .i64 n, .int .i64 b] w fun e w' => e = .returned (.tuple #[.int .u64 0, .int .i64 7]) ∧ w = w' := by
  have ht := over64_yes b1 b2 h2 hv
  clear b2
  go_enter Tryd.func19, Tryd.ntmps19
  go_wp2_with (first | (go_at_call 22; refine (isW_yes _ _ h1 h2).mono ?_; rintro e w1 ⟨rfl, rfl⟩) | (go_at_call 27; refine (ones_any n _ (by omega) h2).mono ?_; rintro e w1 ⟨rfl, rfl⟩))
  go_ret2
  exact ⟨rfl, rfl⟩
/-- how far by turns a number of n bits to the right -/
def rot (b n : Int) : Int := if b.tmod n < 0 then b.tmod n + n else b.tmod n
theorem tmod_bd {b n : Int} (h1 : 1 ≤ n) : -n < b.tmod n ∧ b.tmod n < n := by
  constructor
  · have h2 := Int.tmod_lt_of_pos (-b) (show 0 < n by omega)
    rw [Int.neg_tmod] at h2; omega
  · exact Int.tmod_lt_of_pos b (by omega)
theorem rot_bd {b n : Int} (h1 : 1 ≤ n) : 0 ≤ rot b n ∧ rot b n < n := by
  have := tmod_bd (b := b) h1
  unfold rot; split <;> omega
set_option maxHeartbeats 400000 in
theorem turn_yes (v n b : Int) (w : World) (b1 : 0 ≤ v) (b2 : v < 18446744073709551616) (h1 : 1 ≤ n) (h2 : n ≤ 64) (hv : v < powI n) :
    Calls Tryd.prog 19 #[.int .u64 v, .int .i64 n, .int .i64 b] w fun e w' => e = .returned (.tuple #[.int .u64 (turnI v n (rot b n)), .int .i64 0]) ∧ Below w.heap.size w w' := by
  have ht := over64_no b1 b2 h2 hv
  obtain ⟨t1, t2⟩ := tmod_bd (b := b) h1
  clear b2
  by_cases hr : b.tmod n < 0
  · have hf := Lib.hid (show turnI v n (b.tmod n + n) = turnI v n (rot b n) by unfold rot; rw [if_pos hr])
    go_enter Tryd.func19, Tryd.ntmps19
    go_wp2_with (first | (go_at_call 22; refine (isW_yes _ _ h1 h2).mono ?_; rintro e w1 ⟨rfl, rfl⟩) | (go_at_call 27; refine (ones_any n _ (by omega) h2).mono ?_; rintro e w1 ⟨rfl, rfl⟩))
    have s1 : IntKind.i64.wrap (n - (b.tmod n + n)) = n - (b.tmod n + n) := IntWalk.i64_in _ (by omega)
    have s2 : 0 ≤ n - (b.tmod n + n) := by omega
    have s3 : 0 ≤ b.tmod n + n := by omega
    go_quiet ((go_at_call 27; exact quiet_eq (ones_any n _ (by omega) h2)))
    go_wp2
    go_ret2
    exact ⟨ret2 ((turn_val b1 hv h2 (by omega) (by omega)).trans hf.out), below_drewN (Below.refl _ _) _⟩
  · have hf := Lib.hid (show turnI v n (b.tmod n) = turnI v n (rot b n) by unfold rot; rw [if_neg hr])
    have hr' : 0 ≤ b.tmod n := by omega
    go_enter Tryd.func19, Tryd.ntmps19
    go_wp2_with (first | (go_at_call 22; refine (isW_yes _ _ h1 h2).mono ?_; rintro e w1 ⟨rfl, rfl⟩) | (go_at_call 27; refine (ones_any n _ (by omega) h2).mono ?_; rintro e w1 ⟨rfl, rfl⟩))
    have s1 : IntKind.i64.wrap (n - b.tmod n) = n - b.tmod n := IntWalk.i64_in _ (by omega)
    have s2 : 0 ≤ n - b.tmod n := by omega
    go_quiet ((go_at_call 27; exact quiet_eq (ones_any n _ (by omega) h2)))
    go_wp2
    go_ret2
    exact ⟨ret2 ((turn_val b1 hv h2 (by omega) (by omega)).trans hf.out), below_drewN (Below.refl _ _) _⟩
end Go.Proofs.YtfpaambihjijoaaDoor
