/-
  What each call of the document's own Sign and Turn returns, for every input; nothing in memory changes.
-/
import Derived.Test.YtjkhgljlipljdaaDoorBits
namespace Go.Proofs.YtjkhgljlipljdaaDoor.Bit
open Go.RowKit BM

/-- the lowest k bits -/
def lowI (v : Int) (k : Nat) : Int := ((v.toNat % 2 ^ k : Nat) : Int)
theorem lowI_bd (v : Int) {k : Nat} (hk : k ≤ 63) : 0 ≤ lowI v k ∧ lowI v k < powI k ∧ powI k ≤ 9223372036854775808 := by
  have h := Nat.mod_lt v.toNat (Nat.two_pow_pos k)
  have h2 := powI_63 (n := (k : Int)) (by omega)
  refine ⟨by unfold lowI; omega, ?_, h2⟩
  unfold lowI powI; rw [Int.toNat_natCast]; exact Int.ofNat_lt.2 h
theorem low_succ (v : Int) (k : Nat) : lowI v (k + 1) = lowI v k + bitI v k * powI k := by
  unfold lowI bitI powI
  rw [mod_succ, Int.toNat_natCast]; push_cast; rfl
theorem sign_step {v : Int} {k : Nat} (hk : k < 63) : wrap64 (lowI v k + wrap64 (bitI v k * powI k)) = lowI v (k + 1) := by
  have h := low_succ v k
  obtain ⟨a1, a2, a3⟩ := lowI_bd v (k := k) (by omega)
  obtain ⟨c1, c2, c3⟩ := lowI_bd v (k := k + 1) (by omega)
  obtain ⟨d1, d2⟩ := bitI_bd v k
  have e : 0 ≤ bitI v k * powI k := Int.mul_nonneg d1 (by omega)
  rw [h] at c1 c2 ⊢
  generalize bitI v k * powI k = B at *
  rw [IntWalk.wrap64_in B (by omega), IntWalk.wrap64_in _ (by omega)]
/-- what the last bit adds -/
theorem sign_last {v n : Int} (h1 : 1 ≤ n) (h2 : n ≤ 64) (hb : bitI v (n - 1) = 1) :
    wrap64 (lowI v (n - 1).toNat + wrap64 (-1 - wrap64 (wrap64 (powI (n - 1)) - 1))) = sgn v.toNat n.toNat := by
  obtain ⟨a1, a2, a3⟩ := lowI_bd v (k := (n - 1).toNat) (by omega)
  have e : (((n - 1).toNat : Nat) : Int) = n - 1 := by omega
  rw [e] at a2 a3
  have hs : sgn v.toNat n.toNat = lowI v (n - 1).toNat - powI (n - 1) := by
    unfold sgn lowI powI
    rw [show n.toNat - 1 = (n - 1).toNat by omega, if_pos (by unfold bitI at hb; omega)]
    simp
  rw [hs]
  have := powI_pos (n - 1)
  unfold wrap64
  omega
theorem sign_none {v n : Int} (h1 : 1 ≤ n) (hb : bitI v (n - 1) ≠ 1) : lowI v (n - 1).toNat = sgn v.toNat n.toNat := by
  unfold sgn lowI
  rw [show n.toNat - 1 = (n - 1).toNat by omega, if_neg (by unfold bitI at hb; omega)]

set_option maxHeartbeats 400000 in
theorem rsign_no (v n : Int) (w : World) (h : n < 1 ∨ 64 < n) :
    Calls Tryd.prog 58 #[.int .u64 v, .int .i64 n] w fun e w' => e = .returned (.tuple #[.int .i64 0, .int .i64 10]) ∧ w = w' := by
  rcases h with h | h
  · go_enter Tryd.func58, Tryd.ntmps58
    go_wp2
    go_ret2
    exact ⟨rfl, rfl⟩
  · have h' : ¬ n < 1 := by omega
    go_enter Tryd.func58, Tryd.ntmps58
    go_wp2
    go_ret2
    exact ⟨rfl, rfl⟩
set_option maxHeartbeats 400000 in
theorem rsign_yes (v n : Int) (w : World) (b1 : 0 ≤ v) (b2 : v < 18446744073709551616) (h1 : 1 ≤ n) (h2 : n ≤ 64) :
    Calls Tryd.prog 58 #[.int .u64 v, .int .i64 n] w fun e w' => e = .returned (.tuple #[.int .i64 (sgn v.toNat n.toNat), .int .i64 0]) ∧ w = w' := by
  have B := Lib.hid (And.intro b1 b2)
  clear b1 b2
  have hn1 : ¬ n < 1 := by omega
  have hn2 : ¬ 64 < n := by omega
  go_enter Tryd.func58, Tryd.ntmps58
  go_wp2
  go_loop [6, 7] (fun s i => ∃ k : Nat, (k : Int) ≤ n - 1 ∧ i = .int .i64 k ∧ s = .int .i64 (lowI v k)) (fun _ i => (n - intOf i).toNat)
  case atStart => exact ⟨0, by omega, rfl, by simp [lowI, Nat.mod_one]⟩
  case round =>
    obtain ⟨k, hk, rfl, rfl⟩ := hrel
    by_cases hlt : (k : Int) < n - 1
    · have hs := Lib.hid (sign_step (v := v) (k := k) (by omega))
      obtain ⟨d1, d2⟩ := bitI_bd v k
      have p1 := powI_pos k
      have p2 : powI k ≤ 4611686018427387904 := powI_le (m := 62) (by omega)
      go_wp2_with (first | (go_at_call 76; refine (bit_any _ _ _ B.out.1 B.out.2 (by omega) (by omega)).mono ?_; rintro e w1 ⟨rfl, rfl⟩) | (go_at_call 60; refine (pow_any _ _ (by omega) (by omega)).mono ?_; rintro e w2 ⟨rfl, rfl⟩))
      go_round
      case rel => exact ⟨k + 1, by omega, by go_num, by rw [hs.out]⟩
      case measure => simp [intOf]; omega
    · have hk2 : k = (n - 1).toNat := by omega
      subst hk2
      have hge : ¬ (((n - 1).toNat : Nat) : Int) < n - 1 := by omega
      by_cases hb : bitI v (n - 1) = 1
      · have hs := Lib.hid (sign_last h1 h2 hb)
        have hb' : (bitI v (n - 1) == 1) = true := by simp [hb]
        clear hb
        go_wp2_with (first | (go_at_call 76; refine (bit_any _ _ _ B.out.1 B.out.2 (by omega) (by omega)).mono ?_; rintro e w1 ⟨rfl, rfl⟩) | (go_at_call 60; refine (pow_any _ _ (by omega) (by omega)).mono ?_; rintro e w2 ⟨rfl, rfl⟩))
        go_ret2
        exact ⟨ret2 (by have := hs.out; rw [show (n - 1).toNat = n.toNat - 1 by omega] at this; exact this), rfl⟩
      · have hs := Lib.hid (sign_none h1 hb)
        have hb' : (bitI v (n - 1) == 1) = false := by simp [hb]
        clear hb
        go_wp2_with (first | (go_at_call 76; refine (bit_any _ _ _ B.out.1 B.out.2 (by omega) (by omega)).mono ?_; rintro e w1 ⟨rfl, rfl⟩))
        go_ret2
        exact ⟨ret2 (by have := hs.out; rw [show (n - 1).toNat = n.toNat - 1 by omega] at this; exact this), rfl⟩

/-! ### Turn -/
def turnToI (v n r : Int) (k : Nat) : Int := ((turnTo v.toNat n.toNat r.toNat k : Nat) : Int)
theorem turn_step {v n r : Int} {k : Nat} (j : Int) (b1 : 0 ≤ v) (hv : v < powI n) (h2 : n ≤ 64) (r0 : 0 ≤ r) (r1 : r < n) (_hk : (k : Int) < n)
    (hj : ((k : Int) < r ∧ j = (k : Int) - r + n) ∨ (r ≤ (k : Int) ∧ j = (k : Int) - r)) :
    IntKind.u64.wrap (turnToI v n r k + IntKind.u64.wrap (bitI v k * powI j)) = turnToI v n r (k + 1) := by
  have hv' := lt_pow b1 hv
  have hp := pow64 (n := n.toNat) (by omega)
  have t1 := turnTo_lt (i := k) hv' (show r.toNat < n.toNat by omega)
  have t2 := turnTo_lt (i := k + 1) hv' (show r.toNat < n.toNat by omega)
  have hs : turnTo v.toNat n.toNat r.toNat (k + 1) = turnTo v.toNat n.toNat r.toNat k + v.toNat / 2 ^ k % 2 * 2 ^ j.toNat := by
    rcases hj with ⟨g, e⟩ | ⟨g, e⟩
    · rw [turnTo_low (by omega) (by omega), show j.toNat = k + n.toNat - r.toNat by omega]
    · rw [turnTo_high (by omega), show j.toNat = k - r.toNat by omega]
  have e : bitI v k * powI j = ((v.toNat / 2 ^ k % 2 * 2 ^ j.toNat : Nat) : Int) := by
    unfold bitI powI; rw [Int.toNat_natCast, ← Int.natCast_mul]
  unfold turnToI
  rw [e, hs]
  rw [hs] at t2
  generalize v.toNat / 2 ^ k % 2 * 2 ^ j.toNat = B at *
  generalize turnTo v.toNat n.toNat r.toNat k = T at *
  rw [wrap_u64, wrap_u64]
  omega
theorem turn_end {v n r : Int} (_b1 : 0 ≤ v) (hv : v < powI n) (r0 : 0 ≤ r) (r1 : r < n) : turnToI v n r n.toNat = turnI v n r := by
  unfold turnToI turnI
  rw [turnTo_all (lt_pow _b1 hv) (by omega)]
theorem low_is {v n : Int} (b1 : 0 ≤ v) (hv : v < powI n) : v % powI n = v := Int.emod_eq_of_lt b1 hv
theorem low_isnt {v n : Int} (hv : ¬ v < powI n) : (v % powI n != v) = true := by
  rw [bne_iff_ne]
  have := powI_pos n
  have h := Int.emod_lt_of_pos v (show 0 < powI n by omega)
  omega

theorem low_same (v n : Int) (w : World) (b1 : 0 ≤ v) (h1 : 1 ≤ n) (hv : v < powI n) :
    Calls Tryd.prog 29 #[.int .u64 v, .int .i64 n] w fun e w' => e = .returned (.int .u64 v) ∧ w = w' := by
  by_cases h : n < 64
  · have := low_any v n w b1 (by omega) h
    rw [low_is b1 hv] at this; exact this
  · exact low_big v n w (by omega)
end Go.Proofs.YtjkhgljlipljdaaDoor.Bit
