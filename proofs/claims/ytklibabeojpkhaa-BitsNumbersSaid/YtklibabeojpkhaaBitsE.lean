/-
  What each call of the document's own Sign, Turn, Ones, Fits (and of the program's Fits) returns, for every input; nothing in memory changes.
-/
import Derived.Test.YtklibabeojpkhaaBitsD
namespace Go.Proofs.Ytklibabeojpkhaa
open Go.RowKit BM

/-! ### a bit, the lowest bits -/
def bitI (v n : Int) : Int := ((v.toNat / 2 ^ n.toNat % 2 : Nat) : Int)
theorem bitI_bd (v n : Int) : 0 ≤ bitI v n ∧ bitI v n ≤ 1 := by unfold bitI; omega
theorem bit_val {v n : Int} (b1 : 0 ≤ v) (b2 : v < 18446744073709551616) : (IntKind.u64.wrap (v.tdiv (powI n))).tmod 2 = bitI v n := by
  obtain ⟨V, rfl⟩ := Int.eq_ofNat_of_zero_le b1
  have c : (V : Int).tdiv (powI n) = ((V / 2 ^ n.toNat : Nat) : Int) := by
    unfold powI; rw [Int.tdiv_eq_ediv_of_nonneg (Int.natCast_nonneg _)]; simp
  have hx : V / 2 ^ n.toNat < 18446744073709551616 := Nat.lt_of_le_of_lt (Nat.div_le_self _ _) (by omega)
  rw [c, wrap_u64]
  unfold bitI
  rw [Int.toNat_natCast]
  generalize V / 2 ^ n.toNat = X at *
  rw [show (X : Int) % 18446744073709551616 = (X : Int) by omega, Int.tmod_eq_emod_of_nonneg (by omega)]
  omega

set_option maxHeartbeats 400000 in
theorem bit_any (v n : Int) (w : World) (b1 : 0 ≤ v) (b2 : v < 18446744073709551616) (h1 : 0 ≤ n) (h2 : n ≤ 63) :
    Calls Try.prog 36 #[.int .u64 v, .int .i64 n] w fun e w' => e = .returned (.int .u64 (bitI v n)) ∧ w = w' := by
  have B := Lib.hid (And.intro b1 b2)
  clear b1 b2
  go_enter Try.func36, Try.ntmps36
  have pn := Lib.hid (powI_pos n)
  go_wp2_with (go_at_call 33; refine (pow_any _ _ (by omega) (by omega)).mono ?_; rintro e w1 ⟨rfl, rfl⟩; have p := pn.out)
  go_ret
  exact ⟨ret1 (bit_val B.out.1 B.out.2), rfl⟩
set_option maxHeartbeats 400000 in
theorem low_any (v n : Int) (w : World) (b1 : 0 ≤ v) (h1 : 0 ≤ n) (h2 : n < 64) :
    Calls Try.prog 37 #[.int .u64 v, .int .i64 n] w fun e w' => e = .returned (.int .u64 (v % powI n)) ∧ w = w' := by
  have p := powI_pos n
  go_enter Try.func37, Try.ntmps37
  go_wp2_with (go_at_call 33; refine (pow_any _ _ (by omega) (by omega)).mono ?_; rintro e w1 ⟨rfl, rfl⟩)
  go_ret
  exact ⟨rfl, rfl⟩
set_option maxHeartbeats 400000 in
theorem low_big (v n : Int) (w : World) (h2 : 64 ≤ n) :
    Calls Try.prog 37 #[.int .u64 v, .int .i64 n] w fun e w' => e = .returned (.int .u64 v) ∧ w = w' := by
  go_enter Try.func37, Try.ntmps37
  go_wp2
  go_ret
  exact ⟨rfl, rfl⟩

/-! ### Ones -/
theorem ones_succ {k : Nat} (hk : k < 64) : IntKind.u64.wrap (IntKind.u64.wrap (onesI (k : Int) * 2) + 1) = onesI ((k + 1 : Nat) : Int) := by
  have h := pow64 (n := k + 1) (by omega)
  rw [wrap_u64, wrap_u64]
  unfold onesI
  simp only [Int.toNat_natCast]
  have e : 2 ^ (k + 1) = 2 * 2 ^ k := by rw [Nat.pow_succ]; omega
  have hp := Nat.two_pow_pos k
  rw [e] at h ⊢
  generalize 2 ^ k = X at *
  omega
set_option maxHeartbeats 400000 in
theorem rones_mid (n m : Int) (w : World) (h1 : 0 ≤ m) (h2 : m ≤ 64) (hm : (n ≤ 64 ∧ m = n) ∨ (64 < n ∧ m = 64)) :
    Calls Try.prog 24 #[.int .i64 n] w fun e w' => e = .returned (.int .u64 (onesI m)) ∧ w = w' := by
  have M := Lib.hid hm
  clear hm
  go_enter Try.func24, Try.ntmps24
  go_wp2
  go_loop [3, 4] (fun v i => ∃ k : Nat, (k : Int) ≤ m ∧ i = .int .i64 k ∧ v = .int .u64 (onesI k)) (fun _ i => (m - intOf i).toNat)
  case atStart => exact ⟨0, h1, rfl, rfl⟩
  case round =>
    obtain ⟨k, hk, rfl, rfl⟩ := hrel
    rcases M.out with ⟨hn, hmn⟩ | ⟨hn, hmn⟩
    · have M2 := Lib.hid hmn
      clear hmn
      by_cases hlt : (k : Int) < n
      · have hs := Lib.hid (ones_succ (k := k) (by omega))
        go_wp2
        go_round
        case rel => exact ⟨k + 1, by have := M2.out; omega, by go_num, by rw [hs.out]⟩
        case measure => have := M2.out; simp [intOf]; omega
      · have hge : n ≤ (k : Int) := by omega
        go_wp2
        go_ret
        exact ⟨ret1 (by rw [show (k : Int) = m by have := M2.out; omega]), rfl⟩
    · have M2 := Lib.hid hmn
      clear hmn
      by_cases hlt : (k : Int) < 64
      · have hs := Lib.hid (ones_succ (k := k) (by omega))
        go_wp2
        go_round
        case rel => exact ⟨k + 1, by have := M2.out; omega, by go_num, by rw [hs.out]⟩
        case measure => have := M2.out; simp [intOf]; omega
      · have hge : 64 ≤ (k : Int) := by omega
        go_wp2
        go_ret
        exact ⟨ret1 (by rw [show (k : Int) = m by have := M2.out; omega]), rfl⟩
set_option maxHeartbeats 400000 in
theorem rones_neg (n : Int) (w : World) (h1 : n < 0) :
    Calls Try.prog 24 #[.int .i64 n] w fun e w' => e = .returned (.int .u64 0) ∧ w = w' := by
  go_enter Try.func24, Try.ntmps24
  go_wp2
  go_loop [3, 4] (fun v i => i = .int .i64 0 ∧ v = .int .u64 0) (fun _ _ => 0)
  case atStart => exact ⟨rfl, rfl⟩
  case round =>
    obtain ⟨rfl, rfl⟩ := hrel
    go_wp2
    go_ret
    exact ⟨rfl, rfl⟩

/-! ### Fits -/
def fitsB (v n : Int) (s : Bool) : Bool := if s then decide (-(powI (n - 1)) ≤ v ∧ v < powI (n - 1)) else decide (0 ≤ v ∧ v < powI n)
theorem powI_sub {n : Int} : powI n = (2 : Int) ^ n.toNat := by unfold powI; simp
theorem fits_sv {v n : Int} (h1 : 1 ≤ n) : (v / 2 ^ (n.toNat - 1) == 0 || v / 2 ^ (n.toNat - 1) == -1) = fitsB v n true := by
  have h := fits_signed (v := v) (m := n.toNat - 1)
  unfold fitsB
  rw [if_pos rfl, powI_sub, show (n - 1).toNat = n.toNat - 1 by omega, Bool.eq_iff_iff]
  simp only [Bool.or_eq_true, beq_iff_eq, decide_eq_true_eq]
  exact h
theorem fits_uv {v n : Int} : (v / 2 ^ n.toNat == 0) = fitsB v n false := by
  have h := fits_unsigned (v := v) (m := n.toNat)
  unfold fitsB
  rw [if_neg (by decide), powI_sub, Bool.eq_iff_iff]
  simp only [beq_iff_eq, decide_eq_true_eq]
  exact h

set_option maxHeartbeats 400000 in
theorem fits_no (v n : Int) (s : Bool) (w : World) (h : n < 1 ∨ 64 < n) :
    Calls Try.prog 25 #[.int .i64 v, .int .i64 n, .bool s] w fun e w' => e = .returned (.bool false) ∧ w = w' := by
  have H := Lib.hid h
  clear h
  go_enter Try.func25, Try.ntmps25
  go_wp2_with (go_at_call 35; refine (isW_no _ _ H.out).mono ?_; rintro e w1 ⟨rfl, rfl⟩)
  go_ret
  exact ⟨rfl, rfl⟩
set_option maxHeartbeats 400000 in
theorem fits_yes (v n : Int) (s : Bool) (w : World) (h1 : 1 ≤ n) (h2 : n ≤ 64) :
    Calls Try.prog 25 #[.int .i64 v, .int .i64 n, .bool s] w fun e w' => e = .returned (.bool (fitsB v n s)) ∧ w = w' := by
  cases s
  · have hv := Lib.hid (fits_uv (v := v) (n := n))
    go_enter Try.func25, Try.ntmps25
    go_wp2
    go_ret
    exact ⟨ret1b hv.out, rfl⟩
  · have hv := fits_sv (v := v) h1
    cases hz : (v / 2 ^ (n.toNat - 1) == 0) <;> cases hy : (v / 2 ^ (n.toNat - 1) == -1)
    all_goals
      rw [hz, hy] at hv
      have ht := Lib.hid hv
      clear hv
      go_enter Try.func25, Try.ntmps25
      go_wp2
      go_ret
      exact ⟨ret1b ht.out, rfl⟩
set_option maxHeartbeats 400000 in
theorem rfits_no (v n : Int) (s : Bool) (w : World) (h : n < 1 ∨ 64 < n) :
    Calls Try.prog 26 #[.int .i64 v, .int .i64 n, .bool s] w fun e w' => e = .returned (.bool false) ∧ w = w' := by
  rcases h with h | h
  · go_enter Try.func26, Try.ntmps26
    go_wp2
    go_ret
    exact ⟨rfl, rfl⟩
  · have h' : ¬ n < 1 := by omega
    go_enter Try.func26, Try.ntmps26
    go_wp2
    go_ret
    exact ⟨rfl, rfl⟩
set_option maxHeartbeats 400000 in
theorem rfits_u (v n : Int) (w : World) (b1 : -9223372036854775808 ≤ v) (b2 : v ≤ 9223372036854775807) (h1 : 1 ≤ n) (h2 : n ≤ 64) :
    Calls Try.prog 26 #[.int .i64 v, .int .i64 n, .bool false] w fun e w' => e = .returned (.bool (fitsB v n false)) ∧ w = w' := by
  have ef : fitsB v n false = decide (0 ≤ v ∧ v < powI n) := rfl
  rw [ef]
  by_cases hv : 0 ≤ v
  · by_cases hn : n < 63
    · go_enter Try.func26, Try.ntmps26
      go_wp2_with (go_at_call 33; refine (pow_any _ _ (by omega) (by omega)).mono ?_; rintro e w1 ⟨rfl, rfl⟩)
      go_ret
      exact ⟨ret1b (by simp [hv]; omega), rfl⟩
    · have hn' : 63 ≤ n := by omega
      have hp := Lib.hid (powI_le hn')
      clear hn
      go_enter Try.func26, Try.ntmps26
      go_wp2
      go_ret
      exact ⟨ret1b (by have := hp.out; have e : powI 63 = 9223372036854775808 := by decide
                       rw [e] at this; simp; omega), rfl⟩
  · have hv' : v < 0 := by omega
    clear hv
    go_enter Try.func26, Try.ntmps26
    go_wp2
    go_ret
    exact ⟨ret1b (by simp; omega), rfl⟩
set_option maxHeartbeats 400000 in
theorem rfits_s (v n : Int) (w : World) (b1 : -9223372036854775808 ≤ v) (b2 : v ≤ 9223372036854775807) (h1 : 1 ≤ n) (h2 : n ≤ 64) :
    Calls Try.prog 26 #[.int .i64 v, .int .i64 n, .bool true] w fun e w' => e = .returned (.bool (fitsB v n true)) ∧ w = w' := by
  have ef : fitsB v n true = decide (-(powI (n - 1)) ≤ v ∧ v < powI (n - 1)) := rfl
  rw [ef]
  have hq := Lib.hid (powI_pos (n - 1))
  by_cases hn : n = 64
  · subst hn
    have e : powI (64 - 1) = 9223372036854775808 := by decide
    rw [e]
    go_enter Try.func26, Try.ntmps26
    go_wp2
    go_ret
    exact ⟨ret1b (by simp; omega), rfl⟩
  · have hn' : (n == 64) = false := by simp [hn]
    have hn2 : n ≤ 63 := by omega
    clear hn
    by_cases hv : v < 0
    · go_enter Try.func26, Try.ntmps26
      go_wp2_with (go_at_call 33; refine (pow_any _ _ (by omega) (by omega)).mono ?_; rintro e w1 ⟨rfl, rfl⟩)
      go_ret
      exact ⟨ret1b (by have := hq.out; rw [Bool.eq_iff_iff]; simp only [decide_eq_true_eq]; omega), rfl⟩
    · have hv' : 0 ≤ v := by omega
      clear hv
      go_enter Try.func26, Try.ntmps26
      go_wp2_with (go_at_call 33; refine (pow_any _ _ (by omega) (by omega)).mono ?_; rintro e w1 ⟨rfl, rfl⟩)
      go_ret
      exact ⟨ret1b (by have := hq.out; rw [Bool.eq_iff_iff]; simp only [decide_eq_true_eq]; omega), rfl⟩
end Go.Proofs.Ytklibabeojpkhaa
