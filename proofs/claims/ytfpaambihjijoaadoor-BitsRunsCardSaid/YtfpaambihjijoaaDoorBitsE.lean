/-
  What each call of the document's own Sign, Turn, Ones, Fits (and of the program's Fits) returns, for every input; nothing in memory changes.
-/
import Derived.Test.YtfpaambihjijoaaDoorBitsD
namespace Go.Proofs.YtfpaambihjijoaaDoor
open Go.RowKit BM

/-! ### a bit, the lowest bits -/
def bitI (v n : Int) : Int := ((v.toNat / 2 ^ n.toNat % 2 : Nat) : Int)
theorem bitI_bd (v n : Int) : 0 ≤ bitI v n ∧ bitI v n ≤ 1 := by unfold bitI; omega
theorem bit_val {v n : Int} (b1 : 0 ≤ v) (b2 : v < 18446744073709551616) : (IntKind.u64.wrap (v.tdiv (powI n))).tmod 2 = bitI v n := by
  obtain ⟨V, rfl⟩ := Int.eq_ofNat_of_zero_le b1
  have c : (V : Int).tdiv (powI n) = ((V / 2 ^ n.toNat : Nat) : Int) := by
    unfold powI; rw [Int.tdiv_eq_ediv_of_nonneg (Int.natCast_nonneg _)]; simp
  have hx : V / 2 ^ n.toNat < 18446744073709551616 := Nat.lt_of_le_of_lt (Nat.div_le_self _ _) (by omega)
  rw [c, wrap_u64]
  unfold bitI
  rw [Int.toNat_natCast]
  generalize V / 2 ^ n.toNat = X at *
  rw [show (X : Int) % 18446744073709551616 = (X : Int) by omega, Int.tmod_eq_emod_of_nonneg (by omega)]
  omega

set_option maxHeartbeats 400000 in
theorem bit_any (v n : Int) (w : World) (b1 : 0 ≤ v) (b2 : v < 18446744073709551616) (h1 : 0 ≤ n) (h2 : n ≤ 63) :
    Calls Tryd.prog 21 #[.int .u64 v, .int .i64 n] w fun e w' => e = .returned (.int .u64 (bitI v n)) ∧ w = w' := by
  have B := Lib.hid (And.intro b1 b2)
  clear b1 b2
  go_enter Tryd.func21, Tryd.ntmps21
  have pn := Lib.hid (powI_pos n)
  go_wp2_with (go_at_call 23; refine (pow_any _ _ (by omega) (by omega)).mono ?_; rintro e w1 ⟨rfl, rfl⟩; have p := pn.out)
  go_ret
  exact ⟨ret1 (bit_val B.out.1 B.out.2), rfl⟩
set_option maxHeartbeats 400000 in
theorem low_any (v n : Int) (w : World) (b1 : 0 ≤ v) (h1 : 0 ≤ n) (h2 : n < 64) :
    Calls Tryd.prog 15 #[.int .u64 v, .int .i64 n] w fun e w' => e = .returned (.int .u64 (v % powI n)) ∧ w = w' := by
  have p := powI_pos n
  go_enter Tryd.func15, Tryd.ntmps15
  go_wp2_with (go_at_call 23; refine (pow_any _ _ (by omega) (by omega)).mono ?_; rintro e w1 ⟨rfl, rfl⟩)
  go_ret
  exact ⟨rfl, rfl⟩
set_option maxHeartbeats 400000 in
theorem low_big (v n : Int) (w : World) (h2 : 64 ≤ n) :
    Calls Tryd.prog 15 #[.int .u64 v, .int .i64 n] w fun e w' => e = .returned (.int .u64 v) ∧ w = w' := by
  go_enter Tryd.func15, Tryd.ntmps15
  go_wp2
  go_ret
  exact ⟨rfl, rfl⟩

/-! ### Ones -/
theorem ones_succ {k : Nat} (hk : k < 64) : IntKind.u64.wrap (IntKind.u64.wrap (onesI (k : Int) * 2) + 1) = onesI ((k + 1 : Nat) : Int) := by
  have h := pow64 (n := k + 1) (by omega)
  rw [wrap_u64, wrap_u64]
  unfold onesI
  simp only [Int.toNat_natCast]
  have e : 2 ^ (k + 1) = 2 * 2 ^ k := by rw [Nat.pow_succ]; omega
  have hp := Nat.two_pow_pos k
  rw [e] at h ⊢
  generalize 2 ^ k = X at *
  omega
/-! ### Fits -/
def fitsB (v n : Int) (s : Bool) : Bool := if s then decide (-(powI (n - 1)) ≤ v ∧ v < powI (n - 1)) else decide (0 ≤ v ∧ v < powI n)
theorem powI_sub {n : Int} : powI n = (2 : Int) ^ n.toNat := by unfold powI; simp
theorem fits_sv {v n : Int} (h1 : 1 ≤ n) : (v / 2 ^ (n.toNat - 1) == 0 || v / 2 ^ (n.toNat - 1) == -1) = fitsB v n true := by
  have h := fits_signed (v := v) (m := n.toNat - 1)
  unfold fitsB
  rw [if_pos rfl, powI_sub, show (n - 1).toNat = n.toNat - 1 by omega, Bool.eq_iff_iff]
  simp only [Bool.or_eq_true, beq_iff_eq, decide_eq_true_eq]
  exact h
theorem fits_uv {v n : Int} : (v / 2 ^ n.toNat == 0) = fitsB v n false := by
  have h := fits_unsigned (v := v) (m := n.toNat)
  unfold fitsB
  rw [if_neg (by decide), powI_sub, Bool.eq_iff_iff]
  simp only [beq_iff_eq, decide_eq_true_eq]
  exact h

set_option maxHeartbeats 400000 in
theorem fits_no (v n : Int) (s : Bool) (w : World) (h : n < 1 ∨ 64 < n) :
    Calls Tryd.prog 16 #[.int .i64 v, .int .i64 n, .bool s] w fun e w' => e = .returned (.bool false) ∧ w = w' := by
  have H := Lib.hid h
  clear h
  go_enter Tryd.func16, Tryd.ntmps16
  go_wp2_with (go_at_call 22; refine (isW_no _ _ H.out).mono ?_; rintro e w1 ⟨rfl, rfl⟩)
  go_ret
  exact ⟨rfl, rfl⟩
set_option maxHeartbeats 400000 in
theorem fits_yes (v n : Int) (s : Bool) (w : World) (h1 : 1 ≤ n) (h2 : n ≤ 64) :
    Calls Tryd.prog 16 #[.int .i64 v, .int .i64 n, .bool s] w fun e w' => e = .returned (.bool (fitsB v n s)) ∧ w = w' := by
  cases s
  · have hv := Lib.hid (fits_uv (v := v) (n := n))
    go_enter Tryd.func16, Tryd.ntmps16
    go_wp2
    go_ret
    exact ⟨ret1b hv.out, rfl⟩
  · have hv := fits_sv (v := v) h1
    cases hz : (v / 2 ^ (n.toNat - 1) == 0) <;> cases hy : (v / 2 ^ (n.toNat - 1) == -1)
    all_goals
      rw [hz, hy] at hv
      have ht := Lib.hid hv
      clear hv
      go_enter Tryd.func16, Tryd.ntmps16
      go_wp2
      go_ret
      exact ⟨ret1b ht.out, rfl⟩
end Go.Proofs.YtfpaambihjijoaaDoor
