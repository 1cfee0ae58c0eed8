/-
  Plain arithmetic of fields of words, of numbers turned round, and of signs, over Nat and Int alone. No program is named here. No conditions beyond those that each lemma states.
-/
import Derived.Laws.BitsAllLaws
import Derived.Test.YtjkhgljlipljdaaDoorRows
import Derived.WalkKit
import Derived.ProofKit
import Derived.WalkLawsBesides
import Derived.WalkSpells
import Derived.Laws.ShiftsVar
import Derived.Deep.RegionWith
import Derived.Deep.RegionHeld3
import Derived.Deep.QuietTactic
import Derived.BigQuiet
import Derived.Lib.Hide
namespace Go.Proofs.YtjkhgljlipljdaaDoor.BM
open Go

/-- the value of a field -/
def getN (w l n : Nat) : Nat := w / 2 ^ l % 2 ^ n
/-- a word with a field's value -/
def putN (w l n v : Nat) : Nat := w - getN w l n * 2 ^ l + v * 2 ^ l

theorem split3 (w l n : Nat) : w = 2 ^ (l + n) * (w / 2 ^ (l + n)) + (2 ^ l * getN w l n + w % 2 ^ l) := by
  unfold getN
  have h1 := Nat.div_add_mod w (2 ^ l)
  have h2 := Nat.div_add_mod (w / 2 ^ l) (2 ^ n)
  have h3 : w / 2 ^ l / 2 ^ n = w / 2 ^ (l + n) := by rw [Nat.div_div_eq_div_mul, Nat.pow_add]
  rw [h3] at h2
  have e1 : 2 ^ (l + n) * (w / 2 ^ (l + n)) = 2 ^ l * (2 ^ n * (w / 2 ^ (l + n))) := by rw [Nat.pow_add, Nat.mul_assoc]
  have e2 : 2 ^ l * (w / 2 ^ l) = 2 ^ l * (2 ^ n * (w / 2 ^ (l + n))) + 2 ^ l * (w / 2 ^ l % 2 ^ n) := by rw [← Nat.mul_add, h2]
  omega

theorem getN_lt (w l n : Nat) : getN w l n < 2 ^ n := Nat.mod_lt _ (Nat.two_pow_pos n)

theorem putN_eq (w l n v : Nat) : putN w l n v = 2 ^ (l + n) * (w / 2 ^ (l + n)) + (2 ^ l * v + w % 2 ^ l) := by
  have h := split3 w l n
  unfold putN
  have e1 : getN w l n * 2 ^ l = 2 ^ l * getN w l n := Nat.mul_comm _ _
  have e2 : v * 2 ^ l = 2 ^ l * v := Nat.mul_comm _ _
  omega

theorem low_lt {l n v r : Nat} (hv : v < 2 ^ n) (hr : r < 2 ^ l) : 2 ^ l * v + r < 2 ^ (l + n) := by
  have h1 : v + 1 ≤ 2 ^ n := hv
  have h2 := Nat.mul_le_mul_left (2 ^ l) h1
  rw [Nat.pow_add]
  have e : 2 ^ l * (v + 1) = 2 ^ l * v + 2 ^ l := by rw [Nat.mul_add, Nat.mul_one]
  omega

/-- the bits of a word with a field's value -/
theorem putN_bit (w l n v : Nat) (hv : v < 2 ^ n) (i : Nat) : (putN w l n v).testBit i = if l ≤ i ∧ i < l + n then v.testBit (i - l) else w.testBit i := by
  have hr : w % 2 ^ l < 2 ^ l := Nat.mod_lt _ (Nat.two_pow_pos l)
  rw [putN_eq, Nat.testBit_two_pow_mul_add _ (low_lt hv hr)]
  rw [Nat.testBit_two_pow_mul_add _ hr]
  by_cases h1 : i < l
  · simp [h1, show i < l + n by omega, show ¬ (l ≤ i) by omega]
  · by_cases h2 : i < l + n
    · simp [h1, h2, show l ≤ i by omega]
    · simp [h2, Nat.testBit_div_two_pow]
      congr 1; omega

theorem getN_bit (w l n i : Nat) : (getN w l n).testBit i = (decide (i < n) && w.testBit (l + i)) := by
  unfold getN
  rw [Nat.testBit_mod_two_pow, Nat.testBit_div_two_pow, Nat.add_comm]

theorem ones_bit (n i : Nat) : (2 ^ n - 1).testBit i = decide (i < n) := Nat.testBit_two_pow_sub_one n i

theorem putN_lt (w l n v B : Nat) (hw : w < 2 ^ B) (hv : v < 2 ^ n) (hB : l + n ≤ B) : putN w l n v < 2 ^ B := by
  apply Nat.lt_pow_two_of_testBit
  intro i hi
  rw [putN_bit _ _ _ _ hv, if_neg (by omega)]
  exact Nat.testBit_lt_two_pow (Nat.lt_of_lt_of_le hw (Nat.pow_le_pow_right (by decide) hi))

theorem get_put (w l n v : Nat) (hv : v < 2 ^ n) : getN (putN w l n v) l n = v := by
  apply Nat.eq_of_testBit_eq; intro i
  rw [getN_bit, putN_bit _ _ _ _ hv]
  by_cases h : i < n
  · simp [h, show l ≤ l + i by omega]
  · simp [h]; exact Nat.testBit_lt_two_pow (i := i) (Nat.lt_of_lt_of_le hv (Nat.pow_le_pow_right (by decide) (by omega)))

/-- as the code reckons it -/
theorem get_code (w l n : Nat) : w / 2 ^ l &&& (2 ^ n - 1) = getN w l n := Nat.and_two_pow_sub_one_eq_mod _ _

theorem mask_bit (l n i : Nat) : ((2 ^ n - 1) * 2 ^ l).testBit i = decide (l ≤ i ∧ i < l + n) := by
  rw [Nat.mul_comm, Nat.testBit_two_pow_mul, ones_bit]
  by_cases h : l ≤ i <;> by_cases h2 : i < l + n <;> simp [h] <;> omega

theorem not_bit (B x i : Nat) (hx : x < 2 ^ B) : (2 ^ B - 1 - x).testBit i = (decide (i < B) && !x.testBit i) := by
  have := Nat.testBit_two_pow_sub_succ hx i
  rw [← this]; congr 1; omega

theorem put_code (B w l n v : Nat) (hw : w < 2 ^ B) (hv : v < 2 ^ n) (hB : l + n ≤ B) :
    (w &&& (2 ^ B - 1 - (2 ^ n - 1) * 2 ^ l)) ||| v * 2 ^ l = putN w l n v := by
  have hm : (2 ^ n - 1) * 2 ^ l < 2 ^ B := by
    apply Nat.lt_pow_two_of_testBit; intro i hi; rw [mask_bit]; simp; omega
  apply Nat.eq_of_testBit_eq; intro i
  rw [putN_bit _ _ _ _ hv, Nat.testBit_or, Nat.testBit_and, not_bit _ _ _ hm, mask_bit, Nat.mul_comm v, Nat.testBit_two_pow_mul]
  by_cases h1 : l ≤ i
  · by_cases h2 : i < l + n
    · simp [h1, h2]
    · have hv0 : v.testBit (i - l) = false := Nat.testBit_lt_two_pow (Nat.lt_of_lt_of_le hv (Nat.pow_le_pow_right (by decide) (by omega)))
      simp [h1, h2, hv0]
      intro hb
      by_cases h3 : i < B
      · exact h3
      · have := Nat.testBit_lt_two_pow (Nat.lt_of_lt_of_le hw (Nat.pow_le_pow_right (n := 2) (by decide) (show B ≤ i by omega)))
        simp [this] at hb
  · simp [h1]
    intro hb
    omega

theorem over_code (B v n : Nat) (hv : v < 2 ^ B) (hn : n ≤ B) : (v &&& (2 ^ B - 1 - (2 ^ n - 1)) = 0) ↔ v < 2 ^ n := by
  have hm : 2 ^ n - 1 < 2 ^ B := by
    have := Nat.pow_le_pow_right (n := 2) (by decide) hn
    have := Nat.two_pow_pos n
    omega
  constructor
  · intro h
    apply Nat.lt_pow_two_of_testBit; intro i hi
    have := congrArg (·.testBit i) h
    simp only [Nat.testBit_and, not_bit _ _ _ hm, ones_bit, Nat.zero_testBit] at this
    by_cases h3 : i < B
    · simpa [h3, show ¬ i < n by omega] using this
    · exact Nat.testBit_lt_two_pow (Nat.lt_of_lt_of_le hv (Nat.pow_le_pow_right (by decide) (by omega)))
  · intro h
    apply Nat.eq_of_testBit_eq; intro i
    rw [Nat.testBit_and, not_bit _ _ _ hm, ones_bit, Nat.zero_testBit]
    by_cases h2 : i < n
    · simp [h2]
    · rw [Nat.testBit_lt_two_pow (Nat.lt_of_lt_of_le h (Nat.pow_le_pow_right (by decide) (by omega)))]; rfl


/-- turned to the right by r places, r below n -/
def turnN (v n r : Nat) : Nat := v / 2 ^ r + v % 2 ^ r * 2 ^ (n - r)

theorem pow_split (n r : Nat) (h : r ≤ n) : 2 ^ n = 2 ^ r * 2 ^ (n - r) := by rw [← Nat.pow_add]; congr 1; omega

theorem div_lt_pow {v n r : Nat} (hv : v < 2 ^ n) (h : r ≤ n) : v / 2 ^ r < 2 ^ (n - r) := by
  rw [Nat.div_lt_iff_lt_mul (Nat.two_pow_pos r), Nat.mul_comm, ← pow_split n r h]; exact hv

theorem turnN_lt {v n r : Nat} (hv : v < 2 ^ n) (h : r ≤ n) : turnN v n r < 2 ^ n := by
  have h1 := div_lt_pow hv h
  have h2 : v % 2 ^ r < 2 ^ r := Nat.mod_lt _ (Nat.two_pow_pos r)
  have h3 := Nat.mul_le_mul_right (2 ^ (n - r)) (show v % 2 ^ r + 1 ≤ 2 ^ r from h2)
  rw [← pow_split n r h, Nat.add_mul, Nat.one_mul] at h3
  unfold turnN; omega

theorem turnN_zero (v n : Nat) : turnN v n 0 = v := by simp [turnN, Nat.mod_one]

theorem turn_back {v n r : Nat} (hv : v < 2 ^ n) (h : r ≤ n) : turnN (turnN v n r) n (n - r) = v := by
  have h1 := div_lt_pow hv h
  have e : n - (n - r) = r := by omega
  unfold turnN
  rw [e, Nat.add_mul_div_right _ _ (Nat.two_pow_pos _), Nat.div_eq_of_lt h1, Nat.add_mul_mod_self_right, Nat.mod_eq_of_lt h1, Nat.zero_add]
  have := Nat.div_add_mod v (2 ^ r)
  rw [Nat.mul_comm] at this; omega

/-- how many ones among the lowest k bits -/
def pop : Nat → Nat → Nat
  | 0, _ => 0
  | k + 1, v => v % 2 + pop k (v / 2)

theorem pop_le (k v : Nat) : pop k v ≤ k := by
  induction k generalizing v with
  | zero => simp [pop]
  | succ k ih => have := ih (v / 2); simp only [pop]; omega

theorem pop_add (a b v : Nat) : pop (a + b) v = pop a v + pop b (v / 2 ^ a) := by
  induction a generalizing v with
  | zero => simp [pop]
  | succ a ih =>
    rw [show a + 1 + b = (a + b) + 1 by omega]
    simp only [pop]
    rw [ih, Nat.div_div_eq_div_mul, Nat.pow_succ, Nat.mul_comm (2 ^ a) 2]; omega

theorem pop_mod (a v : Nat) : pop a (v % 2 ^ a) = pop a v := by
  induction a generalizing v with
  | zero => simp [pop]
  | succ a ih =>
    simp only [pop]
    have e : v % 2 ^ (a + 1) / 2 = v / 2 % 2 ^ a := by
      rw [Nat.pow_succ, Nat.mul_comm, Nat.mod_mul_right_div_self]
    rw [e, ih, Nat.pow_succ, Nat.mul_comm, Nat.mod_mul_right_mod]

theorem pop_zero (k : Nat) : pop k 0 = 0 := by
  induction k with
  | zero => rfl
  | succ k ih => simp [pop, ih]

theorem pop_more {v n k : Nat} (hv : v < 2 ^ n) (h : n ≤ k) : pop k v = pop n v := by
  have e : k = n + (k - n) := by omega
  rw [e, pop_add, Nat.div_eq_of_lt hv, pop_zero]; omega

theorem pop_turn {v n r : Nat} (hv : v < 2 ^ n) (h : r ≤ n) : pop n (turnN v n r) = pop n v := by
  have h1 := div_lt_pow hv h
  have e1 : n = (n - r) + r := by omega
  have e2 : n = r + (n - r) := by omega
  rw [show pop n (turnN v n r) = pop ((n - r) + r) (turnN v n r) by rw [← e1]]
  rw [show pop n v = pop (r + (n - r)) v by rw [← e2]]
  rw [pop_add, pop_add]
  have d : turnN v n r / 2 ^ (n - r) = v % 2 ^ r := by
    unfold turnN
    rw [Nat.add_mul_div_right _ _ (Nat.two_pow_pos _), Nat.div_eq_of_lt h1, Nat.zero_add]
  have m : turnN v n r % 2 ^ (n - r) = v / 2 ^ r := by
    unfold turnN
    rw [Nat.add_mul_mod_self_right, Nat.mod_eq_of_lt h1]
  rw [d, ← pop_mod (n - r) (turnN v n r), m, pop_mod]; omega

/-- as the code turns: (v >> r | v << (n-r)) & ones, in 64 bits -/
theorem turn_code {v n r : Nat} (hv : v < 2 ^ n) (hn : n ≤ 64) (h : r < n) :
    (v / 2 ^ r ||| v * 2 ^ (n - r) % 2 ^ 64) &&& (2 ^ n - 1) = turnN v n r := by
  rw [Nat.and_two_pow_sub_one_eq_mod]
  have h1 := div_lt_pow hv (Nat.le_of_lt h)
  have hd : v / 2 ^ r < 2 ^ n := Nat.lt_of_le_of_lt (Nat.div_le_self _ _) hv
  apply Nat.eq_of_testBit_eq; intro i
  have hb : ∀ j, n ≤ j → v.testBit j = false := fun j hj => Nat.testBit_lt_two_pow (Nat.lt_of_lt_of_le hv (Nat.pow_le_pow_right (by decide) hj))
  have ht : turnN v n r = 2 ^ (n - r) * (v % 2 ^ r) + v / 2 ^ r := by unfold turnN; rw [Nat.mul_comm (v % 2 ^ r)]; omega
  rw [ht, Nat.testBit_two_pow_mul_add _ h1]
  rw [Nat.testBit_mod_two_pow, Nat.testBit_or, Nat.testBit_div_two_pow, Nat.testBit_mod_two_pow, Nat.mul_comm v, Nat.testBit_two_pow_mul, Nat.testBit_mod_two_pow]
  by_cases g : i < n
  · by_cases g2 : i < n - r
    · simp [g, g2, show ¬ (n - r ≤ i) by omega]
    · have := hb (i + r) (by omega)
      simp [g, g2, show n - r ≤ i by omega, this, show i < 64 by omega]; intro _; omega
  · simp [g, show ¬ (i < n - r) by omega]; intro _; omega

/-- the reference's loop: what has been summed behind i rounds -/
def turnTo (v n r i : Nat) : Nat := if i ≤ r then v % 2 ^ i * 2 ^ (n - r) else v % 2 ^ r * 2 ^ (n - r) + v % 2 ^ i / 2 ^ r

theorem mod_succ (v i : Nat) : v % 2 ^ (i + 1) = v % 2 ^ i + v / 2 ^ i % 2 * 2 ^ i := by
  rw [Nat.pow_succ, Nat.mod_mul, Nat.mul_comm]

theorem turnTo_zero (v n r : Nat) : turnTo v n r 0 = 0 := by simp [turnTo, Nat.mod_one]

theorem turnTo_low {v n r i : Nat} (h : i < r) (hr : r ≤ n) : turnTo v n r (i + 1) = turnTo v n r i + v / 2 ^ i % 2 * 2 ^ (i + n - r) := by
  unfold turnTo
  rw [if_pos (by omega), if_pos (by omega), mod_succ, Nat.add_mul, Nat.mul_assoc, ← Nat.pow_add]
  congr 3; omega

theorem turnTo_high {v n r i : Nat} (h : r ≤ i) : turnTo v n r (i + 1) = turnTo v n r i + v / 2 ^ i % 2 * 2 ^ (i - r) := by
  have e : v / 2 ^ i % 2 * 2 ^ i = (v / 2 ^ i % 2 * 2 ^ (i - r)) * 2 ^ r := by rw [Nat.mul_assoc, ← Nat.pow_add]; congr 2; omega
  unfold turnTo
  rw [if_neg (by omega), mod_succ, e, Nat.add_mul_div_right _ _ (Nat.two_pow_pos _)]
  by_cases g : i ≤ r
  · obtain rfl : i = r := by omega
    simp [Nat.div_eq_of_lt (Nat.mod_lt v (Nat.two_pow_pos i))]
  · rw [if_neg g]; omega

theorem turnTo_all {v n r : Nat} (hv : v < 2 ^ n) (h : r < n) : turnTo v n r n = turnN v n r := by
  unfold turnTo turnN
  rw [if_neg (by omega), Nat.mod_eq_of_lt hv]; omega

theorem turnTo_lt {v n r i : Nat} (hv : v < 2 ^ n) (h : r < n) : turnTo v n r i < 2 ^ n := by
  have hp := pow_split n r (by omega)
  have key : ∀ j, j ≤ r → v % 2 ^ j * 2 ^ (n - r) + 2 ^ (n - r) ≤ 2 ^ n := by
    intro j hj
    have h2 : v % 2 ^ j < 2 ^ j := Nat.mod_lt _ (Nat.two_pow_pos j)
    have h3 : 2 ^ j ≤ 2 ^ r := Nat.pow_le_pow_right (by decide) hj
    have h4 := Nat.mul_le_mul_right (2 ^ (n - r)) (show v % 2 ^ j + 1 ≤ 2 ^ r by omega)
    rw [← hp, Nat.add_mul, Nat.one_mul] at h4; exact h4
  unfold turnTo
  split
  · have := key i (by assumption)
    have := Nat.two_pow_pos (n - r); omega
  · have := key r (Nat.le_refl _)
    have : v % 2 ^ i / 2 ^ r < 2 ^ (n - r) := div_lt_pow (Nat.lt_of_le_of_lt (Nat.mod_le _ _) hv) (by omega)
    omega


/-- the lowest n bits as a number with a sign -/
def sgn (v n : Nat) : Int := if v / 2 ^ (n - 1) % 2 = 1 then ((v % 2 ^ (n - 1) : Nat) : Int) - 2 ^ (n - 1) else ((v % 2 ^ (n - 1) : Nat) : Int)

theorem wrap_i64 (n : Int) : IntKind.i64.wrap n = if n % 18446744073709551616 ≥ 9223372036854775808 then n % 18446744073709551616 - 18446744073709551616 else n % 18446744073709551616 := by
  simp [IntKind.wrap, IntKind.bits, IntKind.signed]

theorem sgn_bounds (v n : Nat) : -(2 : Int) ^ (n - 1) ≤ sgn v n ∧ sgn v n < 2 ^ (n - 1) := by
  have h := Nat.mod_lt v (Nat.two_pow_pos (n - 1))
  have h2 : ((v % 2 ^ (n - 1) : Nat) : Int) < ((2 ^ (n - 1) : Nat) : Int) := by exact_mod_cast h
  have e : ((2 ^ (n - 1) : Nat) : Int) = (2 : Int) ^ (n - 1) := by simp
  rw [e] at h2
  have h3 : (0 : Int) < 2 ^ (n - 1) := by rw [← e]; exact_mod_cast Nat.two_pow_pos _
  unfold sgn
  split <;> omega

theorem low_split (v n : Nat) (hn : 1 ≤ n) : v % 2 ^ n = v % 2 ^ (n - 1) + v / 2 ^ (n - 1) % 2 * 2 ^ (n - 1) := by
  have e : n = (n - 1) + 1 := by omega
  rw [show v % 2 ^ n = v % 2 ^ ((n - 1) + 1) by rw [← e]]
  rw [Nat.pow_succ, Nat.mod_mul, Nat.mul_comm]

theorem cast_lt64 {x : Nat} (h : x < 2 ^ 64) : ((x : Nat) : Int) < 18446744073709551616 := by
  have e : 2 ^ 64 = 18446744073709551616 := by decide
  rw [e] at h; omega
theorem cast_ge63 {x : Nat} (h : 2 ^ 63 ≤ x) : ((x : Nat) : Int) ≥ 9223372036854775808 := by
  have e : 2 ^ 63 = 9223372036854775808 := by decide
  rw [e] at h; omega
theorem cast_lt63 {x : Nat} (h : x < 2 ^ 63) : ¬ (((x : Nat) : Int) ≥ 9223372036854775808) := by
  have e : 2 ^ 63 = 9223372036854775808 := by decide
  rw [e] at h; omega

/-- v << (64 - n), as a number with a sign, >> (64 - n) -/
theorem sign_code {v n : Nat} (hn : 1 ≤ n) (h64 : n ≤ 64) :
    IntKind.i64.wrap (((v * 2 ^ (64 - n) % 2 ^ 64 : Nat) : Int)) / 2 ^ (64 - n) = sgn v n := by
  have hp : 2 ^ (64 : Nat) = 2 ^ n * 2 ^ (64 - n) := by rw [← Nat.pow_add]; congr 1; omega
  have e1 : v * 2 ^ (64 - n) % 2 ^ 64 = v % 2 ^ n * 2 ^ (64 - n) := by rw [hp, Nat.mul_mod_mul_right]
  have hm : v % 2 ^ n < 2 ^ n := Nat.mod_lt _ (Nat.two_pow_pos n)
  have hlt : v % 2 ^ n * 2 ^ (64 - n) < 2 ^ 64 := by rw [hp]; exact Nat.mul_lt_mul_of_pos_right hm (Nat.two_pow_pos _)
  have hp63 : 2 ^ (63 : Nat) = 2 ^ (n - 1) * 2 ^ (64 - n) := by rw [← Nat.pow_add]; congr 1; omega
  have hs := low_split v n hn
  have hd : (2 : Int) ^ (64 - n) = ((2 ^ (64 - n) : Nat) : Int) := by simp
  have hpos : ((2 ^ (64 - n) : Nat) : Int) ≠ 0 := by have := Nat.two_pow_pos (64 - n); omega
  rw [e1, wrap_i64, hd]
  have b2 : v / 2 ^ (n - 1) % 2 < 2 := Nat.mod_lt _ (by decide)
  have hm2 : v % 2 ^ (n - 1) < 2 ^ (n - 1) := Nat.mod_lt _ (Nat.two_pow_pos _)
  have hx : ((v % 2 ^ n * 2 ^ (64 - n) : Nat) : Int) % 18446744073709551616 = ((v % 2 ^ n * 2 ^ (64 - n) : Nat) : Int) := Int.emod_eq_of_lt (by omega) (cast_lt64 hlt)
  rw [hx]
  unfold sgn
  have c1 : ((v % 2 ^ n * 2 ^ (64 - n) : Nat) : Int) = ((v % 2 ^ n : Nat) : Int) * ((2 ^ (64 - n) : Nat) : Int) := by push_cast; rfl
  by_cases hb : v / 2 ^ (n - 1) % 2 = 1
  · have hge : 2 ^ 63 ≤ v % 2 ^ n * 2 ^ (64 - n) := by
      rw [hp63]; apply Nat.mul_le_mul_right; rw [hs, hb]; omega
    rw [if_pos (cast_ge63 hge), if_pos hb]
    have c2 : (18446744073709551616 : Int) = ((2 ^ n : Nat) : Int) * ((2 ^ (64 - n) : Nat) : Int) := by
      have : (18446744073709551616 : Int) = ((2 ^ (64 : Nat) : Nat) : Int) := by decide
      rw [this, hp]; push_cast; rfl
    rw [c1, c2, ← Int.sub_mul, Int.mul_ediv_cancel _ hpos, hs, hb]
    have e2 : 2 ^ n = 2 * 2 ^ (n - 1) := by rw [← Nat.pow_succ']; congr 1; omega
    rw [e2]; push_cast; omega
  · have hlt2 : v % 2 ^ n * 2 ^ (64 - n) < 2 ^ 63 := by
      rw [hp63]; apply Nat.mul_lt_mul_of_pos_right _ (Nat.two_pow_pos _); rw [hs, show v / 2 ^ (n - 1) % 2 = 0 by omega]; omega
    rw [if_neg (cast_lt63 hlt2), if_neg hb, c1, Int.mul_ediv_cancel _ hpos, hs, show v / 2 ^ (n - 1) % 2 = 0 by omega]; simp

/-- a sign's lowest bits are the number -/
theorem sgn_low {v n : Nat} (hn : 1 ≤ n) : sgn v n % 2 ^ n = ((v % 2 ^ n : Nat) : Int) := by
  have hs := low_split v n hn
  have b2 : v / 2 ^ (n - 1) % 2 < 2 := Nat.mod_lt _ (by decide)
  have hm2 : v % 2 ^ (n - 1) < 2 ^ (n - 1) := Nat.mod_lt _ (Nat.two_pow_pos _)
  have e2 : 2 ^ n = 2 * 2 ^ (n - 1) := by rw [← Nat.pow_succ']; congr 1; omega
  have e3 : (2 : Int) ^ n = ((2 ^ n : Nat) : Int) := by simp
  have e4 : (2 : Int) ^ (n - 1) = ((2 ^ (n - 1) : Nat) : Int) := by simp
  have hlt : v % 2 ^ n < 2 ^ n := Nat.mod_lt _ (Nat.two_pow_pos n)
  unfold sgn
  by_cases hb : v / 2 ^ (n - 1) % 2 = 1
  · rw [if_pos hb, e3, e4]
    have : (((v % 2 ^ (n - 1) : Nat) : Int) - ((2 ^ (n - 1) : Nat) : Int)) = ((v % 2 ^ n : Nat) : Int) - ((2 ^ n : Nat) : Int) := by
      rw [hs, hb, e2]; push_cast; omega
    rw [this, Int.sub_emod_right]
    exact Int.emod_eq_of_lt (by omega) (by exact_mod_cast hlt)
  · rw [if_neg hb, e3, hs, show v / 2 ^ (n - 1) % 2 = 0 by omega]
    simp only [Nat.zero_mul, Nat.add_zero]
    exact Int.emod_eq_of_lt (by omega) (by rw [e2]; exact_mod_cast (by omega))

/-- Fits: v >> (n-1) is 0 or -1 -/
theorem fits_signed {v : Int} {m : Nat} : (v / 2 ^ m = 0 ∨ v / 2 ^ m = -1) ↔ (-(2 : Int) ^ m ≤ v ∧ v < 2 ^ m) := by
  have hp : (0 : Int) < 2 ^ m := by
    have e : ((2 ^ m : Nat) : Int) = (2 : Int) ^ m := by simp
    rw [← e]; exact_mod_cast Nat.two_pow_pos _
  generalize (2 : Int) ^ m = p at *
  have h1 := Int.mul_ediv_add_emod v p
  have h2 := Int.emod_nonneg v (show p ≠ 0 by omega)
  have h3 := Int.emod_lt_of_pos v hp
  constructor
  · rintro (h | h)
    · rw [h] at h1; omega
    · rw [h] at h1; omega
  · rintro ⟨a, b⟩
    by_cases h : 0 ≤ v
    · left; exact Int.ediv_eq_zero_of_lt h b
    · right
      have e : v = (v + p) + (-1) * p := by omega
      rw [e, Int.add_mul_ediv_right _ _ (show p ≠ 0 by omega), Int.ediv_eq_zero_of_lt (by omega) (by omega)]; rfl

theorem fits_unsigned {v : Int} {m : Nat} : (v / 2 ^ m = 0) ↔ (0 ≤ v ∧ v < 2 ^ m) := by
  have hp : (0 : Int) < 2 ^ m := by
    have e : ((2 ^ m : Nat) : Int) = (2 : Int) ^ m := by simp
    rw [← e]; exact_mod_cast Nat.two_pow_pos _
  generalize (2 : Int) ^ m = p at *
  have h1 := Int.mul_ediv_add_emod v p
  have h2 := Int.emod_nonneg v (show p ≠ 0 by omega)
  have h3 := Int.emod_lt_of_pos v hp
  constructor
  · intro h; rw [h] at h1; omega
  · rintro ⟨a, b⟩; exact Int.ediv_eq_zero_of_lt a b

end Go.Proofs.YtjkhgljlipljdaaDoor.BM
namespace Go.Proofs.YtjkhgljlipljdaaDoor.Bit
open Go.RowKit BM

/-! ### small things -/
theorem Below.thn {B : Nat} {w W w1 : World} (h : Below B w W) (hB : B ≤ W.heap.size) (k : Below W.heap.size W w1) : Below B w w1 := h.trans (k.mono hB)
theorem bcell {W w1 : World} (hb : Below W.heap.size W w1) : (∀ b o, b < W.heap.size → w1.cell? ⟨b, o, none⟩ = W.cell? ⟨b, o, none⟩) ∧ (∀ b o, b < W.heap.size → w1.frozen? ⟨b, o, none⟩ = W.frozen? ⟨b, o, none⟩) :=
  ⟨fun b o h => hb.cell (p := ⟨b, o, none⟩) h, fun b o h => hb.frozen (p := ⟨b, o, none⟩) h⟩
theorem ret1 {k : IntKind} {a b : Int} (h : a = b) : Ending.returned (.int k a) = .returned (.int k b) := by rw [h]
theorem ret1b {a b : Bool} (h : a = b) : Ending.returned (.bool a) = .returned (.bool b) := by rw [h]
theorem ret2 {k : IntKind} {a b e : Int} (h : a = b) : Ending.returned (.tuple #[.int k a, .int .i64 e]) = .returned (.tuple #[.int k b, .int .i64 e]) := by rw [h]

theorem quiet_eq {P : Program} {f : FuncId} {args : Array Value} {w : World} {n : Nat} {v : Value} (h : Calls P f args (w.drewN n) fun e w' => e = .returned v ∧ w.drewN n = w') :
    Calls P f args (w.drewN n) fun e w'' => e = .returned v ∧ ∃ m, w'' = w.drewN m := Calls.quiet_of_same (h.mono fun _ _ ⟨a, b⟩ => ⟨a, b.symm⟩)
/-- a struct of two numbers that lies in the first block of the call's own, through what leaves all that lay there as it was -/
theorem two_start0 {w w1 : World} {a b : Value} {T : TypeId} (hb : Below (w.alloc (.cells #[a, b] T)).heap.size (w.alloc (.cells #[a, b] T)) w1) :
    (w1.cell? ⟨w.heap.size, 0, none⟩ = some a ∧ w1.cell? ⟨w.heap.size, 1, none⟩ = some b) ∧ w.heap.size < w1.heap.size ∧ Below w.heap.size w w1 := by
  have hs := hb.size
  have h0 := (bcell hb).1 w.heap.size 0 (by simp)
  have h1 := (bcell hb).1 w.heap.size 1 (by simp)
  refine ⟨⟨?_, ?_⟩, ?_, ?_⟩
  · rw [h0]; simp [go_sem]
  · rw [h1]; simp [go_sem]
  · simp at hs ⊢; omega
  · exact Below.thn ((Below.refl _ _).alloc (Nat.le_refl _) _) (by simp) hb
theorem two_start {w w1 : World} {a b : Value} {T : TypeId} (hb : Below (w.alloc (.cells #[a, b] T)).heap.size (w.alloc (.cells #[a, b] T)) w1) :
    (w1.drew.cell? ⟨w.heap.size, 0, none⟩ = some a ∧ w1.drew.cell? ⟨w.heap.size, 1, none⟩ = some b) ∧ w.heap.size < w1.drew.heap.size ∧ Below w.heap.size w w1.drew :=
  have h := two_start0 hb
  ⟨h.1, h.2.1, h.2.2.drew⟩
theorem two_keep {w W w1 : World} {a b : Option Value} {B : Nat} (hb : Below W.heap.size W w1)
    (h : (W.cell? ⟨B, 0, none⟩ = a ∧ W.cell? ⟨B, 1, none⟩ = b) ∧ B < W.heap.size ∧ Below B w W) :
    (w1.cell? ⟨B, 0, none⟩ = a ∧ w1.cell? ⟨B, 1, none⟩ = b) ∧ B < w1.heap.size ∧ Below B w w1 := by
  obtain ⟨⟨h0, h1⟩, hz, hB⟩ := h
  have hs := hb.size
  refine ⟨⟨?_, ?_⟩, by omega, Below.thn hB (by omega) hb⟩
  · rw [(bcell hb).1 B 0 hz, h0]
  · rw [(bcell hb).1 B 1 hz, h1]
theorem two_drew {w W : World} {a b : Option Value} {B : Nat} 
    (h : (W.cell? ⟨B, 0, none⟩ = a ∧ W.cell? ⟨B, 1, none⟩ = b) ∧ B < W.heap.size ∧ Below B w W) :
    (W.drew.cell? ⟨B, 0, none⟩ = a ∧ W.drew.cell? ⟨B, 1, none⟩ = b) ∧ B < W.drew.heap.size ∧ Below B w W.drew := ⟨h.1, h.2.1, h.2.2.drew⟩

theorem wrap_u64 (n : Int) : IntKind.u64.wrap n = n % 18446744073709551616 := by simp [IntKind.wrap, IntKind.bits, IntKind.signed]

/-- n ones, as the code makes them in 64 bits -/
def onesI (n : Int) : Int := ((2 ^ n.toNat - 1 : Nat) : Int)
theorem onesI_bd {n : Int} (h : n ≤ 32) : 0 ≤ onesI n ∧ onesI n < 4294967296 := by
  unfold onesI
  have : 2 ^ n.toNat ≤ 2 ^ 32 := Nat.pow_le_pow_right (by decide) (by omega)
  have e : 2 ^ 32 = 4294967296 := by decide
  rw [e] at this
  have := Nat.two_pow_pos n.toNat
  omega
theorem ones_code32 {n : Int} (h : n ≤ 32) : IntKind.u64.wrap (IntKind.u64.wrap (2 ^ n.toNat) - 1) % 4294967296 = onesI n := by
  have hp : 2 ^ n.toNat ≤ 2 ^ 32 := Nat.pow_le_pow_right (by decide) (by omega)
  have e : 2 ^ 32 = 4294967296 := by decide
  rw [e] at hp
  have hq := Nat.two_pow_pos n.toNat
  have c : (2 : Int) ^ n.toNat = ((2 ^ n.toNat : Nat) : Int) := by simp
  unfold onesI
  rw [wrap_u64, wrap_u64, c]
  generalize 2 ^ n.toNat = X at *
  omega

/-- a field's value, a word with it, as the document's own functions reckon them -/
def getI (x l n : Int) : Int := ((getN x.toNat l.toNat n.toNat : Nat) : Int)
def putI (x l n v : Int) : Int := ((putN x.toNat l.toNat n.toNat v.toNat : Nat) : Int)

theorem get_val {x l n : Int} (b1 : 0 ≤ x) (b2 : x < 4294967296) (h4 : n ≤ 32) : bits .and .u32 (x / 2 ^ l.toNat) (onesI n) = getI x l n := by
  obtain ⟨X, rfl⟩ := Int.eq_ofNat_of_zero_le b1
  have ho := onesI_bd h4
  have c : ((X : Int) / 2 ^ l.toNat) = ((X / 2 ^ l.toNat : Nat) : Int) := by simp
  have hx : X / 2 ^ l.toNat < 4294967296 := Nat.lt_of_le_of_lt (Nat.div_le_self _ _) (by omega)
  rw [c, u32_and _ _ (Int.natCast_nonneg _) (by exact Int.ofNat_lt.2 hx) ho.1 ho.2, Int.toNat_natCast]
  unfold getI onesI
  rw [Int.toNat_natCast, Int.toNat_natCast, get_code]

/-- 2 to the power of n, as the reference makes it -/
def powI (n : Int) : Int := ((2 ^ n.toNat : Nat) : Int)
theorem powI_pos (n : Int) : 1 ≤ powI n := by unfold powI; have := Nat.two_pow_pos n.toNat; omega
theorem powI_le {n m : Int} (h : n ≤ m) : powI n ≤ powI m := by
  unfold powI; exact Int.ofNat_le.2 (Nat.pow_le_pow_right (by decide) (by omega))
theorem powI_63 {n : Int} (h : n ≤ 63) : powI n ≤ 9223372036854775808 := powI_le h
theorem powI_32 {n : Int} (h : n ≤ 32) : powI n ≤ 4294967296 := powI_le h
theorem powI_succ {k : Nat} : powI ((k + 1 : Nat) : Int) = 2 * powI (k : Int) := by
  unfold powI; simp only [Int.toNat_natCast, Nat.pow_succ]; omega

/-- a mask, as the code makes it -/
def maskI (l n : Int) : Int := (((2 ^ n.toNat - 1) * 2 ^ l.toNat : Nat) : Int)
theorem mask_le {l n : Nat} (h : l + n ≤ 32) : (2 ^ n - 1) * 2 ^ l ≤ 4294967295 := by
  have h1 : 2 ^ (l + n) ≤ 2 ^ 32 := Nat.pow_le_pow_right (by decide) h
  have e : 2 ^ 32 = 4294967296 := by decide
  rw [e, Nat.pow_add] at h1
  have h2 : (2 ^ n - 1) * 2 ^ l = 2 ^ l * 2 ^ n - 2 ^ l := by rw [Nat.sub_mul, Nat.one_mul, Nat.mul_comm]
  have := Nat.two_pow_pos l
  omega
theorem maskI_bd {l n : Int} (h1 : 0 ≤ l) (h3 : 1 ≤ n) (h5 : l + n ≤ 32) : 0 ≤ maskI l n ∧ maskI l n < 4294967296 := by
  unfold maskI
  have := mask_le (l := l.toNat) (n := n.toNat) (by omega)
  omega
theorem mask_val {l n : Int} (h1 : 0 ≤ l) (h3 : 1 ≤ n) (h5 : l + n ≤ 32) : IntKind.u32.wrap (onesI n * 2 ^ l.toNat) = maskI l n := by
  have hb := maskI_bd h1 h3 h5
  have c : onesI n * 2 ^ l.toNat = maskI l n := by unfold onesI maskI; simp
  rw [c, IntKind.wrap_u32']
  omega

theorem over_iff {v n : Int} (b1 : 0 ≤ v) (b2 : v < 4294967296) (h4 : n ≤ 32) : bits .andNot .u32 v (onesI n) = 0 ↔ v < powI n := by
  obtain ⟨V, rfl⟩ := Int.eq_ofNat_of_zero_le b1
  have ho := onesI_bd h4
  rw [u32_andNot _ _ b1 b2 ho.1 ho.2]
  have h := over_code 32 V n.toNat (by have e : 2 ^ 32 = 4294967296 := by decide
                                       rw [e]; omega) (by omega)
  have e2 : 2 ^ 32 - 1 = 4294967295 := by decide
  rw [e2] at h
  unfold onesI powI
  rw [Int.toNat_natCast, Int.toNat_natCast]
  constructor
  · intro g; exact Int.ofNat_lt.2 (h.1 (by omega))
  · intro g; rw [h.2 (Int.ofNat_lt.1 g)]; rfl
theorem over_no {v n : Int} (b1 : 0 ≤ v) (b2 : v < 4294967296) (h4 : n ≤ 32) (hv : v < powI n) : (bits .andNot .u32 v (onesI n) != 0) = false := by
  rw [(over_iff b1 b2 h4).2 hv]; rfl
theorem over_yes {v n : Int} (b1 : 0 ≤ v) (b2 : v < 4294967296) (h4 : n ≤ 32) (hv : ¬ v < powI n) : (bits .andNot .u32 v (onesI n) != 0) = true := by
  rw [bne_iff_ne]; exact fun g => hv ((over_iff b1 b2 h4).1 g)

theorem vl_le {v l n : Nat} (hv : v < 2 ^ n) (h : l + n ≤ 32) : v * 2 ^ l ≤ 4294967295 := by
  have h1 := Nat.mul_le_mul_right (2 ^ l) (show v ≤ 2 ^ n - 1 by omega)
  have := mask_le h
  omega
theorem putN_bd {x l n v : Nat} (hx : x < 4294967296) (hv : v < 2 ^ n) (h : l + n ≤ 32) : putN x l n v < 4294967296 := by
  have e : 2 ^ 32 = 4294967296 := by decide
  have := putN_lt x l n v 32 (by rw [e]; exact hx) hv h
  rw [e] at this; exact this
theorem put_val {x l n v : Int} (b1 : 0 ≤ x) (b2 : x < 4294967296) (c1 : 0 ≤ v) (hv : v < powI n) (h1 : 0 ≤ l) (h3 : 1 ≤ n) (h5 : l + n ≤ 32) :
    bits .or .u32 (bits .andNot .u32 x (maskI l n)) (IntKind.u32.wrap (v * 2 ^ l.toNat)) = putI x l n v := by
  obtain ⟨X, rfl⟩ := Int.eq_ofNat_of_zero_le b1
  obtain ⟨V, rfl⟩ := Int.eq_ofNat_of_zero_le c1
  have hm := maskI_bd h1 h3 h5
  have hv' : V < 2 ^ n.toNat := Int.ofNat_lt.1 hv
  have hs := vl_le hv' (show l.toNat + n.toNat ≤ 32 by omega)
  have c : (V : Int) * 2 ^ l.toNat = ((V * 2 ^ l.toNat : Nat) : Int) := by simp
  have cw : IntKind.u32.wrap ((V * 2 ^ l.toNat : Nat) : Int) = ((V * 2 ^ l.toNat : Nat) : Int) := by rw [IntKind.wrap_u32']; omega
  rw [c, cw, u32_andNot _ _ b1 b2 hm.1 hm.2]
  have ha : (X : Int).toNat &&& (4294967295 - (maskI l n).toNat) < 4294967296 := Nat.lt_of_le_of_lt Nat.and_le_left (by omega)
  rw [u32_or _ _ (Int.natCast_nonneg _) (by exact Int.ofNat_lt.2 ha) (Int.natCast_nonneg _) (by omega)]
  have e : 2 ^ 32 = 4294967296 := by decide
  have hc := put_code 32 X l.toNat n.toNat V (by rw [e]; omega) hv' (by omega)
  rw [show 2 ^ 32 - 1 = 4294967295 by decide] at hc
  unfold maskI putI
  simp only [Int.toNat_natCast]
  rw [hc]

/-- as the reference reckons them -/
theorem rget_val {x l n : Int} (b1 : 0 ≤ x) (b2 : x < 4294967296) : x / powI l % powI n % 4294967296 = getI x l n := by
  obtain ⟨X, rfl⟩ := Int.eq_ofNat_of_zero_le b1
  have h : getN X l.toNat n.toNat < 4294967296 := Nat.lt_of_le_of_lt (Nat.mod_le _ _) (Nat.lt_of_le_of_lt (Nat.div_le_self _ _) (by omega))
  have c : (X : Int) / powI l % powI n = ((getN X l.toNat n.toNat : Nat) : Int) := by unfold powI getN; simp
  rw [c]; unfold getI; rw [Int.toNat_natCast]; omega
theorem getI_bd {x l n : Int} (b1 : 0 ≤ x) (b2 : x < 4294967296) : 0 ≤ getI x l n ∧ getI x l n < 4294967296 := by
  have h : getN x.toNat l.toNat n.toNat < 4294967296 := Nat.lt_of_le_of_lt (Nat.mod_le _ _) (Nat.lt_of_le_of_lt (Nat.div_le_self _ _) (by omega))
  unfold getI; omega
theorem putI_bd {x l n v : Int} (b1 : 0 ≤ x) (b2 : x < 4294967296) (c1 : 0 ≤ v) (hv : v < powI n) (h1 : 0 ≤ l) (h3 : 1 ≤ n) (h5 : l + n ≤ 32) : 0 ≤ putI x l n v ∧ putI x l n v < 4294967296 := by
  have hv' : v.toNat < 2 ^ n.toNat := by have : ((2 ^ n.toNat : Nat) : Int) = powI n := rfl; omega
  have := putN_bd (x := x.toNat) (l := l.toNat) (by omega) hv' (show l.toNat + n.toNat ≤ 32 by omega)
  unfold putI; omega
theorem rput_val {x l n v : Int} (b1 : 0 ≤ x) (b2 : x < 4294967296) (c1 : 0 ≤ v) (hv : v < powI n) (h1 : 0 ≤ l) (h3 : 1 ≤ n) (h5 : l + n ≤ 32) :
    IntKind.u64.wrap (IntKind.u64.wrap (x - IntKind.u64.wrap (getI x l n * powI l)) + IntKind.u64.wrap (v * powI l)) % 4294967296 = putI x l n v := by
  have hb := putI_bd b1 b2 c1 hv h1 h3 h5
  have hg : getI x l n * powI l ≤ x := by
    have h := split3 x.toNat l.toNat n.toNat
    have : getI x l n * powI l = ((2 ^ l.toNat * getN x.toNat l.toNat n.toNat : Nat) : Int) := by unfold getI powI; rw [← Int.natCast_mul, Nat.mul_comm]
    omega
  have hg0 : 0 ≤ getI x l n * powI l := Int.mul_nonneg (getI_bd b1 b2).1 (by have := powI_pos l; omega)
  have hv' : v.toNat < 2 ^ n.toNat := by have : ((2 ^ n.toNat : Nat) : Int) = powI n := rfl; omega
  have hs := vl_le hv' (show l.toNat + n.toNat ≤ 32 by omega)
  have hs' : v * powI l = ((v.toNat * 2 ^ l.toNat : Nat) : Int) := by unfold powI; rw [Int.natCast_mul]; congr 1; omega
  have hp : putI x l n v = x - getI x l n * powI l + v * powI l := by
    have e1 : getI x l n * powI l = ((getN x.toNat l.toNat n.toNat * 2 ^ l.toNat : Nat) : Int) := by unfold getI powI; rw [← Int.natCast_mul]
    have e2 : putI x l n v = ((x.toNat - getN x.toNat l.toNat n.toNat * 2 ^ l.toNat + v.toNat * 2 ^ l.toNat : Nat) : Int) := rfl
    rw [e1] at hg
    rw [hs', e1, e2]
    generalize getN x.toNat l.toNat n.toNat * 2 ^ l.toNat = G at *
    generalize v.toNat * 2 ^ l.toNat = V at *
    omega
  rw [wrap_u64, wrap_u64, wrap_u64, wrap_u64, hp]
  rw [hp] at hb
  generalize getI x l n * powI l = G at *
  generalize v * powI l = V at *
  omega

end Go.Proofs.YtjkhgljlipljdaaDoor.Bit
namespace Go.Proofs.YtjkhgljlipljdaaDoor.Bit
open Go.RowKit BM
set_option maxHeartbeats 400000 in
theorem fieldOnes_any (l n : Int) (w : World) (h1 : 1 ≤ n) (h2 : n ≤ 32) :
    Calls Tryd.prog 87 #[.agg #[.int .i64 l, .int .i64 n]] w fun e w' => e = .returned (.int .u32 (onesI n)) ∧ Below w.heap.size w w' := by
  go_enter Tryd.func87, Tryd.ntmps87
  go_wp2
  go_ret
  exact ⟨ret1 (ones_code32 h2), (Below.refl _ _).alloc (Nat.le_refl _) _⟩

set_option maxHeartbeats 400000 in
theorem lies_yes (l n : Int) (w : World) (h1 : 0 ≤ l) (h2 : l < 32) (h3 : 1 ≤ n) (h4 : n ≤ 32) (h5 : l + n ≤ 32) :
    Calls Tryd.prog 86 #[.agg #[.int .i64 l, .int .i64 n]] w fun e w' => e = .returned (.bool true) ∧ Below w.heap.size w w' := by
  go_enter Tryd.func86, Tryd.ntmps86
  go_wp2
  go_ret
  exact ⟨ret1b (by first | rfl | (simp; omega)), (Below.refl _ _).alloc (Nat.le_refl _) _⟩
set_option maxHeartbeats 400000 in
theorem lies_no (l n : Int) (w : World) (h : ¬ (0 ≤ l ∧ l < 32 ∧ 1 ≤ n ∧ n ≤ 32 ∧ l + n ≤ 32)) :
    Calls Tryd.prog 86 #[.agg #[.int .i64 l, .int .i64 n]] w fun e w' => e = .returned (.bool false) ∧ Below w.heap.size w w' := by
  have H := Lib.hid h
  clear h
  go_enter Tryd.func86, Tryd.ntmps86
  go_wp2
  all_goals go_ret
  all_goals exact ⟨ret1b (by first | rfl | (have := H.out; simp; omega)), (Below.refl _ _).alloc (Nat.le_refl _) _⟩

set_option maxHeartbeats 400000 in
theorem get_yes (x l n : Int) (w : World) (b1 : 0 ≤ x) (b2 : x < 4294967296) (h1 : 0 ≤ l) (h2 : l < 32) (h3 : 1 ≤ n) (h4 : n ≤ 32) (h5 : l + n ≤ 32) :
    Calls Tryd.prog 74 #[.int .u32 x, .agg #[.int .i64 l, .int .i64 n]] w fun e w' => e = .returned (.tuple #[.int .u32 (getI x l n), .int .i64 0]) ∧ Below w.heap.size w w' := by
  go_enter Tryd.func74, Tryd.ntmps74
  go_wp2_with (go_at_call 86; refine (lies_yes l n _ h1 h2 h3 h4 h5).mono ?_; rintro e w1 ⟨rfl, hb⟩; obtain ⟨hc, hf⟩ := bcell hb; have hz := hb.size)
  go_region_held3 (fun w' => (w'.cell? ⟨w.heap.size, 0, none⟩ = some (.int .i64 l) ∧ w'.cell? ⟨w.heap.size, 1, none⟩ = some (.int .i64 n)) ∧ w.heap.size < w'.heap.size ∧ Below w.heap.size w w') (first | exact two_start (by assumption) | exact two_keep (by assumption) (by assumption))
    ((go_at_call 87; refine (fieldOnes_any l n _ h3 h4).mono ?_; rintro e w1 ⟨rfl, hb⟩; obtain ⟨hc, hf⟩ := bcell hb))
  go_wp2
  go_ret2
  rename_i hS
  exact ⟨ret2 (get_val b1 b2 h4), hS.2.2⟩

end Go.Proofs.YtjkhgljlipljdaaDoor.Bit
namespace Go.Proofs.YtjkhgljlipljdaaDoor.Bit
open Go.RowKit BM
theorem pow_mul {k : Nat} (hk : k < 63) : IntKind.u64.wrap (powI (k : Int) * 2) = powI ((k + 1 : Nat) : Int) := by
  have h := powI_succ (k := k)
  have := powI_63 (n := ((k + 1 : Nat) : Int)) (by omega)
  have := powI_pos ((k + 1 : Nat) : Int)
  rw [wrap_u64, h]; omega

set_option maxHeartbeats 400000 in
theorem pow_any (n : Int) (w : World) (h1 : 0 ≤ n) (h2 : n ≤ 63) :
    Calls Tryd.prog 60 #[.int .i64 n] w fun e w' => e = .returned (.int .u64 (powI n)) ∧ w = w' := by
  go_enter Tryd.func60, Tryd.ntmps60
  go_wp2
  go_loop [3, 4] (fun v i => ∃ k : Nat, (k : Int) ≤ n ∧ i = .int .i64 k ∧ v = .int .u64 (powI k)) (fun _ i => (n - intOf i).toNat)
  case atStart => exact ⟨0, h1, rfl, rfl⟩
  case round =>
    obtain ⟨k, hk, rfl, rfl⟩ := hrel
    by_cases hlt : (k : Int) < n
    · have hm := Lib.hid (pow_mul (k := k) (by omega))
      go_wp2
      go_round
      case rel => exact ⟨k + 1, by omega, by go_num, by rw [hm.out]⟩
      case measure => simp [intOf]; omega
    · go_wp2
      go_ret
      exact ⟨ret1 (by rw [show (k : Int) = n by omega]), rfl⟩

set_option maxHeartbeats 400000 in
theorem rlies_yes (l n : Int) (w : World) (h1 : 0 ≤ l) (h2 : l < 32) (h3 : 1 ≤ n) (h4 : n ≤ 32) (h5 : l + n ≤ 32) :
    Calls Tryd.prog 85 #[.agg #[.int .i64 l, .int .i64 n]] w fun e w' => e = .returned (.bool true) ∧ Below w.heap.size w w' := by
  go_enter Tryd.func85, Tryd.ntmps85
  have h6 : n ≤ 32 - l := by omega
  go_wp2
  go_ret
  exact ⟨ret1b (by first | rfl | (simp; omega)), (Below.refl _ _).alloc (Nat.le_refl _) _⟩
set_option maxHeartbeats 400000 in
theorem rlies_no (l n : Int) (w : World) (h : ¬ (0 ≤ l ∧ l < 32 ∧ 1 ≤ n ∧ n ≤ 32 ∧ l + n ≤ 32)) :
    Calls Tryd.prog 85 #[.agg #[.int .i64 l, .int .i64 n]] w fun e w' => e = .returned (.bool false) ∧ Below w.heap.size w w' := by
  have H := Lib.hid h
  clear h
  go_enter Tryd.func85, Tryd.ntmps85
  go_wp2
  all_goals go_ret
  all_goals exact ⟨ret1b (by first | rfl | (have := H.out; simp; omega)), (Below.refl _ _).alloc (Nat.le_refl _) _⟩
/-- nothing that lay there has changed -/
theorem get_no (x l n : Int) (w : World) (h : ¬ (0 ≤ l ∧ l < 32 ∧ 1 ≤ n ∧ n ≤ 32 ∧ l + n ≤ 32)) :
    Calls Tryd.prog 74 #[.int .u32 x, .agg #[.int .i64 l, .int .i64 n]] w fun e w' => e = .returned (.tuple #[.int .u32 0, .int .i64 10]) ∧ Below w.heap.size w w' := by
  have H := Lib.hid h
  clear h
  go_enter Tryd.func74, Tryd.ntmps74
  go_wp2_with (go_at_call 86; refine (lies_no l n _ H.out).mono ?_; rintro e w1 ⟨rfl, hb⟩)
  go_ret2
  exact ⟨rfl, Below.thn (by repeat (first | exact Below.refl _ _ | apply Below.drew | refine Below.alloc ?_ (by simp) _)) (by simp) hb⟩
theorem rget_no (x l n : Int) (w : World) (h : ¬ (0 ≤ l ∧ l < 32 ∧ 1 ≤ n ∧ n ≤ 32 ∧ l + n ≤ 32)) :
    Calls Tryd.prog 77 #[.int .u32 x, .agg #[.int .i64 l, .int .i64 n]] w fun e w' => e = .returned (.tuple #[.int .u32 0, .int .i64 10]) ∧ Below w.heap.size w w' := by
  have H := Lib.hid h
  clear h
  go_enter Tryd.func77, Tryd.ntmps77
  go_wp2_with (go_at_call 85; refine (rlies_no l n _ H.out).mono ?_; rintro e w1 ⟨rfl, hb⟩)
  go_ret2
  exact ⟨rfl, Below.thn (by repeat (first | exact Below.refl _ _ | apply Below.drew | refine Below.alloc ?_ (by simp) _)) (by simp) hb⟩
theorem rput_no (x l n v : Int) (w : World) (h : ¬ (0 ≤ l ∧ l < 32 ∧ 1 ≤ n ∧ n ≤ 32 ∧ l + n ≤ 32)) :
    Calls Tryd.prog 72 #[.int .u32 x, .agg #[.int .i64 l, .int .i64 n], .int .u32 v] w fun e w' => e = .returned (.tuple #[.int .u32 0, .int .i64 10]) ∧ Below w.heap.size w w' := by
  have H := Lib.hid h
  clear h
  go_enter Tryd.func72, Tryd.ntmps72
  go_wp2_with (go_at_call 85; refine (rlies_no l n _ H.out).mono ?_; rintro e w1 ⟨rfl, hb⟩)
  go_ret2
  exact ⟨rfl, Below.thn (by repeat (first | exact Below.refl _ _ | apply Below.drew | refine Below.alloc ?_ (by simp) _)) (by simp) hb⟩
end Go.Proofs.YtjkhgljlipljdaaDoor.Bit
namespace Go.Proofs.YtjkhgljlipljdaaDoor.Bit
open Go.RowKit BM

theorem onesI_bd64 {n : Int} (h : n ≤ 64) : 0 ≤ onesI n ∧ onesI n < 18446744073709551616 := by
  unfold onesI
  have h1 : 2 ^ n.toNat ≤ 2 ^ 64 := Nat.pow_le_pow_right (by decide) (by omega)
  have e : 2 ^ 64 = 18446744073709551616 := by decide
  rw [e] at h1
  have := Nat.two_pow_pos n.toNat
  omega
theorem ones_code64 {n : Int} (h : n ≤ 64) : IntKind.u64.wrap (IntKind.u64.wrap (2 ^ n.toNat) - 1) = onesI n := by
  have h1 : 2 ^ n.toNat ≤ 2 ^ 64 := Nat.pow_le_pow_right (by decide) (by omega)
  have e : 2 ^ 64 = 18446744073709551616 := by decide
  rw [e] at h1
  have hq := Nat.two_pow_pos n.toNat
  have c : (2 : Int) ^ n.toNat = ((2 ^ n.toNat : Nat) : Int) := by simp
  unfold onesI
  rw [wrap_u64, wrap_u64, c]
  generalize 2 ^ n.toNat = X at *
  omega
theorem ones_past {n : Int} (h : 64 < n) : IntKind.u64.wrap (IntKind.u64.wrap (2 ^ min n.toNat 64) - 1) = onesI 64 := by
  rw [show min n.toNat 64 = (64 : Int).toNat by omega]
  exact ones_code64 (Int.le_refl _)

theorem over64_iff {v n : Int} (b1 : 0 ≤ v) (b2 : v < 18446744073709551616) (h4 : n ≤ 64) : bits .andNot .u64 v (onesI n) = 0 ↔ v < powI n := by
  obtain ⟨V, rfl⟩ := Int.eq_ofNat_of_zero_le b1
  have ho := onesI_bd64 h4
  rw [u64_andNot _ _ b1 b2 ho.1 ho.2]
  have h := over_code 64 V n.toNat (by have e : 2 ^ 64 = 18446744073709551616 := by decide
                                       rw [e]; omega) (by omega)
  have e2 : 2 ^ 64 - 1 = 18446744073709551615 := by decide
  rw [e2] at h
  unfold onesI powI
  rw [Int.toNat_natCast, Int.toNat_natCast]
  constructor
  · intro g; exact Int.ofNat_lt.2 (h.1 (by omega))
  · intro g; rw [h.2 (Int.ofNat_lt.1 g)]; rfl
theorem over64_no {v n : Int} (b1 : 0 ≤ v) (b2 : v < 18446744073709551616) (h4 : n ≤ 64) (hv : v < powI n) : (bits .andNot .u64 v (onesI n) != 0) = false := by
  rw [(over64_iff b1 b2 h4).2 hv]; rfl
theorem over64_yes {v n : Int} (b1 : 0 ≤ v) (b2 : v < 18446744073709551616) (h4 : n ≤ 64) (hv : ¬ v < powI n) : (bits .andNot .u64 v (onesI n) != 0) = true := by
  rw [bne_iff_ne]; exact fun g => hv ((over64_iff b1 b2 h4).1 g)

/-- a number turned to the right by r places -/
def turnI (v n r : Int) : Int := ((turnN v.toNat n.toNat r.toNat : Nat) : Int)
theorem lt_pow {v n : Int} (b1 : 0 ≤ v) (hv : v < powI n) : v.toNat < 2 ^ n.toNat := by
  have : ((2 ^ n.toNat : Nat) : Int) = powI n := rfl
  omega
theorem pow64 {n : Nat} (h : n ≤ 64) : 2 ^ n ≤ 18446744073709551616 := by
  have h1 : 2 ^ n ≤ 2 ^ 64 := Nat.pow_le_pow_right (by decide) h
  have e : 2 ^ 64 = 18446744073709551616 := by decide
  rw [e] at h1; exact h1
theorem turnI_bd {v n r : Int} (b1 : 0 ≤ v) (hv : v < powI n) (h2 : n ≤ 64) (r1 : r ≤ n) : 0 ≤ turnI v n r ∧ turnI v n r < powI n ∧ turnI v n r < 18446744073709551616 := by
  have h := turnN_lt (lt_pow b1 hv) (show r.toNat ≤ n.toNat by omega)
  have h3 := pow64 (n := n.toNat) (by omega)
  unfold turnI powI
  omega
theorem turn_val {v n r : Int} (b1 : 0 ≤ v) (hv : v < powI n) (h2 : n ≤ 64) (r0 : 0 ≤ r) (r1 : r < n) :
    bits .and .u64 (bits .or .u64 (v / 2 ^ r.toNat) (IntKind.u64.wrap (v * 2 ^ (n - r).toNat))) (onesI n) = turnI v n r := by
  have hv' := lt_pow b1 hv
  obtain ⟨V, rfl⟩ := Int.eq_ofNat_of_zero_le b1
  rw [Int.toNat_natCast] at hv'
  have hp := pow64 (n := n.toNat) (by omega)
  have ho := onesI_bd64 h2
  have c1 : ((V : Int) / 2 ^ r.toNat) = ((V / 2 ^ r.toNat : Nat) : Int) := by simp
  have c2 : (V : Int) * 2 ^ (n - r).toNat = ((V * 2 ^ (n - r).toNat : Nat) : Int) := by simp
  have hx : V / 2 ^ r.toNat < 18446744073709551616 := Nat.lt_of_le_of_lt (Nat.div_le_self _ _) (by omega)
  have hy : V * 2 ^ (n - r).toNat % 18446744073709551616 < 18446744073709551616 := Nat.mod_lt _ (by decide)
  have cw : IntKind.u64.wrap ((V * 2 ^ (n - r).toNat : Nat) : Int) = ((V * 2 ^ (n - r).toNat % 18446744073709551616 : Nat) : Int) := by rw [wrap_u64]; omega
  rw [c1, c2, cw, u64_or _ _ (Int.natCast_nonneg _) (by exact Int.ofNat_lt.2 hx) (Int.natCast_nonneg _) (by exact Int.ofNat_lt.2 hy), Int.toNat_natCast, Int.toNat_natCast]
  have e : 2 ^ 64 = 18446744073709551616 := by decide
  have hz : V / 2 ^ r.toNat ||| V * 2 ^ (n - r).toNat % 18446744073709551616 < 18446744073709551616 := by
    have := Nat.or_lt_two_pow (x := V / 2 ^ r.toNat) (y := V * 2 ^ (n - r).toNat % 18446744073709551616) (n := 64) (by rw [e]; exact hx) (by rw [e]; exact hy)
    rw [e] at this; exact this
  rw [u64_and _ _ (Int.natCast_nonneg _) (by exact Int.ofNat_lt.2 hz) ho.1 ho.2, Int.toNat_natCast]
  have hc := turn_code hv' (show n.toNat ≤ 64 by omega) (show r.toNat < n.toNat by omega)
  rw [e, show n.toNat - r.toNat = (n - r).toNat by omega] at hc
  unfold onesI turnI
  rw [Int.toNat_natCast, Int.toNat_natCast, hc]
theorem sign_val {v n : Int} (b1 : 0 ≤ v) (h1 : 1 ≤ n) (h2 : n ≤ 64) : wrap64 (IntKind.u64.wrap (v * 2 ^ (64 - n).toNat)) / 2 ^ (64 - n).toNat = sgn v.toNat n.toNat := by
  obtain ⟨V, rfl⟩ := Int.eq_ofNat_of_zero_le b1
  have e : 2 ^ 64 = 18446744073709551616 := by decide
  have c2 : (V : Int) * 2 ^ (64 - n).toNat = ((V * 2 ^ (64 - n).toNat : Nat) : Int) := by simp
  have cw : IntKind.u64.wrap ((V * 2 ^ (64 - n).toNat : Nat) : Int) = ((V * 2 ^ (64 - n).toNat % 18446744073709551616 : Nat) : Int) := by rw [wrap_u64]; omega
  have hs := sign_code (v := V) (n := n.toNat) (by omega) (by omega)
  rw [e, show 64 - n.toNat = (64 - n).toNat by omega, IntKind.wrap_i64] at hs
  rw [c2, cw, Int.toNat_natCast]
  unfold wrap64
  exact hs

set_option maxHeartbeats 400000 in
theorem ones_any (n : Int) (w : World) (h1 : 0 ≤ n) (h2 : n ≤ 64) :
    Calls Tryd.prog 97 #[.int .i64 n] w fun e w' => e = .returned (.int .u64 (onesI n)) ∧ w = w' := by
  go_enter Tryd.func97, Tryd.ntmps97
  go_wp2
  go_ret
  exact ⟨ret1 (ones_code64 h2), rfl⟩
set_option maxHeartbeats 400000 in
theorem ones_neg (n : Int) (w : World) (h1 : ¬ 0 ≤ n) :
    Calls Tryd.prog 97 #[.int .i64 n] w fun e w' => e = .returned (.int .u64 0) ∧ w = w' := by
  go_enter Tryd.func97, Tryd.ntmps97
  go_wp2
  go_ret
  exact ⟨rfl, rfl⟩
set_option maxHeartbeats 400000 in
theorem ones_over (n : Int) (w : World) (h1 : 64 < n) :
    Calls Tryd.prog 97 #[.int .i64 n] w fun e w' => e = .returned (.int .u64 (onesI 64)) ∧ w = w' := by
  have h0 : 0 ≤ n := by omega
  go_enter Tryd.func97, Tryd.ntmps97
  go_wp2
  go_ret
  exact ⟨ret1 (ones_past h1), rfl⟩

set_option maxHeartbeats 400000 in
theorem isW_yes (n : Int) (w : World) (h1 : 1 ≤ n) (h2 : n ≤ 64) :
    Calls Tryd.prog 81 #[.int .i64 n] w fun e w' => e = .returned (.bool true) ∧ w = w' := by
  go_enter Tryd.func81, Tryd.ntmps81
  go_wp2
  go_ret
  exact ⟨ret1b (by first | rfl | (simp; omega)), rfl⟩
set_option maxHeartbeats 400000 in
theorem isW_no (n : Int) (w : World) (h : n < 1 ∨ 64 < n) :
    Calls Tryd.prog 81 #[.int .i64 n] w fun e w' => e = .returned (.bool false) ∧ w = w' := by
  have H := Lib.hid h
  clear h
  go_enter Tryd.func81, Tryd.ntmps81
  go_wp2
  all_goals go_ret
  all_goals exact ⟨ret1b (by first | rfl | (have := H.out; simp; omega)), rfl⟩

set_option maxHeartbeats 400000 in
theorem sign_yes (v n : Int) (w : World) (b1 : 0 ≤ v) (h1 : 1 ≤ n) (h2 : n ≤ 64) :
    Calls Tryd.prog 75 #[.int .u64 v, .int .i64 n] w fun e w' => e = .returned (.tuple #[.int .i64 (sgn v.toNat n.toNat), .int .i64 0]) ∧ w = w' := by
  go_enter Tryd.func75, Tryd.ntmps75
  go_wp2
  go_ret2
  exact ⟨ret2 (sign_val b1 h1 h2), rfl⟩
set_option maxHeartbeats 400000 in
theorem sign_no (v n : Int) (w : World) (h : n < 1 ∨ 64 < n) :
    Calls Tryd.prog 75 #[.int .u64 v, .int .i64 n] w fun e w' => e = .returned (.tuple #[.int .i64 0, .int .i64 10]) ∧ w = w' := by
  have H := Lib.hid h
  clear h
  go_enter Tryd.func75, Tryd.ntmps75
  go_wp2_with (go_at_call 81; refine (isW_no _ _ H.out).mono ?_; rintro e w1 ⟨rfl, rfl⟩)
  go_ret2
  exact ⟨rfl, rfl⟩

/-- how far by turns a number of n bits to the right -/
def rot (b n : Int) : Int := if b.tmod n < 0 then b.tmod n + n else b.tmod n
theorem tmod_bd {b n : Int} (h1 : 1 ≤ n) : -n < b.tmod n ∧ b.tmod n < n := by
  constructor
  · have h2 := Int.tmod_lt_of_pos (-b) (show 0 < n by omega)
    rw [Int.neg_tmod] at h2; omega
  · exact Int.tmod_lt_of_pos b (by omega)
theorem rot_bd {b n : Int} (h1 : 1 ≤ n) : 0 ≤ rot b n ∧ rot b n < n := by
  have := tmod_bd (b := b) h1
  unfold rot; split <;> omega
end Go.Proofs.YtjkhgljlipljdaaDoor.Bit
namespace Go.Proofs.YtjkhgljlipljdaaDoor.Bit
open Go.RowKit BM

set_option maxHeartbeats 400000 in
theorem rget_yes (x l n : Int) (w : World) (b1 : 0 ≤ x) (b2 : x < 4294967296) (h1 : 0 ≤ l) (h2 : l < 32) (h3 : 1 ≤ n) (h4 : n ≤ 32) (h5 : l + n ≤ 32) :
    Calls Tryd.prog 77 #[.int .u32 x, .agg #[.int .i64 l, .int .i64 n]] w fun e w' => e = .returned (.tuple #[.int .u32 (getI x l n), .int .i64 0]) ∧ Below w.heap.size w w' := by
  have p1 := powI_pos l
  have p2 := powI_pos n
  have p3 : 0 ≤ x / powI l := Int.ediv_nonneg b1 (by omega)
  go_enter Tryd.func77, Tryd.ntmps77
  go_wp2_with (go_at_call 85; refine (rlies_yes l n _ h1 h2 h3 h4 h5).mono ?_; rintro e w1 ⟨rfl, hb⟩; obtain ⟨hc, hf⟩ := bcell hb; have hz := hb.size)
  go_quiet ((go_at_call 60; exact quiet_eq (pow_any _ _ (by omega) (by omega))))
  go_wp2
  go_ret2
  exact ⟨ret2 (rget_val b1 b2), below_drewN (Below.thn ((Below.refl _ _).alloc (Nat.le_refl _) _) (by simp) hb) _⟩

set_option maxHeartbeats 400000 in
theorem rput_over (x l n v : Int) (w : World) (c1 : 0 ≤ v) (c2 : v < 4294967296) (h1 : 0 ≤ l) (h2 : l < 32) (h3 : 1 ≤ n) (h4 : n ≤ 32) (h5 : l + n ≤ 32) (hv : ¬ v < powI n) :
    Calls Tryd.prog 72 #[.int .u32 x, .agg #[.int .i64 l, .int .i64 n], .int .u32 v] w fun e w' => e = .returned (.tuple #[.int .u32 0, .int .i64 7]) ∧ Below w.heap.size w w' := by
  have hv' : powI n ≤ v := by omega
  go_enter Tryd.func72, Tryd.ntmps72
  go_wp2_with (first | (go_at_call 85; refine (rlies_yes l n _ h1 h2 h3 h4 h5).mono ?_; rintro e w1 ⟨rfl, hb⟩; obtain ⟨hc, hf⟩ := bcell hb; have hz := hb.size) | (go_at_call 60; refine (pow_any _ _ (by omega) (by omega)).mono ?_; rintro e w2 ⟨rfl, rfl⟩))
  go_ret2
  exact ⟨rfl, Below.thn ((Below.refl _ _).alloc (Nat.le_refl _) _) (by simp) hb⟩

set_option maxRecDepth 100000 in
set_option maxHeartbeats 400000 in
theorem rput_yes (x l n v : Int) (w : World) (b1 : 0 ≤ x) (b2 : x < 4294967296) (c1 : 0 ≤ v) (c2 : v < 4294967296) (h1 : 0 ≤ l) (h2 : l < 32) (h3 : 1 ≤ n) (h4 : n ≤ 32) (h5 : l + n ≤ 32) (hv : v < powI n) :
    Calls Tryd.prog 72 #[.int .u32 x, .agg #[.int .i64 l, .int .i64 n], .int .u32 v] w fun e w' => e = .returned (.tuple #[.int .u32 (putI x l n v), .int .i64 0]) ∧ Below w.heap.size w w' := by
  have BB := Lib.hid (And.intro b1 b2)
  clear b1 b2
  go_enter Tryd.func72, Tryd.ntmps72
  go_wp2_with (first | (go_at_call 85; refine (rlies_yes l n _ h1 h2 h3 h4 h5).mono ?_; rintro e w1 ⟨rfl, hb⟩; obtain ⟨hc, hf⟩ := bcell hb; have hz := hb.size) | (go_at_call 60; refine (pow_any _ _ (by omega) (by omega)).mono ?_; rintro e w2 ⟨rfl, rfl⟩) | (go_at_call 77; refine (rget_yes x l n _ BB.out.1 BB.out.2 h1 h2 h3 h4 h5).mono ?_; rintro e w3 ⟨rfl, hb3⟩; obtain ⟨hc3, hf3⟩ := bcell hb3))
  obtain ⟨b1, b2⟩ := BB.out
  obtain ⟨g1, g2⟩ := getI_bd (l := l) (n := n) b1 b2
  obtain ⟨⟨k0, k1⟩, kz, kB⟩ := two_keep hb3 (two_start0 hb)
  have e1 : IntKind.u64.wrap x = x := by rw [wrap_u64]; omega
  have e2 : IntKind.u64.wrap (getI x l n) = getI x l n := by rw [wrap_u64]; omega
  have e3 : IntKind.u64.wrap v = v := by rw [wrap_u64]; omega
  clear hc3 hf3 hc hf
  go_quiet ((go_at_call 60; exact quiet_eq (pow_any _ _ (by omega) (by omega))))
  go_wp2
  go_ret2
  exact ⟨ret2 (rput_val b1 b2 c1 hv h1 h3 h5), below_drewN (Below.thn (Below.thn ((Below.refl _ _).alloc (Nat.le_refl _) _) (by simp) hb) (by simp at hz ⊢; omega) hb3) _⟩

theorem live_put : putI 0 4 3 5 = 80 := by decide
theorem live_sign : sgn (255 : Int).toNat (8 : Int).toNat = -1 := by decide
theorem live_turn : turnI 1 4 (rot 1 4) = 8 := by decide
end Go.Proofs.YtjkhgljlipljdaaDoor.Bit
namespace Go.Proofs.YtjkhgljlipljdaaDoor.Bit
open Go.RowKit BM

/-! ### a bit, the lowest bits -/
def bitI (v n : Int) : Int := ((v.toNat / 2 ^ n.toNat % 2 : Nat) : Int)
theorem bitI_bd (v n : Int) : 0 ≤ bitI v n ∧ bitI v n ≤ 1 := by unfold bitI; omega
theorem bit_val {v n : Int} (b1 : 0 ≤ v) (b2 : v < 18446744073709551616) : (IntKind.u64.wrap (v.tdiv (powI n))).tmod 2 = bitI v n := by
  obtain ⟨V, rfl⟩ := Int.eq_ofNat_of_zero_le b1
  have c : (V : Int).tdiv (powI n) = ((V / 2 ^ n.toNat : Nat) : Int) := by
    unfold powI; rw [Int.tdiv_eq_ediv_of_nonneg (Int.natCast_nonneg _)]; simp
  have hx : V / 2 ^ n.toNat < 18446744073709551616 := Nat.lt_of_le_of_lt (Nat.div_le_self _ _) (by omega)
  rw [c, wrap_u64]
  unfold bitI
  rw [Int.toNat_natCast]
  generalize V / 2 ^ n.toNat = X at *
  rw [show (X : Int) % 18446744073709551616 = (X : Int) by omega, Int.tmod_eq_emod_of_nonneg (by omega)]
  omega

set_option maxHeartbeats 400000 in
theorem bit_any (v n : Int) (w : World) (b1 : 0 ≤ v) (b2 : v < 18446744073709551616) (h1 : 0 ≤ n) (h2 : n ≤ 63) :
    Calls Tryd.prog 76 #[.int .u64 v, .int .i64 n] w fun e w' => e = .returned (.int .u64 (bitI v n)) ∧ w = w' := by
  have B := Lib.hid (And.intro b1 b2)
  clear b1 b2
  go_enter Tryd.func76, Tryd.ntmps76
  have pn := Lib.hid (powI_pos n)
  go_wp2_with (go_at_call 60; refine (pow_any _ _ (by omega) (by omega)).mono ?_; rintro e w1 ⟨rfl, rfl⟩; have p := pn.out)
  go_ret
  exact ⟨ret1 (bit_val B.out.1 B.out.2), rfl⟩
set_option maxHeartbeats 400000 in
theorem low_any (v n : Int) (w : World) (b1 : 0 ≤ v) (h1 : 0 ≤ n) (h2 : n < 64) :
    Calls Tryd.prog 29 #[.int .u64 v, .int .i64 n] w fun e w' => e = .returned (.int .u64 (v % powI n)) ∧ w = w' := by
  have p := powI_pos n
  go_enter Tryd.func29, Tryd.ntmps29
  go_wp2_with (go_at_call 60; refine (pow_any _ _ (by omega) (by omega)).mono ?_; rintro e w1 ⟨rfl, rfl⟩)
  go_ret
  exact ⟨rfl, rfl⟩
set_option maxHeartbeats 400000 in
theorem low_big (v n : Int) (w : World) (h2 : 64 ≤ n) :
    Calls Tryd.prog 29 #[.int .u64 v, .int .i64 n] w fun e w' => e = .returned (.int .u64 v) ∧ w = w' := by
  go_enter Tryd.func29, Tryd.ntmps29
  go_wp2
  go_ret
  exact ⟨rfl, rfl⟩

/-! ### Ones -/
theorem ones_succ {k : Nat} (hk : k < 64) : IntKind.u64.wrap (IntKind.u64.wrap (onesI (k : Int) * 2) + 1) = onesI ((k + 1 : Nat) : Int) := by
  have h := pow64 (n := k + 1) (by omega)
  rw [wrap_u64, wrap_u64]
  unfold onesI
  simp only [Int.toNat_natCast]
  have e : 2 ^ (k + 1) = 2 * 2 ^ k := by rw [Nat.pow_succ]; omega
  have hp := Nat.two_pow_pos k
  rw [e] at h ⊢
  generalize 2 ^ k = X at *
  omega
/-! ### Fits -/
def fitsB (v n : Int) (s : Bool) : Bool := if s then decide (-(powI (n - 1)) ≤ v ∧ v < powI (n - 1)) else decide (0 ≤ v ∧ v < powI n)
theorem powI_sub {n : Int} : powI n = (2 : Int) ^ n.toNat := by unfold powI; simp
theorem fits_sv {v n : Int} (h1 : 1 ≤ n) : (v / 2 ^ (n.toNat - 1) == 0 || v / 2 ^ (n.toNat - 1) == -1) = fitsB v n true := by
  have h := fits_signed (v := v) (m := n.toNat - 1)
  unfold fitsB
  rw [if_pos rfl, powI_sub, show (n - 1).toNat = n.toNat - 1 by omega, Bool.eq_iff_iff]
  simp only [Bool.or_eq_true, beq_iff_eq, decide_eq_true_eq]
  exact h
theorem fits_uv {v n : Int} : (v / 2 ^ n.toNat == 0) = fitsB v n false := by
  have h := fits_unsigned (v := v) (m := n.toNat)
  unfold fitsB
  rw [if_neg (by decide), powI_sub, Bool.eq_iff_iff]
  simp only [beq_iff_eq, decide_eq_true_eq]
  exact h

set_option maxHeartbeats 400000 in
theorem fits_no (v n : Int) (s : Bool) (w : World) (h : n < 1 ∨ 64 < n) :
    Calls Tryd.prog 68 #[.int .i64 v, .int .i64 n, .bool s] w fun e w' => e = .returned (.bool false) ∧ w = w' := by
  have H := Lib.hid h
  clear h
  go_enter Tryd.func68, Tryd.ntmps68
  go_wp2_with (go_at_call 81; refine (isW_no _ _ H.out).mono ?_; rintro e w1 ⟨rfl, rfl⟩)
  go_ret
  exact ⟨rfl, rfl⟩
set_option maxHeartbeats 400000 in
theorem fits_yes (v n : Int) (s : Bool) (w : World) (h1 : 1 ≤ n) (h2 : n ≤ 64) :
    Calls Tryd.prog 68 #[.int .i64 v, .int .i64 n, .bool s] w fun e w' => e = .returned (.bool (fitsB v n s)) ∧ w = w' := by
  cases s
  · have hv := Lib.hid (fits_uv (v := v) (n := n))
    go_enter Tryd.func68, Tryd.ntmps68
    go_wp2
    go_ret
    exact ⟨ret1b hv.out, rfl⟩
  · have hv := fits_sv (v := v) h1
    cases hz : (v / 2 ^ (n.toNat - 1) == 0) <;> cases hy : (v / 2 ^ (n.toNat - 1) == -1)
    all_goals
      rw [hz, hy] at hv
      have ht := Lib.hid hv
      clear hv
      go_enter Tryd.func68, Tryd.ntmps68
      go_wp2
      go_ret
      exact ⟨ret1b ht.out, rfl⟩
set_option maxHeartbeats 400000 in
theorem rfits_no (v n : Int) (s : Bool) (w : World) (h : n < 1 ∨ 64 < n) :
    Calls Tryd.prog 71 #[.int .i64 v, .int .i64 n, .bool s] w fun e w' => e = .returned (.bool false) ∧ w = w' := by
  rcases h with h | h
  · go_enter Tryd.func71, Tryd.ntmps71
    go_wp2
    go_ret
    exact ⟨rfl, rfl⟩
  · have h' : ¬ n < 1 := by omega
    go_enter Tryd.func71, Tryd.ntmps71
    go_wp2
    go_ret
    exact ⟨rfl, rfl⟩
set_option maxHeartbeats 400000 in
theorem rfits_u (v n : Int) (w : World) (b1 : -9223372036854775808 ≤ v) (b2 : v ≤ 9223372036854775807) (h1 : 1 ≤ n) (h2 : n ≤ 64) :
    Calls Tryd.prog 71 #[.int .i64 v, .int .i64 n, .bool false] w fun e w' => e = .returned (.bool (fitsB v n false)) ∧ w = w' := by
  have ef : fitsB v n false = decide (0 ≤ v ∧ v < powI n) := rfl
  rw [ef]
  by_cases hv : 0 ≤ v
  · by_cases hn : n < 63
    · go_enter Tryd.func71, Tryd.ntmps71
      go_wp2_with (go_at_call 60; refine (pow_any _ _ (by omega) (by omega)).mono ?_; rintro e w1 ⟨rfl, rfl⟩)
      go_ret
      exact ⟨ret1b (by simp [hv]; omega), rfl⟩
    · have hn' : 63 ≤ n := by omega
      have hp := Lib.hid (powI_le hn')
      clear hn
      go_enter Tryd.func71, Tryd.ntmps71
      go_wp2
      go_ret
      exact ⟨ret1b (by have := hp.out; have e : powI 63 = 9223372036854775808 := by decide
                       rw [e] at this; simp; omega), rfl⟩
  · have hv' : v < 0 := by omega
    clear hv
    go_enter Tryd.func71, Tryd.ntmps71
    go_wp2
    go_ret
    exact ⟨ret1b (by simp; omega), rfl⟩
set_option maxHeartbeats 400000 in
theorem rfits_s (v n : Int) (w : World) (b1 : -9223372036854775808 ≤ v) (b2 : v ≤ 9223372036854775807) (h1 : 1 ≤ n) (h2 : n ≤ 64) :
    Calls Tryd.prog 71 #[.int .i64 v, .int .i64 n, .bool true] w fun e w' => e = .returned (.bool (fitsB v n true)) ∧ w = w' := by
  have ef : fitsB v n true = decide (-(powI (n - 1)) ≤ v ∧ v < powI (n - 1)) := rfl
  rw [ef]
  have hq := Lib.hid (powI_pos (n - 1))
  by_cases hn : n = 64
  · subst hn
    have e : powI (64 - 1) = 9223372036854775808 := by decide
    rw [e]
    go_enter Tryd.func71, Tryd.ntmps71
    go_wp2
    go_ret
    exact ⟨ret1b (by simp; omega), rfl⟩
  · have hn' : (n == 64) = false := by simp [hn]
    have hn2 : n ≤ 63 := by omega
    clear hn
    by_cases hv : v < 0
    · go_enter Tryd.func71, Tryd.ntmps71
      go_wp2_with (go_at_call 60; refine (pow_any _ _ (by omega) (by omega)).mono ?_; rintro e w1 ⟨rfl, rfl⟩)
      go_ret
      exact ⟨ret1b (by have := hq.out; rw [Bool.eq_iff_iff]; simp only [decide_eq_true_eq]; omega), rfl⟩
    · have hv' : 0 ≤ v := by omega
      clear hv
      go_enter Tryd.func71, Tryd.ntmps71
      go_wp2_with (go_at_call 60; refine (pow_any _ _ (by omega) (by omega)).mono ?_; rintro e w1 ⟨rfl, rfl⟩)
      go_ret
      exact ⟨ret1b (by have := hq.out; rw [Bool.eq_iff_iff]; simp only [decide_eq_true_eq]; omega), rfl⟩
end Go.Proofs.YtjkhgljlipljdaaDoor.Bit
