/-
  Plain arithmetic of fields of words, of numbers turned round, and of signs, over Nat and Int alone. No program is named here. No conditions beyond those that each lemma states.
-/
import Derived.Laws.BitsAllLaws
namespace Go.Proofs.YtfpaambihjijoaaDoor.BM
open Go

/-- the value of a field -/
def getN (w l n : Nat) : Nat := w / 2 ^ l % 2 ^ n
/-- a word with a field's value -/
def putN (w l n v : Nat) : Nat := w - getN w l n * 2 ^ l + v * 2 ^ l

theorem split3 (w l n : Nat) : w = 2 ^ (l + n) * (w / 2 ^ (l + n)) + (2 ^ l * getN w l n + w % 2 ^ l) := by
  unfold getN
  have h1 := Nat.div_add_mod w (2 ^ l)
  have h2 := Nat.div_add_mod (w / 2 ^ l) (2 ^ n)
  have h3 : w / 2 ^ l / 2 ^ n = w / 2 ^ (l + n) := by rw [Nat.div_div_eq_div_mul, Nat.pow_add]
  rw [h3] at h2
  have e1 : 2 ^ (l + n) * (w / 2 ^ (l + n)) = 2 ^ l * (2 ^ n * (w / 2 ^ (l + n))) := by rw [Nat.pow_add, Nat.mul_assoc]
  have e2 : 2 ^ l * (w / 2 ^ l) = 2 ^ l * (2 ^ n * (w / 2 ^ (l + n))) + 2 ^ l * (w / 2 ^ l % 2 ^ n) := by rw [← Nat.mul_add, h2]
  omega

theorem getN_lt (w l n : Nat) : getN w l n < 2 ^ n := Nat.mod_lt _ (Nat.two_pow_pos n)

theorem putN_eq (w l n v : Nat) : putN w l n v = 2 ^ (l + n) * (w / 2 ^ (l + n)) + (2 ^ l * v + w % 2 ^ l) := by
  have h := split3 w l n
  unfold putN
  have e1 : getN w l n * 2 ^ l = 2 ^ l * getN w l n := Nat.mul_comm _ _
  have e2 : v * 2 ^ l = 2 ^ l * v := Nat.mul_comm _ _
  omega

theorem low_lt {l n v r : Nat} (hv : v < 2 ^ n) (hr : r < 2 ^ l) : 2 ^ l * v + r < 2 ^ (l + n) := by
  have h1 : v + 1 ≤ 2 ^ n := hv
  have h2 := Nat.mul_le_mul_left (2 ^ l) h1
  rw [Nat.pow_add]
  have e : 2 ^ l * (v + 1) = 2 ^ l * v + 2 ^ l := by rw [Nat.mul_add, Nat.mul_one]
  omega

/-- the bits of a word with a field's value -/
theorem putN_bit (w l n v : Nat) (hv : v < 2 ^ n) (i : Nat) : (putN w l n v).testBit i = if l ≤ i ∧ i < l + n then v.testBit (i - l) else w.testBit i := by
  have hr : w % 2 ^ l < 2 ^ l := Nat.mod_lt _ (Nat.two_pow_pos l)
  rw [putN_eq, Nat.testBit_two_pow_mul_add _ (low_lt hv hr)]
  rw [Nat.testBit_two_pow_mul_add _ hr]
  by_cases h1 : i < l
  · simp [h1, show i < l + n by omega, show ¬ (l ≤ i) by omega]
  · by_cases h2 : i < l + n
    · simp [h1, h2, show l ≤ i by omega]
    · simp [h2, Nat.testBit_div_two_pow]
      congr 1; omega

theorem getN_bit (w l n i : Nat) : (getN w l n).testBit i = (decide (i < n) && w.testBit (l + i)) := by
  unfold getN
  rw [Nat.testBit_mod_two_pow, Nat.testBit_div_two_pow, Nat.add_comm]

theorem ones_bit (n i : Nat) : (2 ^ n - 1).testBit i = decide (i < n) := Nat.testBit_two_pow_sub_one n i

theorem putN_lt (w l n v B : Nat) (hw : w < 2 ^ B) (hv : v < 2 ^ n) (hB : l + n ≤ B) : putN w l n v < 2 ^ B := by
  apply Nat.lt_pow_two_of_testBit
  intro i hi
  rw [putN_bit _ _ _ _ hv, if_neg (by omega)]
  exact Nat.testBit_lt_two_pow (Nat.lt_of_lt_of_le hw (Nat.pow_le_pow_right (by decide) hi))

theorem get_put (w l n v : Nat) (hv : v < 2 ^ n) : getN (putN w l n v) l n = v := by
  apply Nat.eq_of_testBit_eq; intro i
  rw [getN_bit, putN_bit _ _ _ _ hv]
  by_cases h : i < n
  · simp [h, show l ≤ l + i by omega]
  · simp [h]; exact Nat.testBit_lt_two_pow (i := i) (Nat.lt_of_lt_of_le hv (Nat.pow_le_pow_right (by decide) (by omega)))

/-- as the code reckons it -/
theorem get_code (w l n : Nat) : w / 2 ^ l &&& (2 ^ n - 1) = getN w l n := Nat.and_two_pow_sub_one_eq_mod _ _

theorem mask_bit (l n i : Nat) : ((2 ^ n - 1) * 2 ^ l).testBit i = decide (l ≤ i ∧ i < l + n) := by
  rw [Nat.mul_comm, Nat.testBit_two_pow_mul, ones_bit]
  by_cases h : l ≤ i <;> by_cases h2 : i < l + n <;> simp [h] <;> omega

theorem not_bit (B x i : Nat) (hx : x < 2 ^ B) : (2 ^ B - 1 - x).testBit i = (decide (i < B) && !x.testBit i) := by
  have := Nat.testBit_two_pow_sub_succ hx i
  rw [← this]; congr 1; omega

theorem put_code (B w l n v : Nat) (hw : w < 2 ^ B) (hv : v < 2 ^ n) (hB : l + n ≤ B) :
    (w &&& (2 ^ B - 1 - (2 ^ n - 1) * 2 ^ l)) ||| v * 2 ^ l = putN w l n v := by
  have hm : (2 ^ n - 1) * 2 ^ l < 2 ^ B := by
    apply Nat.lt_pow_two_of_testBit; intro i hi; rw [mask_bit]; simp; omega
  apply Nat.eq_of_testBit_eq; intro i
  rw [putN_bit _ _ _ _ hv, Nat.testBit_or, Nat.testBit_and, not_bit _ _ _ hm, mask_bit, Nat.mul_comm v, Nat.testBit_two_pow_mul]
  by_cases h1 : l ≤ i
  · by_cases h2 : i < l + n
    · simp [h1, h2]
    · have hv0 : v.testBit (i - l) = false := Nat.testBit_lt_two_pow (Nat.lt_of_lt_of_le hv (Nat.pow_le_pow_right (by decide) (by omega)))
      simp [h1, h2, hv0]
      intro hb
      by_cases h3 : i < B
      · exact h3
      · have := Nat.testBit_lt_two_pow (Nat.lt_of_lt_of_le hw (Nat.pow_le_pow_right (n := 2) (by decide) (show B ≤ i by omega)))
        simp [this] at hb
  · simp [h1]
    intro hb
    omega

theorem over_code (B v n : Nat) (hv : v < 2 ^ B) (hn : n ≤ B) : (v &&& (2 ^ B - 1 - (2 ^ n - 1)) = 0) ↔ v < 2 ^ n := by
  have hm : 2 ^ n - 1 < 2 ^ B := by
    have := Nat.pow_le_pow_right (n := 2) (by decide) hn
    have := Nat.two_pow_pos n
    omega
  constructor
  · intro h
    apply Nat.lt_pow_two_of_testBit; intro i hi
    have := congrArg (·.testBit i) h
    simp only [Nat.testBit_and, not_bit _ _ _ hm, ones_bit, Nat.zero_testBit] at this
    by_cases h3 : i < B
    · simpa [h3, show ¬ i < n by omega] using this
    · exact Nat.testBit_lt_two_pow (Nat.lt_of_lt_of_le hv (Nat.pow_le_pow_right (by decide) (by omega)))
  · intro h
    apply Nat.eq_of_testBit_eq; intro i
    rw [Nat.testBit_and, not_bit _ _ _ hm, ones_bit, Nat.zero_testBit]
    by_cases h2 : i < n
    · simp [h2]
    · rw [Nat.testBit_lt_two_pow (Nat.lt_of_lt_of_le h (Nat.pow_le_pow_right (by decide) (by omega)))]; rfl


/-- turned to the right by r places, r below n -/
def turnN (v n r : Nat) : Nat := v / 2 ^ r + v % 2 ^ r * 2 ^ (n - r)

theorem pow_split (n r : Nat) (h : r ≤ n) : 2 ^ n = 2 ^ r * 2 ^ (n - r) := by rw [← Nat.pow_add]; congr 1; omega

theorem div_lt_pow {v n r : Nat} (hv : v < 2 ^ n) (h : r ≤ n) : v / 2 ^ r < 2 ^ (n - r) := by
  rw [Nat.div_lt_iff_lt_mul (Nat.two_pow_pos r), Nat.mul_comm, ← pow_split n r h]; exact hv

theorem turnN_lt {v n r : Nat} (hv : v < 2 ^ n) (h : r ≤ n) : turnN v n r < 2 ^ n := by
  have h1 := div_lt_pow hv h
  have h2 : v % 2 ^ r < 2 ^ r := Nat.mod_lt _ (Nat.two_pow_pos r)
  have h3 := Nat.mul_le_mul_right (2 ^ (n - r)) (show v % 2 ^ r + 1 ≤ 2 ^ r from h2)
  rw [← pow_split n r h, Nat.add_mul, Nat.one_mul] at h3
  unfold turnN; omega

theorem turnN_zero (v n : Nat) : turnN v n 0 = v := by simp [turnN, Nat.mod_one]

theorem turn_back {v n r : Nat} (hv : v < 2 ^ n) (h : r ≤ n) : turnN (turnN v n r) n (n - r) = v := by
  have h1 := div_lt_pow hv h
  have e : n - (n - r) = r := by omega
  unfold turnN
  rw [e, Nat.add_mul_div_right _ _ (Nat.two_pow_pos _), Nat.div_eq_of_lt h1, Nat.add_mul_mod_self_right, Nat.mod_eq_of_lt h1, Nat.zero_add]
  have := Nat.div_add_mod v (2 ^ r)
  rw [Nat.mul_comm] at this; omega

/-- how many ones among the lowest k bits -/
def pop : Nat → Nat → Nat
  | 0, _ => 0
  | k + 1, v => v % 2 + pop k (v / 2)

theorem pop_le (k v : Nat) : pop k v ≤ k := by
  induction k generalizing v with
  | zero => simp [pop]
  | succ k ih => have := ih (v / 2); simp only [pop]; omega

theorem pop_add (a b v : Nat) : pop (a + b) v = pop a v + pop b (v / 2 ^ a) := by
  induction a generalizing v with
  | zero => simp [pop]
  | succ a ih =>
    rw [show a + 1 + b = (a + b) + 1 by omega]
    simp only [pop]
    rw [ih, Nat.div_div_eq_div_mul, Nat.pow_succ, Nat.mul_comm (2 ^ a) 2]; omega

theorem pop_mod (a v : Nat) : pop a (v % 2 ^ a) = pop a v := by
  induction a generalizing v with
  | zero => simp [pop]
  | succ a ih =>
    simp only [pop]
    have e : v % 2 ^ (a + 1) / 2 = v / 2 % 2 ^ a := by
      rw [Nat.pow_succ, Nat.mul_comm, Nat.mod_mul_right_div_self]
    rw [e, ih, Nat.pow_succ, Nat.mul_comm, Nat.mod_mul_right_mod]

theorem pop_zero (k : Nat) : pop k 0 = 0 := by
  induction k with
  | zero => rfl
  | succ k ih => simp [pop, ih]

theorem pop_more {v n k : Nat} (hv : v < 2 ^ n) (h : n ≤ k) : pop k v = pop n v := by
  have e : k = n + (k - n) := by omega
  rw [e, pop_add, Nat.div_eq_of_lt hv, pop_zero]; omega

theorem pop_turn {v n r : Nat} (hv : v < 2 ^ n) (h : r ≤ n) : pop n (turnN v n r) = pop n v := by
  have h1 := div_lt_pow hv h
  have e1 : n = (n - r) + r := by omega
  have e2 : n = r + (n - r) := by omega
  rw [show pop n (turnN v n r) = pop ((n - r) + r) (turnN v n r) by rw [← e1]]
  rw [show pop n v = pop (r + (n - r)) v by rw [← e2]]
  rw [pop_add, pop_add]
  have d : turnN v n r / 2 ^ (n - r) = v % 2 ^ r := by
    unfold turnN
    rw [Nat.add_mul_div_right _ _ (Nat.two_pow_pos _), Nat.div_eq_of_lt h1, Nat.zero_add]
  have m : turnN v n r % 2 ^ (n - r) = v / 2 ^ r := by
    unfold turnN
    rw [Nat.add_mul_mod_self_right, Nat.mod_eq_of_lt h1]
  rw [d, ← pop_mod (n - r) (turnN v n r), m, pop_mod]; omega

/-- as the code turns: (v >> r | v << (n-r)) & ones, in 64 bits -/
theorem turn_code {v n r : Nat} (hv : v < 2 ^ n) (hn : n ≤ 64) (h : r < n) :
    (v / 2 ^ r ||| v * 2 ^ (n - r) % 2 ^ 64) &&& (2 ^ n - 1) = turnN v n r := by
  rw [Nat.and_two_pow_sub_one_eq_mod]
  have h1 := div_lt_pow hv (Nat.le_of_lt h)
  have hd : v / 2 ^ r < 2 ^ n := Nat.lt_of_le_of_lt (Nat.div_le_self _ _) hv
  apply Nat.eq_of_testBit_eq; intro i
  have hb : ∀ j, n ≤ j → v.testBit j = false := fun j hj => Nat.testBit_lt_two_pow (Nat.lt_of_lt_of_le hv (Nat.pow_le_pow_right (by decide) hj))
  have ht : turnN v n r = 2 ^ (n - r) * (v % 2 ^ r) + v / 2 ^ r := by unfold turnN; rw [Nat.mul_comm (v % 2 ^ r)]; omega
  rw [ht, Nat.testBit_two_pow_mul_add _ h1]
  rw [Nat.testBit_mod_two_pow, Nat.testBit_or, Nat.testBit_div_two_pow, Nat.testBit_mod_two_pow, Nat.mul_comm v, Nat.testBit_two_pow_mul, Nat.testBit_mod_two_pow]
  by_cases g : i < n
  · by_cases g2 : i < n - r
    · simp [g, g2, show ¬ (n - r ≤ i) by omega]
    · have := hb (i + r) (by omega)
      simp [g, g2, show n - r ≤ i by omega, this, show i < 64 by omega]; intro _; omega
  · simp [g, show ¬ (i < n - r) by omega]; intro _; omega

/-- the reference's loop: what has been summed behind i rounds -/
def turnTo (v n r i : Nat) : Nat := if i ≤ r then v % 2 ^ i * 2 ^ (n - r) else v % 2 ^ r * 2 ^ (n - r) + v % 2 ^ i / 2 ^ r

theorem mod_succ (v i : Nat) : v % 2 ^ (i + 1) = v % 2 ^ i + v / 2 ^ i % 2 * 2 ^ i := by
  rw [Nat.pow_succ, Nat.mod_mul, Nat.mul_comm]

theorem turnTo_zero (v n r : Nat) : turnTo v n r 0 = 0 := by simp [turnTo, Nat.mod_one]

theorem turnTo_low {v n r i : Nat} (h : i < r) (hr : r ≤ n) : turnTo v n r (i + 1) = turnTo v n r i + v / 2 ^ i % 2 * 2 ^ (i + n - r) := by
  unfold turnTo
  rw [if_pos (by omega), if_pos (by omega), mod_succ, Nat.add_mul, Nat.mul_assoc, ← Nat.pow_add]
  congr 3; omega

theorem turnTo_high {v n r i : Nat} (h : r ≤ i) : turnTo v n r (i + 1) = turnTo v n r i + v / 2 ^ i % 2 * 2 ^ (i - r) := by
  have e : v / 2 ^ i % 2 * 2 ^ i = (v / 2 ^ i % 2 * 2 ^ (i - r)) * 2 ^ r := by rw [Nat.mul_assoc, ← Nat.pow_add]; congr 2; omega
  unfold turnTo
  rw [if_neg (by omega), mod_succ, e, Nat.add_mul_div_right _ _ (Nat.two_pow_pos _)]
  by_cases g : i ≤ r
  · obtain rfl : i = r := by omega
    simp [Nat.div_eq_of_lt (Nat.mod_lt v (Nat.two_pow_pos i))]
  · rw [if_neg g]; omega

theorem turnTo_all {v n r : Nat} (hv : v < 2 ^ n) (h : r < n) : turnTo v n r n = turnN v n r := by
  unfold turnTo turnN
  rw [if_neg (by omega), Nat.mod_eq_of_lt hv]; omega

theorem turnTo_lt {v n r i : Nat} (hv : v < 2 ^ n) (h : r < n) : turnTo v n r i < 2 ^ n := by
  have hp := pow_split n r (by omega)
  have key : ∀ j, j ≤ r → v % 2 ^ j * 2 ^ (n - r) + 2 ^ (n - r) ≤ 2 ^ n := by
    intro j hj
    have h2 : v % 2 ^ j < 2 ^ j := Nat.mod_lt _ (Nat.two_pow_pos j)
    have h3 : 2 ^ j ≤ 2 ^ r := Nat.pow_le_pow_right (by decide) hj
    have h4 := Nat.mul_le_mul_right (2 ^ (n - r)) (show v % 2 ^ j + 1 ≤ 2 ^ r by omega)
    rw [← hp, Nat.add_mul, Nat.one_mul] at h4; exact h4
  unfold turnTo
  split
  · have := key i (by assumption)
    have := Nat.two_pow_pos (n - r); omega
  · have := key r (Nat.le_refl _)
    have : v % 2 ^ i / 2 ^ r < 2 ^ (n - r) := div_lt_pow (Nat.lt_of_le_of_lt (Nat.mod_le _ _) hv) (by omega)
    omega


/-- the lowest n bits as a number with a sign -/
def sgn (v n : Nat) : Int := if v / 2 ^ (n - 1) % 2 = 1 then ((v % 2 ^ (n - 1) : Nat) : Int) - 2 ^ (n - 1) else ((v % 2 ^ (n - 1) : Nat) : Int)

theorem wrap_i64 (n : Int) : IntKind.i64.wrap n = if n % 18446744073709551616 ≥ 9223372036854775808 then n % 18446744073709551616 - 18446744073709551616 else n % 18446744073709551616 := by
  simp [IntKind.wrap, IntKind.bits, IntKind.signed]

theorem sgn_bounds (v n : Nat) : -(2 : Int) ^ (n - 1) ≤ sgn v n ∧ sgn v n < 2 ^ (n - 1) := by
  have h := Nat.mod_lt v (Nat.two_pow_pos (n - 1))
  have h2 : ((v % 2 ^ (n - 1) : Nat) : Int) < ((2 ^ (n - 1) : Nat) : Int) := by exact_mod_cast h
  have e : ((2 ^ (n - 1) : Nat) : Int) = (2 : Int) ^ (n - 1) := by simp
  rw [e] at h2
  have h3 : (0 : Int) < 2 ^ (n - 1) := by rw [← e]; exact_mod_cast Nat.two_pow_pos _
  unfold sgn
  split <;> omega

theorem low_split (v n : Nat) (hn : 1 ≤ n) : v % 2 ^ n = v % 2 ^ (n - 1) + v / 2 ^ (n - 1) % 2 * 2 ^ (n - 1) := by
  have e : n = (n - 1) + 1 := by omega
  rw [show v % 2 ^ n = v % 2 ^ ((n - 1) + 1) by rw [← e]]
  rw [Nat.pow_succ, Nat.mod_mul, Nat.mul_comm]

theorem cast_lt64 {x : Nat} (h : x < 2 ^ 64) : ((x : Nat) : Int) < 18446744073709551616 := by
  have e : 2 ^ 64 = 18446744073709551616 := by decide
  rw [e] at h; omega
theorem cast_ge63 {x : Nat} (h : 2 ^ 63 ≤ x) : ((x : Nat) : Int) ≥ 9223372036854775808 := by
  have e : 2 ^ 63 = 9223372036854775808 := by decide
  rw [e] at h; omega
theorem cast_lt63 {x : Nat} (h : x < 2 ^ 63) : ¬ (((x : Nat) : Int) ≥ 9223372036854775808) := by
  have e : 2 ^ 63 = 9223372036854775808 := by decide
  rw [e] at h; omega

/-- v << (64 - n), as a number with a sign, >> (64 - n) -/
theorem sign_code {v n : Nat} (hn : 1 ≤ n) (h64 : n ≤ 64) :
    IntKind.i64.wrap (((v * 2 ^ (64 - n) % 2 ^ 64 : Nat) : Int)) / 2 ^ (64 - n) = sgn v n := by
  have hp : 2 ^ (64 : Nat) = 2 ^ n * 2 ^ (64 - n) := by rw [← Nat.pow_add]; congr 1; omega
  have e1 : v * 2 ^ (64 - n) % 2 ^ 64 = v % 2 ^ n * 2 ^ (64 - n) := by rw [hp, Nat.mul_mod_mul_right]
  have hm : v % 2 ^ n < 2 ^ n := Nat.mod_lt _ (Nat.two_pow_pos n)
  have hlt : v % 2 ^ n * 2 ^ (64 - n) < 2 ^ 64 := by rw [hp]; exact Nat.mul_lt_mul_of_pos_right hm (Nat.two_pow_pos _)
  have hp63 : 2 ^ (63 : Nat) = 2 ^ (n - 1) * 2 ^ (64 - n) := by rw [← Nat.pow_add]; congr 1; omega
  have hs := low_split v n hn
  have hd : (2 : Int) ^ (64 - n) = ((2 ^ (64 - n) : Nat) : Int) := by simp
  have hpos : ((2 ^ (64 - n) : Nat) : Int) ≠ 0 := by have := Nat.two_pow_pos (64 - n); omega
  rw [e1, wrap_i64, hd]
  have b2 : v / 2 ^ (n - 1) % 2 < 2 := Nat.mod_lt _ (by decide)
  have hm2 : v % 2 ^ (n - 1) < 2 ^ (n - 1) := Nat.mod_lt _ (Nat.two_pow_pos _)
  have hx : ((v % 2 ^ n * 2 ^ (64 - n) : Nat) : Int) % 18446744073709551616 = ((v % 2 ^ n * 2 ^ (64 - n) : Nat) : Int) := Int.emod_eq_of_lt (by omega) (cast_lt64 hlt)
  rw [hx]
  unfold sgn
  have c1 : ((v % 2 ^ n * 2 ^ (64 - n) : Nat) : Int) = ((v % 2 ^ n : Nat) : Int) * ((2 ^ (64 - n) : Nat) : Int) := by push_cast; rfl
  by_cases hb : v / 2 ^ (n - 1) % 2 = 1
  · have hge : 2 ^ 63 ≤ v % 2 ^ n * 2 ^ (64 - n) := by
      rw [hp63]; apply Nat.mul_le_mul_right; rw [hs, hb]; omega
    rw [if_pos (cast_ge63 hge), if_pos hb]
    have c2 : (18446744073709551616 : Int) = ((2 ^ n : Nat) : Int) * ((2 ^ (64 - n) : Nat) : Int) := by
      have : (18446744073709551616 : Int) = ((2 ^ (64 : Nat) : Nat) : Int) := by decide
      rw [this, hp]; push_cast; rfl
    rw [c1, c2, ← Int.sub_mul, Int.mul_ediv_cancel _ hpos, hs, hb]
    have e2 : 2 ^ n = 2 * 2 ^ (n - 1) := by rw [← Nat.pow_succ']; congr 1; omega
    rw [e2]; push_cast; omega
  · have hlt2 : v % 2 ^ n * 2 ^ (64 - n) < 2 ^ 63 := by
      rw [hp63]; apply Nat.mul_lt_mul_of_pos_right _ (Nat.two_pow_pos _); rw [hs, show v / 2 ^ (n - 1) % 2 = 0 by omega]; omega
    rw [if_neg (cast_lt63 hlt2), if_neg hb, c1, Int.mul_ediv_cancel _ hpos, hs, show v / 2 ^ (n - 1) % 2 = 0 by omega]; simp

/-- a sign's lowest bits are the number -/
theorem sgn_low {v n : Nat} (hn : 1 ≤ n) : sgn v n % 2 ^ n = ((v % 2 ^ n : Nat) : Int) := by
  have hs := low_split v n hn
  have b2 : v / 2 ^ (n - 1) % 2 < 2 := Nat.mod_lt _ (by decide)
  have hm2 : v % 2 ^ (n - 1) < 2 ^ (n - 1) := Nat.mod_lt _ (Nat.two_pow_pos _)
  have e2 : 2 ^ n = 2 * 2 ^ (n - 1) := by rw [← Nat.pow_succ']; congr 1; omega
  have e3 : (2 : Int) ^ n = ((2 ^ n : Nat) : Int) := by simp
  have e4 : (2 : Int) ^ (n - 1) = ((2 ^ (n - 1) : Nat) : Int) := by simp
  have hlt : v % 2 ^ n < 2 ^ n := Nat.mod_lt _ (Nat.two_pow_pos n)
  unfold sgn
  by_cases hb : v / 2 ^ (n - 1) % 2 = 1
  · rw [if_pos hb, e3, e4]
    have : (((v % 2 ^ (n - 1) : Nat) : Int) - ((2 ^ (n - 1) : Nat) : Int)) = ((v % 2 ^ n : Nat) : Int) - ((2 ^ n : Nat) : Int) := by
      rw [hs, hb, e2]; push_cast; omega
    rw [this, Int.sub_emod_right]
    exact Int.emod_eq_of_lt (by omega) (by exact_mod_cast hlt)
  · rw [if_neg hb, e3, hs, show v / 2 ^ (n - 1) % 2 = 0 by omega]
    simp only [Nat.zero_mul, Nat.add_zero]
    exact Int.emod_eq_of_lt (by omega) (by rw [e2]; exact_mod_cast (by omega))

/-- Fits: v >> (n-1) is 0 or -1 -/
theorem fits_signed {v : Int} {m : Nat} : (v / 2 ^ m = 0 ∨ v / 2 ^ m = -1) ↔ (-(2 : Int) ^ m ≤ v ∧ v < 2 ^ m) := by
  have hp : (0 : Int) < 2 ^ m := by
    have e : ((2 ^ m : Nat) : Int) = (2 : Int) ^ m := by simp
    rw [← e]; exact_mod_cast Nat.two_pow_pos _
  generalize (2 : Int) ^ m = p at *
  have h1 := Int.mul_ediv_add_emod v p
  have h2 := Int.emod_nonneg v (show p ≠ 0 by omega)
  have h3 := Int.emod_lt_of_pos v hp
  constructor
  · rintro (h | h)
    · rw [h] at h1; omega
    · rw [h] at h1; omega
  · rintro ⟨a, b⟩
    by_cases h : 0 ≤ v
    · left; exact Int.ediv_eq_zero_of_lt h b
    · right
      have e : v = (v + p) + (-1) * p := by omega
      rw [e, Int.add_mul_ediv_right _ _ (show p ≠ 0 by omega), Int.ediv_eq_zero_of_lt (by omega) (by omega)]; rfl

theorem fits_unsigned {v : Int} {m : Nat} : (v / 2 ^ m = 0) ↔ (0 ≤ v ∧ v < 2 ^ m) := by
  have hp : (0 : Int) < 2 ^ m := by
    have e : ((2 ^ m : Nat) : Int) = (2 : Int) ^ m := by simp
    rw [← e]; exact_mod_cast Nat.two_pow_pos _
  generalize (2 : Int) ^ m = p at *
  have h1 := Int.mul_ediv_add_emod v p
  have h2 := Int.emod_nonneg v (show p ≠ 0 by omega)
  have h3 := Int.emod_lt_of_pos v hp
  constructor
  · intro h; rw [h] at h1; omega
  · rintro ⟨a, b⟩; exact Int.ediv_eq_zero_of_lt a b

end Go.Proofs.YtfpaambihjijoaaDoor.BM
