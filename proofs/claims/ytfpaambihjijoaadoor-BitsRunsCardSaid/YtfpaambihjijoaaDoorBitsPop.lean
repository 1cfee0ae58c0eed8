/-
  The ones of a number of 64 bits, counted lane by lane as math/bits does, are as many as it has. No program is named here. No conditions beyond those that each lemma states.
-/
import Derived.Test.YtfpaambihjijoaaDoorBitsMath
namespace Go.Proofs.YtfpaambihjijoaaDoor.BM
open Go
/-! ### ones counted, lane by lane -/
def lanes (f : Nat → Nat) : Nat → Nat → Nat
  | 0, _ => 0
  | k + 1, x => 256 * lanes f k (x / 256) + f (x % 256)
def laneMask (m : Nat) : Nat → Nat
  | 0 => 0
  | k + 1 => 256 * laneMask m k + m

theorem and_lane (x M m : Nat) (hm : m < 256) : x &&& (256 * M + m) = 256 * (x / 256 &&& M) + (x % 256 &&& m) := by
  apply Nat.eq_of_testBit_eq; intro i
  have h1 : x % 256 &&& m < 2 ^ 8 := Nat.lt_of_le_of_lt Nat.and_le_right hm
  rw [show (256 : Nat) = 2 ^ 8 by decide] at *
  rw [Nat.testBit_and, Nat.testBit_two_pow_mul_add _ hm, Nat.testBit_two_pow_mul_add _ h1]
  by_cases g : i < 8
  · rw [if_pos g, if_pos g, Nat.testBit_and, Nat.testBit_mod_two_pow]; simp only [g, decide_true, Bool.true_and]
  · rw [if_neg g, if_neg g, Nat.testBit_and, Nat.testBit_div_two_pow, show i - 8 + 8 = i by omega]

def f1 (b : Nat) : Nat := (b / 2 &&& 85) + (b &&& 85)
def f2 (b : Nat) : Nat := (b / 4 &&& 51) + (b &&& 51)
def f3 (b : Nat) : Nat := (b / 16 + b) &&& 15
theorem f1_shift : ∀ c, c < 512 → (c / 2 % 256 &&& 85) = (c % 256 / 2 &&& 85) := by decide +kernel
theorem f2_shift : ∀ c, c < 1024 → (c / 4 % 256 &&& 51) = (c % 256 / 4 &&& 51) := by decide +kernel
theorem f1_lt : ∀ b, b < 256 → f1 b < 256 := by decide +kernel
theorem f2_lt : ∀ b, b < 256 → f2 b ≤ 102 ∧ f2 b % 16 ≤ 6 := by decide +kernel
theorem f3_lt : ∀ b, b < 256 → f3 b ≤ 15 := by decide +kernel
theorem f3_carry : ∀ a, a < 7 → ∀ b, b < 103 → ((16 * a + (b / 16 + b)) &&& 15) = f3 b := by decide +kernel
theorem f123 : ∀ b, b < 256 → f3 (f2 (f1 b)) = pop 8 b := by decide +kernel

theorem step1 (k x : Nat) : (x / 2 &&& laneMask 85 k) + (x &&& laneMask 85 k) = lanes f1 k x := by
  induction k generalizing x with
  | zero => simp [laneMask, lanes]
  | succ k ih =>
    simp only [laneMask, lanes]
    rw [and_lane _ _ _ (by decide), and_lane _ _ _ (by decide), ← ih]
    have h := f1_shift (x % 512) (Nat.mod_lt _ (by decide))
    rw [show x % 512 / 2 % 256 = x / 2 % 256 by omega, show x % 512 % 256 = x % 256 by omega] at h
    rw [h, show x / 2 / 256 = x / 256 / 2 by omega]
    unfold f1; omega
theorem step2 (k x : Nat) : (x / 4 &&& laneMask 51 k) + (x &&& laneMask 51 k) = lanes f2 k x := by
  induction k generalizing x with
  | zero => simp [laneMask, lanes]
  | succ k ih =>
    simp only [laneMask, lanes]
    rw [and_lane _ _ _ (by decide), and_lane _ _ _ (by decide), ← ih]
    have h := f2_shift (x % 1024) (Nat.mod_lt _ (by decide))
    rw [show x % 1024 / 4 % 256 = x / 4 % 256 by omega, show x % 1024 % 256 = x % 256 by omega] at h
    rw [h, show x / 4 / 256 = x / 256 / 4 by omega]
    unfold f2; omega
theorem lanes_two (k z : Nat) : lanes f2 k z % 16 ≤ 6 := by
  cases k with
  | zero => simp [lanes]
  | succ k =>
    have := (f2_lt (z % 256) (Nat.mod_lt _ (by decide))).2
    simp only [lanes]; omega
theorem step3 (k z : Nat) : (lanes f2 k z / 16 + lanes f2 k z) &&& laneMask 15 k = lanes (fun b => f3 (f2 b)) k z := by
  induction k generalizing z with
  | zero => simp [laneMask, lanes]
  | succ k ih =>
    have h2 := lanes_two k (z / 256)
    have hb := f2_lt (z % 256) (Nat.mod_lt _ (by decide))
    simp only [laneMask, lanes]
    rw [and_lane _ _ _ (by decide), ← ih (z / 256)]
    generalize lanes f2 k (z / 256) = a at *
    generalize f2 (z % 256) = b at *
    have e1 : ((256 * a + b) / 16 + (256 * a + b)) / 256 = a / 16 + a := by omega
    have e2 : ((256 * a + b) / 16 + (256 * a + b)) % 256 = 16 * (a % 16) + (b / 16 + b) := by omega
    rw [e1, e2, f3_carry _ (by omega) _ (by omega)]
theorem lanes_comp (f g : Nat → Nat) (hf : ∀ b, b < 256 → f b < 256) (k x : Nat) : lanes g k (lanes f k x) = lanes (fun b => g (f b)) k x := by
  induction k generalizing x with
  | zero => rfl
  | succ k ih =>
    have h := hf (x % 256) (Nat.mod_lt _ (by decide))
    show 256 * lanes g k ((256 * lanes f k (x / 256) + f (x % 256)) / 256) + g ((256 * lanes f k (x / 256) + f (x % 256)) % 256) = 256 * lanes (fun b => g (f b)) k (x / 256) + g (f (x % 256))
    rw [show (256 * lanes f k (x / 256) + f (x % 256)) / 256 = lanes f k (x / 256) by omega, show (256 * lanes f k (x / 256) + f (x % 256)) % 256 = f (x % 256) by omega, ih]
theorem lanes_congr (f g : Nat → Nat) (h : ∀ b, b < 256 → f b = g b) (k x : Nat) : lanes f k x = lanes g k x := by
  induction k generalizing x with
  | zero => rfl
  | succ k ih => simp only [lanes]; rw [ih, h _ (Nat.mod_lt _ (by decide))]
theorem pop_lane (k x : Nat) : pop (8 * (k + 1)) x = pop 8 (x % 256) + pop (8 * k) (x / 256) := by
  rw [show 8 * (k + 1) = 8 + 8 * k by omega, pop_add, show (2 : Nat) ^ 8 = 256 by decide, ← pop_mod 8 x, show (2 : Nat) ^ 8 = 256 by decide]

/-- the last three steps: eight lanes added up -/
theorem step456 (x : Nat) : ((lanes (pop 8) 8 x + lanes (pop 8) 8 x / 256) + (lanes (pop 8) 8 x + lanes (pop 8) 8 x / 256) / 65536 +
      ((lanes (pop 8) 8 x + lanes (pop 8) 8 x / 256) + (lanes (pop 8) 8 x + lanes (pop 8) 8 x / 256) / 65536) / 4294967296) % 128 = pop 64 x ∧ lanes (pop 8) 8 x ≤ 578721382704613384 := by
  have h7 := pop_lane 7 x
  have h6 := pop_lane 6 (x / 256)
  have h5 := pop_lane 5 (x / 256 / 256)
  have h4 := pop_lane 4 (x / 256 / 256 / 256)
  have h3 := pop_lane 3 (x / 256 / 256 / 256 / 256)
  have h2 := pop_lane 2 (x / 256 / 256 / 256 / 256 / 256)
  have h1 := pop_lane 1 (x / 256 / 256 / 256 / 256 / 256 / 256)
  have h0 := pop_mod 8 (x / 256 / 256 / 256 / 256 / 256 / 256 / 256)
  simp only [Nat.reduceAdd, Nat.reduceMul, Nat.reducePow] at h0 h1 h2 h3 h4 h5 h6 h7
  rw [h7, h6, h5, h4, h3, h2, h1, ← h0]
  clear h0 h1 h2 h3 h4 h5 h6 h7
  simp only [lanes, Nat.mul_zero, Nat.zero_add]
  have b0 := pop_le 8 (x % 256)
  have b1 := pop_le 8 (x / 256 % 256)
  have b2 := pop_le 8 (x / 256 / 256 % 256)
  have b3 := pop_le 8 (x / 256 / 256 / 256 % 256)
  have b4 := pop_le 8 (x / 256 / 256 / 256 / 256 % 256)
  have b5 := pop_le 8 (x / 256 / 256 / 256 / 256 / 256 % 256)
  have b6 := pop_le 8 (x / 256 / 256 / 256 / 256 / 256 / 256 % 256)
  have b7 := pop_le 8 (x / 256 / 256 / 256 / 256 / 256 / 256 / 256 % 256)
  generalize pop 8 (x % 256) = c0 at *
  generalize pop 8 (x / 256 % 256) = c1 at *
  generalize pop 8 (x / 256 / 256 % 256) = c2 at *
  generalize pop 8 (x / 256 / 256 / 256 % 256) = c3 at *
  generalize pop 8 (x / 256 / 256 / 256 / 256 % 256) = c4 at *
  generalize pop 8 (x / 256 / 256 / 256 / 256 / 256 % 256) = c5 at *
  generalize pop 8 (x / 256 / 256 / 256 / 256 / 256 / 256 % 256) = c6 at *
  generalize pop 8 (x / 256 / 256 / 256 / 256 / 256 / 256 / 256 % 256) = c7 at *
  have hR : 256 * (256 * (256 * (256 * (256 * (256 * (256 * (c7) + c6) + c5) + c4) + c3) + c2) + c1) + c0 ≤ 578721382704613384 := by omega
  refine ⟨?_, hR⟩
  clear hR
  have q1 : (256 * (256 * (256 * (256 * (256 * (256 * (256 * (c7) + c6) + c5) + c4) + c3) + c2) + c1) + c0) / 256 = 256 * (256 * (256 * (256 * (256 * (256 * (c7) + c6) + c5) + c4) + c3) + c2) + c1 := by omega
  rw [q1]
  obtain ⟨d0, g0⟩ : ∃ d, d = c0 + c1 := ⟨_, rfl⟩
  obtain ⟨d1, g1⟩ : ∃ d, d = c1 + c2 := ⟨_, rfl⟩
  obtain ⟨d2, g2⟩ : ∃ d, d = c2 + c3 := ⟨_, rfl⟩
  obtain ⟨d3, g3⟩ : ∃ d, d = c3 + c4 := ⟨_, rfl⟩
  obtain ⟨d4, g4⟩ : ∃ d, d = c4 + c5 := ⟨_, rfl⟩
  obtain ⟨d5, g5⟩ : ∃ d, d = c5 + c6 := ⟨_, rfl⟩
  obtain ⟨d6, g6⟩ : ∃ d, d = c6 + c7 := ⟨_, rfl⟩
  obtain ⟨d7, g7⟩ : ∃ d, d = c7 := ⟨_, rfl⟩
  have q2 : 256 * (256 * (256 * (256 * (256 * (256 * (256 * (c7) + c6) + c5) + c4) + c3) + c2) + c1) + c0 + (256 * (256 * (256 * (256 * (256 * (256 * (c7) + c6) + c5) + c4) + c3) + c2) + c1) = 256 * (256 * (256 * (256 * (256 * (256 * (256 * (d7) + d6) + d5) + d4) + d3) + d2) + d1) + d0 := by omega
  rw [q2]
  have u0 : c0 + (c1 + (c2 + (c3 + (c4 + (c5 + (c6 + c7)))))) = d0 + d2 + d4 + d6 := by omega
  rw [u0]
  have v : d0 ≤ 16 ∧ d1 ≤ 16 ∧ d2 ≤ 16 ∧ d3 ≤ 16 ∧ d4 ≤ 16 ∧ d5 ≤ 16 ∧ d6 ≤ 16 ∧ d7 ≤ 16 := by omega
  clear q1 q2 u0 g0 g1 g2 g3 g4 g5 g6 g7 b0 b1 b2 b3 b4 b5 b6 b7
  have q3 : (256 * (256 * (256 * (256 * (256 * (256 * (256 * (d7) + d6) + d5) + d4) + d3) + d2) + d1) + d0) / 65536 = 256 * (256 * (256 * (256 * (256 * (d7) + d6) + d5) + d4) + d3) + d2 := by omega
  rw [q3]
  obtain ⟨e0, g0⟩ : ∃ d, d = d0 + d2 := ⟨_, rfl⟩
  obtain ⟨e1, g1⟩ : ∃ d, d = d1 + d3 := ⟨_, rfl⟩
  obtain ⟨e2, g2⟩ : ∃ d, d = d2 + d4 := ⟨_, rfl⟩
  obtain ⟨e3, g3⟩ : ∃ d, d = d3 + d5 := ⟨_, rfl⟩
  obtain ⟨e4, g4⟩ : ∃ d, d = d4 + d6 := ⟨_, rfl⟩
  obtain ⟨e5, g5⟩ : ∃ d, d = d5 + d7 := ⟨_, rfl⟩
  obtain ⟨e6, g6⟩ : ∃ d, d = d6 := ⟨_, rfl⟩
  obtain ⟨e7, g7⟩ : ∃ d, d = d7 := ⟨_, rfl⟩
  have q4 : 256 * (256 * (256 * (256 * (256 * (256 * (256 * (d7) + d6) + d5) + d4) + d3) + d2) + d1) + d0 + (256 * (256 * (256 * (256 * (256 * (d7) + d6) + d5) + d4) + d3) + d2) = 256 * (256 * (256 * (256 * (256 * (256 * (256 * (e7) + e6) + e5) + e4) + e3) + e2) + e1) + e0 := by omega
  rw [q4]
  have u1 : d0 + d2 + d4 + d6 = e0 + e4 := by omega
  rw [u1]
  have v2 : e0 ≤ 32 ∧ e1 ≤ 32 ∧ e2 ≤ 32 ∧ e3 ≤ 32 ∧ e4 ≤ 32 ∧ e5 ≤ 32 ∧ e6 ≤ 32 ∧ e7 ≤ 32 := by omega
  clear q3 q4 u1 g0 g1 g2 g3 g4 g5 g6 g7 v
  have q5 : (256 * (256 * (256 * (256 * (256 * (256 * (256 * (e7) + e6) + e5) + e4) + e3) + e2) + e1) + e0) / 4294967296 = 256 * (256 * (256 * (e7) + e6) + e5) + e4 := by omega
  rw [q5]
  clear q5
  omega
end Go.Proofs.YtfpaambihjijoaaDoor.BM
