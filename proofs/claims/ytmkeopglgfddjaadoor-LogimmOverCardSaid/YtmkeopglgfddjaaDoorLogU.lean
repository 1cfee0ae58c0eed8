/-
  Patterns turned over, and patterns laid twice: which pattern the complement of a value is, that 0 and all ones are none, and that a value of 32 places is one just if it is one of 64, twice. No program is named here. No conditions beyond those that each lemma states.
-/
import Derived.Test.YtmkeopglgfddjaaDoorLogMath
namespace Go.Proofs.YtmkeopglgfddjaaDoor.BM
open Go

theorem idx_bit {a b c j : Nat} (hc : c < a) (hj : j < a) : bitP a b c ((j + (a - c)) % a) = decide (j < b) := by
  unfold bitP
  rw [Nat.mod_mod, Nat.mod_add_mod, show j + (a - c) + c = j + a by omega, Nat.add_mod_right, Nat.mod_eq_of_lt hj]
theorem over_bit {a b c i : Nat} (hb : b < a) : bitP a (a - b) ((c + (a - b)) % a) i = !bitP a b c i := by
  have hx := Nat.mod_lt (i % a + c) (show 0 < a by omega)
  unfold bitP
  rw [Nat.add_mod_mod, show i % a + (c + (a - b)) = i % a + c + (a - b) by omega, ← Nat.mod_add_mod (i % a + c)]
  generalize (i % a + c) % a = x at *
  by_cases g : x < b
  · rw [Nat.mod_eq_of_lt (by omega)]; simp [g] <;> omega
  · rw [show x + (a - b) = x - b + a by omega, Nat.add_mod_right, Nat.mod_eq_of_lt (by omega)]; simp [g] <;> omega
theorem over_found {v W a b c : Nat} (h : FoundP v W a b c) : FoundP (2 ^ W - 1 - v) W a (a - b) ((c + (a - b)) % a) := by
  obtain ⟨⟨h1, h2, h3, h4, h5⟩, rfl⟩ := h
  refine ⟨⟨h1, h2, by omega, by omega, Nat.mod_lt _ (by omega)⟩, ?_⟩
  apply Nat.eq_of_testBit_eq; intro i
  rw [valN_bit, not_bit W _ _ (valN_lt a b c W), valN_bit, over_bit h4]
  by_cases g : i < W <;> simp [g]
theorem over_back {v W : Nat} (h : v < 2 ^ W) : 2 ^ W - 1 - (2 ^ W - 1 - v) = v := by omega
theorem zero_none {W a b c : Nat} : ¬ FoundP 0 W a b c := by
  rintro ⟨⟨h1, h2, h3, h4, h5⟩, h⟩
  have hi := Nat.mod_lt (0 + (a - c)) (show 0 < a by omega)
  have := congrArg (fun x => x.testBit ((0 + (a - c)) % a)) h
  simp only [valN_bit, idx_bit h5 (show 0 < a by omega), Nat.zero_testBit] at this
  rw [decide_eq_true (show (0 + (a - c)) % a < W by omega), decide_eq_true (show 0 < b by omega)] at this
  cases this
theorem ones_none {W a b c : Nat} : ¬ FoundP (2 ^ W - 1) W a b c := by
  intro h
  have := over_found h
  rw [Nat.sub_self] at this
  exact zero_none this
theorem twice_bit {x i : Nat} (hx : x < 2 ^ 32) : (x * 2 ^ 32 + x).testBit i = if i < 32 then x.testBit i else x.testBit (i - 32) := by
  rw [Nat.mul_comm, Nat.testBit_two_pow_mul_add _ hx]
theorem twice_found {x a b c : Nat} (hx : x < 2 ^ 32) : FoundP x 32 a b c ↔ FoundP (x * 2 ^ 32 + x) 64 a b c := by
  constructor
  · rintro ⟨⟨h1, h2, h3, h4, h5⟩, h⟩
    refine ⟨⟨h1, by omega, h3, h4, h5⟩, ?_⟩
    obtain ⟨m, hm, hm1⟩ := size_w h1 (.inl rfl) h2
    apply Nat.eq_of_testBit_eq; intro i
    rw [valN_bit, twice_bit hx, ← h]
    by_cases g : i < 32
    · rw [if_pos g, valN_bit]; simp [g, show i < 64 by omega]
    · rw [if_neg g, valN_bit]
      have e : i % a = (i - 32) % a := by
        rw [show i = (i - 32) + a * m by omega, Nat.add_mul_mod_self_left]; congr 1; omega
      have eb : bitP a b c i = bitP a b c (i - 32) := by unfold bitP; rw [e]
      rw [eb]
      by_cases g2 : i < 64
      · simp [g2, show i - 32 < 32 by omega]
      · simp [g2, show ¬ i - 32 < 32 by omega]
  · rintro ⟨⟨h1, h2, h3, h4, h5⟩, h⟩
    have ha : a ≤ 32 := by
      by_cases g : a ≤ 32
      · exact g
      · exfalso
        have e : a = 64 := by unfold IsSize at h1; omega
        subst e
        refine half_not h1 h3 h4 h5 h2 (by decide) ?_
        intro i hi
        rw [h, twice_bit hx, twice_bit hx]
        have hm := Nat.mod_lt i (show 0 < 32 by decide)
        rw [show 64 / 2 = 32 by decide, if_pos hm]
        by_cases g : i < 32
        · rw [if_pos g, Nat.mod_eq_of_lt g]
        · rw [if_neg g, show i % 32 = i - 32 by omega]
    refine ⟨⟨h1, ha, h3, h4, h5⟩, ?_⟩
    apply Nat.eq_of_testBit_eq; intro i
    rw [valN_bit]
    by_cases g : i < 32
    · have := congrArg (fun y => y.testBit i) h
      simp only [valN_bit, twice_bit hx, if_pos g] at this
      rw [← this]; simp [g, show i < 64 by omega]
    · rw [Nat.testBit_lt_two_pow (Nat.lt_of_lt_of_le hx (Nat.pow_le_pow_right (by decide) (show 32 ≤ i by omega)))]
      simp [g]
/-- as the code turns a value over -/
theorem xor_ones {v W : Nat} (h : v < 2 ^ W) : v ^^^ (2 ^ W - 1) = 2 ^ W - 1 - v := by
  apply Nat.eq_of_testBit_eq; intro i
  rw [Nat.testBit_xor, ones_bit, not_bit W _ _ h]
  by_cases g : i < W
  · simp [g]
  · rw [Nat.testBit_lt_two_pow (Nat.lt_of_lt_of_le h (Nat.pow_le_pow_right (by decide) (show W ≤ i by omega)))]
    simp [g]
end Go.Proofs.YtmkeopglgfddjaaDoor.BM
