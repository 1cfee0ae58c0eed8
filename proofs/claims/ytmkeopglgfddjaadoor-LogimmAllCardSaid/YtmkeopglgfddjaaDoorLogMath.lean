/-
  The patterns of logical immediates, as numbers: how the value of a pattern stands, that a value has one pattern at most, and how it is found. No program is named here. No conditions beyond those that each lemma states.
-/
import Derived.Test.YtmkeopglgfddjaaDoorBitsMath
import Derived.Lib.TrailingZeros
namespace Go.Proofs.YtmkeopglgfddjaaDoor.BM
open Go

/-- does place i of a pattern hold a one: an element of s places, n ones, turned by t -/
def bitP (s n t i : Nat) : Bool := decide ((i % s + t) % s < n)
/-- a pattern's value over W places -/
def valN (s n t : Nat) : Nat → Nat
  | 0 => 0
  | W + 1 => valN s n t W + (if bitP s n t W then 2 ^ W else 0)

theorem valN_lt (s n t W : Nat) : valN s n t W < 2 ^ W := by
  induction W with
  | zero => simp [valN]
  | succ W ih => simp only [valN]; rw [Nat.pow_succ]; split <;> omega
theorem valN_bit (s n t W i : Nat) : (valN s n t W).testBit i = (decide (i < W) && bitP s n t i) := by
  induction W with
  | zero => simp [valN]
  | succ W ih =>
    have hl := valN_lt s n t W
    simp only [valN]
    by_cases hb : bitP s n t W = true
    · rw [if_pos hb, Nat.add_comm, show 2 ^ W + valN s n t W = 2 ^ W * 1 + valN s n t W by omega, Nat.testBit_two_pow_mul_add _ hl]
      by_cases h1 : i < W
      · rw [if_pos h1, ih]; simp [h1, show i < W + 1 by omega]
      · rw [if_neg h1]
        by_cases h2 : i = W
        · subst h2; simp [hb]
        · rw [show (1 : Nat) = 2 ^ 0 from rfl, Nat.testBit_two_pow]
          simp [show ¬ i < W + 1 by omega]; omega
    · rw [if_neg hb, Nat.add_zero, ih]
      by_cases h1 : i < W
      · simp [h1, show i < W + 1 by omega]
      · by_cases h2 : i = W
        · subst h2; simp [hb]
        · simp [h1, show ¬ i < W + 1 by omega]
theorem valN_or (s n t W : Nat) : valN s n t (W + 1) = valN s n t W ||| (if bitP s n t W then 2 ^ W else 0) := by
  apply Nat.eq_of_testBit_eq; intro i
  rw [Nat.testBit_or, valN_bit, valN_bit]
  by_cases hb : bitP s n t W = true
  · rw [if_pos hb, Nat.testBit_two_pow]
    by_cases h2 : W = i
    · subst h2; simp [hb]
    · by_cases h1 : i < W
      · simp [h1, h2, show i < W + 1 by omega]
      · simp [h1, h2, show ¬ i < W + 1 by omega]
  · rw [if_neg hb]
    by_cases h2 : W = i
    · subst h2; simp [hb]
    · by_cases h1 : i < W
      · simp [h1, show i < W + 1 by omega]
      · simp [h1, show ¬ i < W + 1 by omega]

/-- the sizes of elements -/
def IsSize (s : Nat) : Prop := s = 2 ∨ s = 4 ∨ s = 8 ∨ s = 16 ∨ s = 32 ∨ s = 64
/-- a pattern of a width -/
def Valid (s n t W : Nat) : Prop := IsSize s ∧ s ≤ W ∧ 1 ≤ n ∧ n < s ∧ t < s
def IsW (W : Nat) : Prop := W = 32 ∨ W = 64
theorem size_dvd {s s' : Nat} (h : IsSize s) (h' : IsSize s') (hl : s < s') : ∃ m, s' / 2 = s * m ∧ s' = s' / 2 * 2 := by
  unfold IsSize at h h'
  rcases h with rfl | rfl | rfl | rfl | rfl | rfl <;> rcases h' with rfl | rfl | rfl | rfl | rfl | rfl <;> first | omega | (refine ⟨1, ?_⟩; omega) | (refine ⟨2, ?_⟩; omega) | (refine ⟨4, ?_⟩; omega) | (refine ⟨8, ?_⟩; omega) | (refine ⟨16, ?_⟩; omega)
theorem size_w {s W : Nat} (h : IsSize s) (hW : IsW W) (hl : s ≤ W) : ∃ m, W = s * m ∧ 1 ≤ m := by
  unfold IsSize at h; unfold IsW at hW
  rcases h with rfl | rfl | rfl | rfl | rfl | rfl <;> rcases hW with rfl | rfl <;> first | omega | (refine ⟨1, ?_⟩; omega) | (refine ⟨2, ?_⟩; omega) | (refine ⟨4, ?_⟩; omega) | (refine ⟨8, ?_⟩; omega) | (refine ⟨16, ?_⟩; omega) | (refine ⟨32, ?_⟩; omega)
theorem size_bd {s : Nat} (h : IsSize s) : 2 ≤ s ∧ s ≤ 64 := by unfold IsSize at h; omega
theorem w_bd {W : Nat} (h : IsW W) : 32 ≤ W ∧ W ≤ 64 := by unfold IsW at h; omega

/-- again and again every s places -/
def Per (v s W : Nat) : Prop := ∀ i, i < W → v.testBit i = v.testBit (i % s)
theorem per_val {s n t W : Nat} (hs : 1 ≤ s) (hl : s ≤ W) : Per (valN s n t W) s W := fun i hi => by
  have := Nat.mod_lt i hs
  rw [valN_bit, valN_bit]; unfold bitP
  rw [Nat.mod_mod]; simp [hi, show i % s < W by omega]
theorem per_mul {v s m W : Nat} (hl : s * m ≤ W) (hs : 1 ≤ s) (hm : 1 ≤ m) (h : Per v s W) : Per v (s * m) W := fun i hi => by
  have hlt := Nat.mod_lt i (Nat.mul_pos hs hm)
  rw [h i hi, h (i % (s * m)) (by omega), Nat.mod_mul_right_mod]
/-- where an element is one, its half is none -/
theorem half_not {s n t W : Nat} (hs : IsSize s) (h1 : 1 ≤ n) (hn : n < s) (ht : t < s) (hl : s ≤ W) (h2 : s = s / 2 * 2) : ¬ Per (valN s n t W) (s / 2) W := by
  intro h
  have hb := size_bd hs
  obtain ⟨H, hH⟩ : ∃ H, s / 2 = H := ⟨_, rfl⟩
  rw [hH] at h h2
  have hH0 : 1 ≤ H := by omega
  -- places with index j
  have at_ : ∀ j, j < s → bitP s n t ((j + (s - t)) % s) = decide (j < n) := fun j hj => by
    unfold bitP
    rw [Nat.mod_mod, Nat.mod_add_mod, show j + (s - t) + t = j + s by omega, Nat.add_mod_right, Nat.mod_eq_of_lt hj]
  have same : ∀ j, j < H → bitP s n t ((j + H + (s - t)) % s) = bitP s n t ((j + (s - t)) % s) := fun j hj => by
    have l1 := Nat.mod_lt (j + H + (s - t)) (show 0 < s by omega)
    have l2 := Nat.mod_lt (j + (s - t)) (show 0 < s by omega)
    have a := h ((j + H + (s - t)) % s) (by omega)
    have b := h ((j + (s - t)) % s) (by omega)
    have e : (j + H + (s - t)) % s % H = (j + (s - t)) % s % H := by
      rw [h2, Nat.mod_mul_right_mod, Nat.mod_mul_right_mod, show j + H + (H * 2 - t) = j + (H * 2 - t) + H by omega, Nat.add_mod_right]
    have c := a.trans ((congrArg (valN s n t W).testBit e).trans b.symm)
    rw [valN_bit, valN_bit] at c
    simpa [show (j + H + (s - t)) % s < W by omega, show (j + (s - t)) % s < W by omega] using c
  have a0 := same 0 (by omega)
  have a1 := same (H - 1) (by omega)
  rw [at_ _ (by omega), at_ _ (by omega)] at a0 a1
  simp at a0 a1
  omega

/-- a turned number's places -/
theorem turnN_bit {v s t i : Nat} (hv : v < 2 ^ s) (ht : t < s) (hi : i < s) : (turnN v s t).testBit i = v.testBit ((i + t) % s) := by
  have h1 := div_lt_pow hv (Nat.le_of_lt ht)
  have e : turnN v s t = 2 ^ (s - t) * (v % 2 ^ t) + v / 2 ^ t := by unfold turnN; rw [Nat.mul_comm (v % 2 ^ t)]; omega
  rw [e, Nat.testBit_two_pow_mul_add _ h1]
  by_cases g : i < s - t
  · rw [if_pos g, Nat.testBit_div_two_pow, Nat.mod_eq_of_lt (by omega)]
  · rw [if_neg g, Nat.testBit_mod_two_pow, show (i + t) % s = i + t - s by rw [show i + t = i + t - s + s by omega, Nat.add_mod_right, Nat.mod_eq_of_lt (by omega)]; omega,
      show i - (s - t) = i + t - s by omega]
    simp; intro _; omega
/-- the element of a value -/
theorem val_elem {s n t W : Nat} (_hs : 1 ≤ s) (hn : n ≤ s) (ht : t < s) (hl : s ≤ W) : valN s n t W % 2 ^ s = turnN (2 ^ n - 1) s t := by
  have hn2 : 2 ^ n ≤ 2 ^ s := Nat.pow_le_pow_right (by decide) hn
  have hp := Nat.two_pow_pos n
  have hv : 2 ^ n - 1 < 2 ^ s := by omega
  apply Nat.eq_of_testBit_eq; intro i
  rw [Nat.testBit_mod_two_pow, valN_bit]
  by_cases g : i < s
  · rw [turnN_bit hv ht g, ones_bit]; unfold bitP
    simp [g, show i < W by omega, Nat.mod_eq_of_lt g]
  · rw [Nat.testBit_lt_two_pow (Nat.lt_of_lt_of_le (turnN_lt hv (Nat.le_of_lt ht)) (Nat.pow_le_pow_right (by decide) (show s ≤ i by omega)))]
    simp [g]
theorem pop_ones (n : Nat) : pop n (2 ^ n - 1) = n := by
  induction n with
  | zero => rfl
  | succ n ih =>
    have hp := Nat.two_pow_pos n
    simp only [pop]
    rw [Nat.pow_succ, show (2 ^ n * 2 - 1) / 2 = 2 ^ n - 1 by omega, ih]; omega
theorem pop_val {s n t W : Nat} (hs : 1 ≤ s) (hn : n ≤ s) (ht : t < s) (hl : s ≤ W) : pop s (valN s n t W) = n := by
  have hn2 : 2 ^ n ≤ 2 ^ s := Nat.pow_le_pow_right (by decide) hn
  have hp := Nat.two_pow_pos n
  have hv : 2 ^ n - 1 < 2 ^ s := by omega
  rw [← pop_mod, val_elem hs hn ht hl, pop_turn hv (Nat.le_of_lt ht), pop_more (show 2 ^ n - 1 < 2 ^ n by omega) hn, pop_ones]

/-- where a run begins: a one, with a zero below it, all around -/
theorem pop_one {k b : Nat} (hb : b < 2 ^ k) : pop k b = 1 ↔ ∃ i, i < k ∧ b = 2 ^ i := by
  induction k generalizing b with
  | zero => simp [pop]
  | succ k ih =>
    have hb2 : b / 2 < 2 ^ k := by rw [Nat.pow_succ] at hb; omega
    have h0 : ∀ k x, x < 2 ^ k → pop k x = 0 → x = 0 := by
      intro k
      induction k with
      | zero => intro x hx _; simp at hx; exact hx
      | succ k ih => intro x hx h; simp only [pop] at h; have := ih (x / 2) (by rw [Nat.pow_succ] at hx; omega) (by omega); omega
    simp only [pop]
    constructor
    · intro h
      by_cases o : b % 2 = 1
      · have := h0 k (b / 2) hb2 (by omega)
        exact ⟨0, by omega, by simp; omega⟩
      · obtain ⟨i, hi, e⟩ := (ih hb2).1 (by omega)
        exact ⟨i + 1, by omega, by rw [Nat.pow_succ]; omega⟩
    · rintro ⟨i, hi, e⟩
      cases i with
      | zero => simp at e; subst e; simp [pop_zero]
      | succ i =>
        have := (ih hb2).2 ⟨i, by omega, by rw [Nat.pow_succ] at e; omega⟩
        rw [Nat.pow_succ] at e; omega
theorem ctz_two_pow {i : Nat} (h : i < 64) : Lib.ctz 64 (2 ^ i) = i := by
  have hp := Nat.two_pow_pos i
  have hlt : 2 ^ i < 2 ^ 64 := Nat.pow_lt_pow_right (by decide) h
  obtain ⟨m, hm, hk⟩ := Lib.ctzFrom_spec 64 (2 ^ i) hp hlt
  have e : Lib.ctz 64 (2 ^ i) = Lib.ctzFrom 64 (2 ^ i) := by unfold Lib.ctz; rw [if_neg (by omega)]
  rw [e]
  generalize Lib.ctzFrom 64 (2 ^ i) = k at *
  rcases Nat.lt_trichotomy k i with hl | hl | hl
  · exfalso
    rw [show i = k + (i - k - 1 + 1) by omega, Nat.pow_add] at hm
    have := Nat.eq_of_mul_eq_mul_left (Nat.two_pow_pos k) hm
    rw [Nat.pow_succ] at this; omega
  · exact hl
  · exfalso
    rw [show k = i + (k - i - 1 + 1) by omega, Nat.pow_add, Nat.pow_succ, Nat.mul_assoc] at hm
    have h1 : 2 ^ i * 1 = 2 ^ i * (2 ^ (k - i - 1) * 2 * (2 * m + 1)) := by rw [Nat.mul_one]; exact hm
    have := Nat.eq_of_mul_eq_mul_left hp h1
    rw [Nat.mul_assoc, Nat.mul_comm, Nat.mul_assoc] at this; omega

/-- the begins of runs of an element, as the code marks them -/
def begN (e s : Nat) : Nat := e &&& (2 ^ 64 - 1 - (e * 2 % 2 ^ 64 ||| e / 2 ^ (s - 1)))
theorem begN_bit {e s i : Nat} (h1 : 1 ≤ s) (h64 : s ≤ 64) (he : e < 2 ^ s) (hi : i < s) : (begN e s).testBit i = (e.testBit i && !e.testBit ((i + s - 1) % s)) := by
  have hp : 2 ^ s ≤ 2 ^ 64 := Nat.pow_le_pow_right (by decide) h64
  have hd : e / 2 ^ (s - 1) < 2 ^ 64 := Nat.lt_of_le_of_lt (Nat.div_le_self _ _) (by omega)
  have hx : e * 2 % 2 ^ 64 ||| e / 2 ^ (s - 1) < 2 ^ 64 := Nat.or_lt_two_pow (Nat.mod_lt _ (Nat.two_pow_pos _)) hd
  unfold begN
  rw [Nat.testBit_and, not_bit 64 _ _ hx, Nat.testBit_or, Nat.testBit_mod_two_pow, show e * 2 = 2 ^ 1 * e by omega, Nat.testBit_two_pow_mul, Nat.testBit_div_two_pow]
  by_cases g : i = 0
  · subst g
    rw [show (0 + s - 1) % s = s - 1 by rw [Nat.mod_eq_of_lt]; all_goals omega]
    simp
  · rw [show (i + s - 1) % s = i - 1 by rw [show i + s - 1 = i - 1 + s by omega, Nat.add_mod_right, Nat.mod_eq_of_lt (by omega)],
      Nat.testBit_lt_two_pow (x := e) (Nat.lt_of_lt_of_le he (Nat.pow_le_pow_right (by decide) (show s ≤ i + (s - 1) by omega)))]
    simp [show i < 64 by omega, show 1 ≤ i by omega]
theorem begN_lt {e s : Nat} (he : e < 2 ^ s) : begN e s < 2 ^ s := Nat.lt_of_le_of_lt Nat.and_le_left he

/-- one begin alone: the element is one run, turned -/
theorem one_run {e s i0 : Nat} (h1 : 2 ≤ s) (h64 : s ≤ 64) (he : e < 2 ^ s) (hi : i0 < s) (hb : begN e s = 2 ^ i0) :
    ∃ n, 1 ≤ n ∧ n < s ∧ e = turnN (2 ^ n - 1) s ((s - i0) % s) ∧ pop s e = n := by
  have beg : ∀ i, i < s → (e.testBit i && !e.testBit ((i + s - 1) % s)) = decide (i0 = i) := fun i h => by
    rw [← begN_bit (by omega) h64 he h, hb, Nat.testBit_two_pow]
  -- the place k steps behind the begin
  have b0 : e.testBit ((i0 + 0) % s) = true := by
    have := beg i0 hi
    rw [Nat.add_zero, Nat.mod_eq_of_lt hi]
    simp at this; exact this.1
  have bl : e.testBit ((i0 + (s - 1)) % s) = false := by
    have := beg i0 hi
    rw [show i0 + (s - 1) = i0 + s - 1 by omega]
    simp at this; exact this.2
  have step : ∀ k, k + 1 < s → e.testBit ((i0 + k) % s) = false → e.testBit ((i0 + (k + 1)) % s) = false := fun k hk hf => by
    have hlt := Nat.mod_lt (i0 + (k + 1)) (show 0 < s by omega)
    have := beg _ hlt
    have e1 : ((i0 + (k + 1)) % s + s - 1) % s = (i0 + k) % s := by
      by_cases g : i0 + (k + 1) < s
      · rw [Nat.mod_eq_of_lt g, show i0 + (k + 1) + s - 1 = i0 + k + s by omega, Nat.add_mod_right]
      · rw [show (i0 + (k + 1)) % s = i0 + (k + 1) - s by rw [show i0 + (k + 1) = i0 + (k + 1) - s + s by omega, Nat.add_mod_right, Nat.mod_eq_of_lt (by omega)]; omega,
          show i0 + (k + 1) - s + s - 1 = i0 + k by omega]
    have ne : i0 ≠ (i0 + (k + 1)) % s := by
      by_cases g : i0 + (k + 1) < s
      · rw [Nat.mod_eq_of_lt g]; omega
      · rw [show (i0 + (k + 1)) % s = i0 + (k + 1) - s by rw [show i0 + (k + 1) = i0 + (k + 1) - s + s by omega, Nat.add_mod_right, Nat.mod_eq_of_lt (by omega)]; omega]
        omega
    rw [e1, hf] at this
    simpa [ne] using this
  have stay : ∀ d k, k + d < s → e.testBit ((i0 + k) % s) = false → e.testBit ((i0 + (k + d)) % s) = false := fun d => by
    induction d with
    | zero => intro k _ h; exact h
    | succ d ih => intro k hk h; exact step (k + d) (by omega) (ih k (by omega) h)
  have main : ∀ m, m < s → (∀ k, k ≤ m → e.testBit ((i0 + k) % s) = true) ∨ ∃ n, 1 ≤ n ∧ n ≤ m ∧ ∀ k, k < s → e.testBit ((i0 + k) % s) = decide (k < n) := fun m => by
    induction m with
    | zero => intro _; exact .inl (fun k hk => by rw [show k = 0 by omega]; exact b0)
    | succ m ih =>
      intro hm
      rcases ih (by omega) with h | ⟨n, a, b, c⟩
      · by_cases g : e.testBit ((i0 + (m + 1)) % s) = true
        · exact .inl (fun k hk => by
            by_cases q : k = m + 1
            · subst q; exact g
            · exact h k (by omega))
        · refine .inr ⟨m + 1, by omega, Nat.le_refl _, fun k hk => ?_⟩
          by_cases q : k < m + 1
          · rw [h k (by omega)]; simp [q]
          · have := stay (k - (m + 1)) (m + 1) (by omega) (by simpa using g)
            rw [show m + 1 + (k - (m + 1)) = k by omega] at this
            rw [this]; simp [q]
      · exact .inr ⟨n, a, by omega, c⟩
  rcases main (s - 1) (by omega) with h | ⟨n, a, b, c⟩
  · have := h (s - 1) (Nat.le_refl _); rw [bl] at this; cases this
  · have hn2 : 2 ^ n ≤ 2 ^ s := Nat.pow_le_pow_right (by decide) (by omega)
    have hp := Nat.two_pow_pos n
    have hv : 2 ^ n - 1 < 2 ^ s := by omega
    have ht := Nat.mod_lt (s - i0) (show 0 < s by omega)
    have ee : e = turnN (2 ^ n - 1) s ((s - i0) % s) := by
      apply Nat.eq_of_testBit_eq; intro i
      by_cases g : i < s
      · rw [turnN_bit hv ht g, ones_bit]
        have hk := Nat.mod_lt (i + (s - i0)) (show 0 < s by omega)
        have := c _ hk
        rw [Nat.add_mod_mod, show i0 + (i + (s - i0)) = i + s by omega, Nat.add_mod_right, Nat.mod_eq_of_lt g] at this
        rw [this, Nat.add_mod_mod]
      · rw [Nat.testBit_lt_two_pow (Nat.lt_of_lt_of_le he (Nat.pow_le_pow_right (by decide) (show s ≤ i by omega))),
          Nat.testBit_lt_two_pow (Nat.lt_of_lt_of_le (turnN_lt hv (Nat.le_of_lt ht)) (Nat.pow_le_pow_right (by decide) (show s ≤ i by omega)))]
    refine ⟨n, a, by omega, ee, ?_⟩
    rw [ee, pop_turn hv (Nat.le_of_lt ht), pop_more (show 2 ^ n - 1 < 2 ^ n by omega) (by omega), pop_ones]
/-- a turned run has one begin -/
theorem run_one {s n t : Nat} (h1 : 2 ≤ s) (h64 : s ≤ 64) (hn1 : 1 ≤ n) (hn : n < s) (ht : t < s) : begN (turnN (2 ^ n - 1) s t) s = 2 ^ ((s - t) % s) := by
  have hn2 : 2 ^ n ≤ 2 ^ s := Nat.pow_le_pow_right (by decide) (by omega)
  have hp := Nat.two_pow_pos n
  have hv : 2 ^ n - 1 < 2 ^ s := by omega
  have he := turnN_lt hv (Nat.le_of_lt ht)
  have hi := Nat.mod_lt (s - t) (show 0 < s by omega)
  apply Nat.eq_of_testBit_eq; intro i
  rw [Nat.testBit_two_pow]
  by_cases g : i < s
  · have l2 := Nat.mod_lt (i + s - 1) (show 0 < s by omega)
    rw [begN_bit (by omega) h64 he g, turnN_bit hv ht g, turnN_bit hv ht l2, ones_bit, ones_bit, Nat.mod_add_mod]
    have e1 : (s - t) % s = if t = 0 then 0 else s - t := by
      split
      · rw [show s - t = s by omega, Nat.mod_self]
      · rw [Nat.mod_eq_of_lt (by omega)]
    have e2 : (i + t) % s = if i + t < s then i + t else i + t - s := by
      split
      · rw [Nat.mod_eq_of_lt (by omega)]
      · rw [show i + t = i + t - s + s by omega, Nat.add_mod_right, Nat.mod_eq_of_lt (by omega)]; omega
    have e3 : (i + s - 1 + t) % s = if i + t = 0 then s - 1 else if i + t - 1 < s then i + t - 1 else i + t - 1 - s := by
      split
      · rw [Nat.mod_eq_of_lt (by omega)]; omega
      · rw [show i + s - 1 + t = i + t - 1 + s by omega, Nat.add_mod_right]
        split
        · rw [Nat.mod_eq_of_lt (by omega)]
        · rw [show i + t - 1 = i + t - 1 - s + s by omega, Nat.add_mod_right, Nat.mod_eq_of_lt (by omega)]; omega
    rw [e1, e2, e3]
    rw [Bool.eq_iff_iff]
    simp only [Bool.and_eq_true, Bool.not_eq_true', decide_eq_true_eq, decide_eq_false_iff_not]
    split <;> split <;> split <;> first | omega | (split <;> omega)
  · rw [Nat.testBit_lt_two_pow (Nat.lt_of_lt_of_le (begN_lt he) (Nat.pow_le_pow_right (by decide) (show s ≤ i by omega)))]
    simp; omega

/-- the shortest element: s is one, and its half is none -/
def Short (v s W : Nat) : Prop := IsSize s ∧ s ≤ W ∧ Per v s W ∧ (s = 2 ∨ ¬ Per v (s / 2) W)
/-- the pattern that is found in a value, if any -/
def FoundP (v W s n t : Nat) : Prop := Valid s n t W ∧ valN s n t W = v
theorem val_of {v s n t W : Nat} (hs : 1 ≤ s) (hn : n ≤ s) (ht : t < s) (_hl : s ≤ W) (hv : v < 2 ^ W) (hp : Per v s W) (he : v % 2 ^ s = turnN (2 ^ n - 1) s t) : valN s n t W = v := by
  have hn2 : 2 ^ n ≤ 2 ^ s := Nat.pow_le_pow_right (by decide) hn
  have h2 := Nat.two_pow_pos n
  have hv1 : 2 ^ n - 1 < 2 ^ s := by omega
  apply Nat.eq_of_testBit_eq; intro i
  rw [valN_bit]
  by_cases g : i < W
  · have hm := Nat.mod_lt i hs
    rw [hp i g]
    have : (v % 2 ^ s).testBit (i % s) = v.testBit (i % s) := by rw [Nat.testBit_mod_two_pow]; simp [hm]
    rw [← this, he, turnN_bit hv1 ht hm, ones_bit]; simp [g, bitP]
  · rw [Nat.testBit_lt_two_pow (Nat.lt_of_lt_of_le hv (Nat.pow_le_pow_right (by decide) (show W ≤ i by omega)))]
    simp [g]
theorem found_yes {v W s : Nat} (_hW : IsW W) (hv : v < 2 ^ W) (hs : Short v s W) (hb : pop 64 (begN (v % 2 ^ s) s) = 1) :
    FoundP v W s (pop 64 (v % 2 ^ s)) ((s - Lib.ctz 64 (begN (v % 2 ^ s) s)) % s) := by
  obtain ⟨h1, h2, h3, _⟩ := hs
  have hbd := size_bd h1
  have he : v % 2 ^ s < 2 ^ s := Nat.mod_lt _ (Nat.two_pow_pos s)
  have hbl := begN_lt he
  rw [pop_more hbl hbd.2, pop_one hbl] at hb
  obtain ⟨i, hi, hb⟩ := hb
  obtain ⟨n, a, b, c, d⟩ := one_run hbd.1 hbd.2 he hi hb
  rw [hb, ctz_two_pow (by omega), pop_more he hbd.2, d]
  have ht := Nat.mod_lt (s - i) (show 0 < s by omega)
  exact ⟨⟨h1, h2, a, b, ht⟩, val_of (by omega) (Nat.le_of_lt b) ht h2 hv h3 c⟩
theorem short_val {s n t s' W : Nat} (_hW : IsW W) (h : Valid s n t W) (hs : Short (valN s n t W) s' W) : s' = s := by
  obtain ⟨a1, a2, a3, a4, a5⟩ := h
  obtain ⟨b1, b2, b3, b4⟩ := hs
  have hb := size_bd a1
  have hb' := size_bd b1
  rcases Nat.lt_trichotomy s' s with g | g | g
  · exfalso
    obtain ⟨m, e1, e2⟩ := size_dvd b1 a1 g
    have hm : 1 ≤ m := by rcases Nat.eq_zero_or_pos m with rfl | q; · simp at e1; omega
                          · exact q
    refine half_not a1 a3 a4 a5 a2 e2 ?_
    rw [e1]
    exact per_mul (by rw [← e1]; omega) (by omega) hm b3
  · exact g
  · exfalso
    obtain ⟨m, e1, e2⟩ := size_dvd a1 b1 g
    have hm : 1 ≤ m := by rcases Nat.eq_zero_or_pos m with rfl | q; · simp at e1; omega
                          · exact q
    rcases b4 with q | q
    · omega
    · refine q ?_
      rw [e1]
      exact per_mul (by rw [← e1]; omega) (by omega) hm (per_val (by omega) a2)
theorem found_no {v W s : Nat} (hW : IsW W) (hs : Short v s W) (hb : pop 64 (begN (v % 2 ^ s) s) ≠ 1) : ∀ s' n t, ¬ FoundP v W s' n t := by
  rintro s' n t ⟨h, rfl⟩
  have e := short_val hW h hs
  subst e
  obtain ⟨a1, a2, a3, a4, a5⟩ := h
  have hbd := size_bd a1
  apply hb
  have he : turnN (2 ^ n - 1) s t < 2 ^ s := by
    have hn2 : 2 ^ n ≤ 2 ^ s := Nat.pow_le_pow_right (by decide) (Nat.le_of_lt a4)
    have h2 := Nat.two_pow_pos n
    exact turnN_lt (by omega) (Nat.le_of_lt a5)
  have hbl := begN_lt he
  rw [val_elem (by omega) (Nat.le_of_lt a4) a5 a2, pop_more hbl hbd.2, pop_one hbl, run_one hbd.1 hbd.2 a3 a4 a5]
  exact ⟨_, Nat.mod_lt _ (by omega), rfl⟩
theorem found_one {v W s n t s' n' t' : Nat} (hW : IsW W) (h : FoundP v W s n t) (h' : FoundP v W s' n' t') : s = s' ∧ n = n' ∧ t = t' := by
  obtain ⟨h, rfl⟩ := h
  obtain ⟨h', e⟩ := h'
  have a := h; have a' := h'
  obtain ⟨a1, a2, a3, a4, a5⟩ := a
  obtain ⟨b1, b2, b3, b4, b5⟩ := a'
  have hbd := size_bd a1
  have hbd' := size_bd b1
  have e1 : s = s' := by
    refine short_val hW h' ?_
    rw [e]
    refine ⟨a1, a2, per_val (by omega) a2, ?_⟩
    by_cases g : s = 2
    · exact .inl g
    · refine .inr (half_not a1 a3 a4 a5 a2 ?_)
      unfold IsSize at a1; omega
  subst e1
  have e2 : n = n' := by
    rw [← pop_val (by omega) (Nat.le_of_lt a4) a5 a2, ← e, pop_val (by omega) (Nat.le_of_lt b4) b5 b2]
  subst e2
  refine ⟨rfl, rfl, ?_⟩
  have x := run_one hbd.1 hbd.2 a3 a4 a5
  have y := run_one hbd.1 hbd.2 b3 b4 b5
  rw [← val_elem (by omega) (Nat.le_of_lt a4) a5 a2] at x
  rw [← val_elem (by omega) (Nat.le_of_lt b4) b5 b2, e, x] at y
  have z : (s - t) % s = (s - t') % s := by
    rcases Nat.lt_trichotomy ((s - t) % s) ((s - t') % s) with q | q | q
    · have := Nat.pow_lt_pow_right (show 1 < 2 by decide) q; omega
    · exact q
    · have := Nat.pow_lt_pow_right (show 1 < 2 by decide) q; omega
  have m : ∀ t, t < s → (s - t) % s = if t = 0 then 0 else s - t := fun t ht => by
    split
    · rw [show s - t = s by omega, Nat.mod_self]
    · rw [Nat.mod_eq_of_lt (by omega)]
  rw [m t a5, m t' b5] at z
  split at z <;> split at z <;> omega
end Go.Proofs.YtmkeopglgfddjaaDoor.BM
