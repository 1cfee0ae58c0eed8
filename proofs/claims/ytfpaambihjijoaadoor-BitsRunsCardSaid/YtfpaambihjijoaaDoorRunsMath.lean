/-
  The runs of ones of a number of 64 bits: as the code finds them (begins, one after the other; then how many ones), and as the document's loop does. Plain arithmetic; no program is named here.
-/
import Derived.Test.YtfpaambihjijoaaDoorBitsPop
import Derived.Lib.TrailingZeros
namespace Go.Proofs.YtfpaambihjijoaaDoor.BM
open Go

/-- the places of the ones, rising -/
def posOf (x : Nat) : List Nat := (List.range 64).filter fun i => x.testBit i

theorem odd_bits (k m j : Nat) : (2 ^ k * (2 * m + 1)).testBit j = if j < k then false else if j = k then true else m.testBit (j - k - 1) := by
  rw [Nat.testBit_two_pow_mul]
  by_cases h : j < k
  · simp [h, show ¬ (k ≤ j) by omega]
  · by_cases g : j = k
    · subst g; simp
    · have e : j - k = (j - k - 1) + 1 := by omega
      rw [if_neg h, if_neg g, e, Nat.testBit_succ]
      simp [show k ≤ j by omega]
      rw [show (2 * m + 1) / 2 = m by omega]
theorem odd_less (k m : Nat) : 2 ^ k * (2 * m + 1) - 1 = 2 ^ k * (2 * m) + (2 ^ k - 1) := by
  have := Nat.two_pow_pos k
  rw [Nat.mul_add, Nat.mul_one]; omega
/-- what is left without the lowest one -/
theorem left_bits (k m j : Nat) : ((2 ^ k * (2 * m + 1)) &&& (2 ^ k * (2 * m + 1) - 1)).testBit j = ((2 ^ k * (2 * m + 1)).testBit j && decide (j ≠ k)) := by
  have hp := Nat.two_pow_pos k
  rw [Nat.testBit_and, odd_less, Nat.testBit_two_pow_mul_add _ (show 2 ^ k - 1 < 2 ^ k by omega), odd_bits]
  by_cases h : j < k
  · simp [h]
  · by_cases g : j = k
    · subst g; simp
    · have e : j - k = (j - k - 1) + 1 := by omega
      rw [if_neg h, if_neg g, if_neg h, e, Nat.testBit_succ]
      rw [show (2 * m) / 2 = m by omega]
      simp [g]
theorem range_split {k n : Nat} (h : k < n) : List.range n = List.range k ++ k :: (List.range (n - k - 1)).map (· + (k + 1)) := by
  have e : n = k + (1 + (n - k - 1)) := by omega
  rw [show List.range n = List.range (k + (1 + (n - k - 1))) by rw [← e]]
  rw [List.range_add, List.range_add]
  simp [List.map_map, Function.comp_def]
  intro a _; omega
theorem pos_step {x k m : Nat} (hx : x = 2 ^ k * (2 * m + 1)) (hk : k < 64) : posOf x = k :: posOf (x &&& (x - 1)) := by
  subst hx
  unfold posOf
  rw [range_split hk, List.filter_append, List.filter_append, List.filter_cons, List.filter_cons]
  have a1 : (List.range k).filter (fun i => (2 ^ k * (2 * m + 1)).testBit i) = [] := by
    rw [List.filter_eq_nil_iff]; intro i hi; rw [odd_bits, if_pos (by simpa using hi)]; simp
  have a2 : (List.range k).filter (fun i => ((2 ^ k * (2 * m + 1)) &&& (2 ^ k * (2 * m + 1) - 1)).testBit i) = [] := by
    rw [List.filter_eq_nil_iff]; intro i hi; rw [left_bits, odd_bits, if_pos (by simpa using hi)]; simp
  rw [a1, a2]
  have b1 : (2 ^ k * (2 * m + 1)).testBit k = true := by rw [odd_bits]; simp
  have b2 : ((2 ^ k * (2 * m + 1)) &&& (2 ^ k * (2 * m + 1) - 1)).testBit k = false := by rw [left_bits]; simp
  rw [b1, b2]
  simp only [if_true, Bool.false_eq_true, if_false, List.nil_append]
  congr 1
  apply List.filter_congr
  intro i hi
  obtain ⟨t, _, rfl⟩ := List.mem_map.1 hi
  rw [left_bits]
  simp [show t + (k + 1) ≠ k by omega]
theorem left_lt {x : Nat} (h : x ≠ 0) : x &&& (x - 1) < x := Nat.lt_of_le_of_lt Nat.and_le_right (by omega)
theorem pos_zero : posOf 0 = [] := by unfold posOf; rw [List.filter_eq_nil_iff]; intro i _; simp
theorem pos_ctz {x : Nat} (h0 : x ≠ 0) (hx : x < 2 ^ 64) : posOf x = Lib.ctz 64 x :: posOf (x &&& (x - 1)) ∧ Lib.ctz 64 x < 64 := by
  obtain ⟨m, hm, hk⟩ := Lib.ctzFrom_spec 64 x (by omega) hx
  have e : Lib.ctz 64 x = Lib.ctzFrom 64 x := by unfold Lib.ctz; rw [if_neg h0]
  rw [e]
  exact ⟨pos_step hm hk, hk⟩

/-! ### runs -/
/-- where a run begins -/
def begB (v p : Nat) : Bool := v.testBit p && (decide (p = 0) || !v.testBit (p - 1))
/-- how many ones there are from p on -/
def lenFrom : Nat → Nat → Nat → Nat
  | 0, _, _ => 0
  | f + 1, v, p => if v.testBit p then 1 + lenFrom f v (p + 1) else 0
theorem lenFrom_in : ∀ (f v p j : Nat), j < lenFrom f v p → v.testBit (p + j) = true
  | 0, _, _, j, h => by simp [lenFrom] at h
  | f + 1, v, p, j, h => by
    unfold lenFrom at h
    split at h
    · rename_i hb
      cases j with
      | zero => exact hb
      | succ j => rw [show p + (j + 1) = (p + 1) + j by omega]; exact lenFrom_in f v (p + 1) j (by omega)
    · omega
theorem lenFrom_end : ∀ (f v p : Nat), lenFrom f v p < f → v.testBit (p + lenFrom f v p) = false
  | 0, _, _, h => by omega
  | f + 1, v, p, h => by
    unfold lenFrom at h ⊢
    by_cases hb : v.testBit p = true
    · rw [if_pos hb] at h ⊢
      rw [show p + (1 + lenFrom f v (p + 1)) = (p + 1) + lenFrom f v (p + 1) by omega]
      exact lenFrom_end f v (p + 1) (by omega)
    · rw [if_neg hb]; simpa using hb
theorem lenFrom_le : ∀ (f v p : Nat), lenFrom f v p ≤ f
  | 0, _, _ => by simp [lenFrom]
  | f + 1, v, p => by
    unfold lenFrom
    split
    · have := lenFrom_le f v (p + 1); omega
    · omega
/-- as the code finds them -/
def runsC (v : Nat) : List (Nat × Nat) := ((List.range 64).filter (begB v)).map fun p => (p, lenFrom (64 - p) v p)
/-- as the document's loop does: behind i rounds -/
def addOne : List (Nat × Nat) → Nat → List (Nat × Nat)
  | [], i => [(i, 1)]
  | [(a, n)], i => if a + n = i then [(a, n + 1)] else [(a, n), (i, 1)]
  | r :: s :: l, i => r :: addOne (s :: l) i
def runsD (v : Nat) : Nat → List (Nat × Nat)
  | 0 => []
  | i + 1 => if v.testBit i then addOne (runsD v i) i else runsD v i
theorem lenFrom_is : ∀ (f v p n : Nat), n ≤ f → (∀ j, j < n → v.testBit (p + j) = true) → (n < f → v.testBit (p + n) = false) → lenFrom f v p = n
  | 0, _, _, n, h, _, _ => by simp [lenFrom]; omega
  | f + 1, v, p, n, h, ha, he => by
    unfold lenFrom
    cases n with
    | zero => rw [if_neg (by have := he (by omega); simpa using this)]
    | succ n =>
      rw [if_pos (by have := ha 0 (by omega); simpa using this)]
      rw [lenFrom_is f v (p + 1) n (by omega) (fun j hj => by have := ha (j + 1) (by omega); rw [show p + 1 + j = p + (j + 1) by omega]; exact this) (fun hn => by have := he (by omega); rw [show p + 1 + n = p + (n + 1) by omega]; exact this)]
      omega
theorem addOne_snoc (L : List (Nat × Nat)) (a n i : Nat) : addOne (L ++ [(a, n)]) i = if a + n = i then L ++ [(a, n + 1)] else L ++ [(a, n), (i, 1)] := by
  induction L with
  | nil => simp [addOne]
  | cons r L ih =>
    cases L with
    | nil =>
      show r :: addOne [(a, n)] i = _
      simp only [addOne]; split <;> rfl
    | cons q L =>
      show r :: addOne ((q :: L) ++ [(a, n)]) i = _
      rw [ih]; split <;> rfl
theorem addOne_new (L : List (Nat × Nat)) (i : Nat) (h : ∀ r, r ∈ L → r.1 + r.2 < i) : addOne L i = L ++ [(i, 1)] := by
  rcases List.eq_nil_or_concat L with rfl | ⟨K, ⟨a, n⟩, rfl⟩
  · rfl
  · have := h (a, n) (by simp)
    rw [List.concat_eq_append, addOne_snoc, if_neg (by simp at this; omega), List.append_assoc]; rfl
def fullRun (v p : Nat) : Nat × Nat := (p, lenFrom (64 - p) v p)
theorem runs_inv (v : Nat) : ∀ i, i ≤ 64 → ∃ pre : List Nat,
    ((i = 0 ∨ v.testBit (i - 1) = false) ∧ (List.range i).filter (begB v) = pre ∧ runsD v i = pre.map (fullRun v) ∧ ∀ p, p ∈ pre → p + lenFrom (64 - p) v p < i) ∨
    (0 < i ∧ v.testBit (i - 1) = true ∧ ∃ a, a < i ∧ (List.range i).filter (begB v) = pre ++ [a] ∧ (∀ j, a ≤ j → j < i → v.testBit j = true) ∧ runsD v i = pre.map (fullRun v) ++ [(a, i - a)] ∧ ∀ p, p ∈ pre → p + lenFrom (64 - p) v p < i) := by
  intro i
  induction i with
  | zero => intro _; exact ⟨[], .inl ⟨.inl rfl, rfl, rfl, by simp⟩⟩
  | succ i ih =>
    intro hi
    obtain ⟨pre, h⟩ := ih (by omega)
    have hr : (List.range (i + 1)).filter (begB v) = (List.range i).filter (begB v) ++ (if begB v i then [i] else []) := by
      rw [List.range_succ, List.filter_append]; simp [List.filter_cons]
    have hd : runsD v (i + 1) = if v.testBit i then addOne (runsD v i) i else runsD v i := rfl
    rcases h with ⟨h0, hf, hR, hp⟩ | ⟨h0, hb1, a, ha, hf, hall, hR, hp⟩
    · by_cases hb : v.testBit i = true
      · -- a run begins
        have hbeg : begB v i = true := by
          unfold begB; rw [hb]
          rcases h0 with h0 | h0
          · simp [h0]
          · simp [h0]
        refine ⟨pre, .inr ⟨by omega, by simpa using hb, i, by omega, by rw [hr, hf, hbeg]; rfl, fun j h1 h2 => by rw [show j = i by omega]; exact hb, ?_, fun p hm => by have := hp p hm; omega⟩⟩
        rw [hd, if_pos hb, hR, addOne_new]
        · rw [show i + 1 - i = 1 by omega]
        · intro r hm
          obtain ⟨p, hm2, rfl⟩ := List.mem_map.1 hm
          exact hp p hm2
      · have hbeg : begB v i = false := by unfold begB; simp [hb]
        exact ⟨pre, .inl ⟨.inr (by simpa using hb), by rw [hr, hf, hbeg]; simp, by rw [hd, if_neg hb, hR], fun p hm => by have := hp p hm; omega⟩⟩
    · by_cases hb : v.testBit i = true
      · -- the run goes on
        have hbeg : begB v i = false := by
          unfold begB; rw [hb, hb1]; simp; omega
        refine ⟨pre, .inr ⟨by omega, by simpa using hb, a, by omega, by rw [hr, hf, hbeg]; simp, fun j h1 h2 => ?_, ?_, fun p hm => by have := hp p hm; omega⟩⟩
        · by_cases e : j = i
          · rw [e]; exact hb
          · exact hall j h1 (by omega)
        · rw [hd, if_pos hb, hR, addOne_snoc, if_pos (by omega), show i - a + 1 = i + 1 - a by omega]
      · -- the run ends
        have hbeg : begB v i = false := by unfold begB; simp [hb]
        have hl : lenFrom (64 - a) v a = i - a := lenFrom_is _ _ _ _ (by omega) (fun j hj => hall (a + j) (by omega) (by omega)) (fun _ => by rw [show a + (i - a) = i by omega]; simpa using hb)
        refine ⟨pre ++ [a], .inl ⟨.inr (by simpa using hb), by rw [hr, hf, hbeg]; simp, ?_, fun p hm => ?_⟩⟩
        · rw [hd, if_neg hb, hR, List.map_append]
          simp [fullRun, hl]
        · rcases List.mem_append.1 hm with hm | hm
          · have := hp p hm; omega
          · rw [List.mem_singleton.1 hm, hl]; omega
theorem runs_same (v : Nat) : runsD v 64 = runsC v := by
  obtain ⟨pre, h⟩ := runs_inv v 64 (by omega)
  have hc : runsC v = ((List.range 64).filter (begB v)).map (fullRun v) := rfl
  rcases h with ⟨_, hf, hR, _⟩ | ⟨_, _, a, ha, hf, hall, hR, _⟩
  · rw [hc, hf, hR]
  · have hl : lenFrom (64 - a) v a = 64 - a := lenFrom_is _ _ _ _ (by omega) (fun j hj => hall (a + j) (by omega) (by omega)) (fun h => by omega)
    rw [hc, hf, hR, List.map_append]
    simp [fullRun, hl]
/-- the loop sees the lowest bits alone -/
theorem runsD_low {v n : Nat} : ∀ i, i ≤ n → runsD v i = runsD (v % 2 ^ n) i
  | 0, _ => rfl
  | i + 1, h => by
    show (if v.testBit i then addOne (runsD v i) i else runsD v i) = (if (v % 2 ^ n).testBit i then addOne (runsD (v % 2 ^ n) i) i else runsD (v % 2 ^ n) i)
    rw [runsD_low (n := n) i (by omega), Nat.testBit_mod_two_pow]
    simp [show i < n by omega]
theorem runsD_past {v n : Nat} (hv : v < 2 ^ n) : ∀ k, runsD v (n + k) = runsD v n
  | 0 => rfl
  | k + 1 => by
    show (if v.testBit (n + k) then addOne (runsD v (n + k)) (n + k) else runsD v (n + k)) = _
    rw [Nat.testBit_lt_two_pow (Nat.lt_of_lt_of_le hv (Nat.pow_le_pow_right (by decide) (by omega)))]
    simp only [Bool.false_eq_true, if_false]
    exact runsD_past hv k
theorem runs_meet {v n : Nat} (hn : n ≤ 64) : runsD v n = runsC (v % 2 ^ n) := by
  have hlt : v % 2 ^ n < 2 ^ n := Nat.mod_lt _ (Nat.two_pow_pos n)
  have := runsD_past hlt (64 - n)
  rw [show n + (64 - n) = 64 by omega] at this
  rw [runsD_low n (Nat.le_refl _), ← this, runs_same]

/-! ### as the code reckons -/
theorem begins_bits {v : Nat} (i : Nat) (hi : i < 64) : (v &&& (2 ^ 64 - 1 - v * 2 % 2 ^ 64)).testBit i = begB v i := by
  have hm : v * 2 % 2 ^ 64 < 2 ^ 64 := Nat.mod_lt _ (Nat.two_pow_pos 64)
  have e : v * 2 = 2 ^ 1 * v := by omega
  rw [Nat.testBit_and, not_bit _ _ _ hm, Nat.testBit_mod_two_pow, e, Nat.testBit_two_pow_mul]
  unfold begB
  cases i with
  | zero => simp
  | succ i => simp [hi]
theorem pos_begins (v : Nat) : posOf (v &&& (2 ^ 64 - 1 - v * 2 % 2 ^ 64)) = (List.range 64).filter (begB v) := by
  unfold posOf
  apply List.filter_congr
  intro i hi
  exact begins_bits i (by simpa using hi)
theorem tz_len {v p : Nat} (hv : v < 2 ^ 64) (hp : p < 64) : Lib.ctz 64 (2 ^ 64 - 1 - v / 2 ^ p) = lenFrom (64 - p) v p := by
  have hd : v / 2 ^ p < 2 ^ (64 - p) := div_lt_pow hv (by omega)
  have hd64 : v / 2 ^ p < 2 ^ 64 := Nat.lt_of_le_of_lt (Nat.div_le_self _ _) hv
  have hbit : ∀ j, (2 ^ 64 - 1 - v / 2 ^ p).testBit j = (decide (j < 64) && !v.testBit (p + j)) := fun j => by
    rw [not_bit _ _ _ hd64, Nat.testBit_div_two_pow, Nat.add_comm]
  by_cases h0 : 2 ^ 64 - 1 - v / 2 ^ p = 0
  · have e : Lib.ctz 64 (2 ^ 64 - 1 - v / 2 ^ p) = 64 := by rw [h0]; rfl
    have hp0 : p = 0 := by
      by_cases g : p = 0
      · exact g
      · exfalso
        have : 2 ^ (64 - p) ≤ 2 ^ 63 := Nat.pow_le_pow_right (by decide) (by omega)
        have e1 : 2 ^ 63 = 9223372036854775808 := by decide
        have e2 : 2 ^ 64 = 18446744073709551616 := by decide
        rw [e1] at this
        rw [e2] at h0
        omega
    subst hp0
    rw [e]
    symm
    apply lenFrom_is
    · omega
    · intro j hj
      have := hbit j
      rw [h0, Nat.zero_testBit] at this
      simp [show j < 64 by omega] at this
      simpa using this
    · omega
  · have hlt : 2 ^ 64 - 1 - v / 2 ^ p < 2 ^ 64 := Nat.lt_of_le_of_lt (Nat.sub_le _ _) (by decide)
    obtain ⟨m, hm, hk⟩ := Lib.ctzFrom_spec 64 (2 ^ 64 - 1 - v / 2 ^ p) (by omega) hlt
    have e : Lib.ctz 64 (2 ^ 64 - 1 - v / 2 ^ p) = Lib.ctzFrom 64 (2 ^ 64 - 1 - v / 2 ^ p) := by unfold Lib.ctz; rw [if_neg h0]
    rw [e]
    generalize Lib.ctzFrom 64 (2 ^ 64 - 1 - v / 2 ^ p) = k at *
    rw [hm] at hbit
    have hle : k ≤ 64 - p := by
      by_cases g : k ≤ 64 - p
      · exact g
      · exfalso
        have h1 := hbit (64 - p)
        rw [odd_bits, if_pos (by omega), show p + (64 - p) = 64 by omega, Nat.testBit_lt_two_pow hv] at h1
        simp at h1; omega
    symm
    apply lenFrom_is _ _ _ _ hle
    · intro j hj
      have h1 := hbit j
      rw [odd_bits, if_pos hj] at h1
      simp [show j < 64 by omega] at h1
      exact h1
    · intro hkp
      have h1 := hbit k
      rw [odd_bits, if_neg (by omega), if_pos rfl] at h1
      simpa [show k < 64 by omega] using h1.symm
end Go.Proofs.YtfpaambihjijoaaDoor.BM
