/-
  Mathematics of a distance filled into a word, and read there: there and back, and nothing else of the word changes. Of no program. No conditions beyond those that each lemma states.
-/
import Derived.Test.YtjkhgljlipljdaaDoorEncU
import Derived.Test.YtjkhgljlipljdaaDoorBits
import Derived.Test.YtjkhgljlipljdaaDoorEncR
import Derived.Laws.BitsAllLaws
import Derived.Test.YtjkhgljlipljdaaDoorEncV
import Derived.Test.YtjkhgljlipljdaaDoorFixO
import Derived.Laws.BytesArg
namespace Go.Proofs.YtjkhgljlipljdaaDoor
open Go.RowKit
set_option linter.unusedVariables false
set_option linter.unusedSimpArgs false

theorem mix_bit (x wd mk i : Nat) (hx : x < 2 ^ 32) (hm : mk < 2 ^ 32) : ((x &&& (4294967295 - mk)) ||| (wd &&& mk)).testBit i = if mk.testBit i = true then wd.testBit i else x.testBit i := by
  have h := Nat.testBit_two_pow_sub_succ hm i
  rw [show 2 ^ 32 - (mk + 1) = 4294967295 - mk by omega] at h
  rw [Nat.testBit_or, Nat.testBit_and, Nat.testBit_and, h]
  by_cases hi : i < 32
  · rw [decide_eq_true hi]
    cases mk.testBit i <;> simp
  · have e : x.testBit i = false := Nat.testBit_lt_two_pow (Nat.lt_of_lt_of_le hx (Nat.pow_le_pow_right (by decide) (by omega)))
    rw [decide_eq_false hi, e]
    cases mk.testBit i <;> simp
theorem fld_bit (x l k j : Nat) : (x / 2 ^ l % 2 ^ k).testBit j = (decide (j < k) && x.testBit (l + j)) := by
  rw [Nat.testBit_mod_two_pow, Nat.testBit_div_two_pow, Nat.add_comm]
theorem fld_eq {x y l k : Nat} (h : ∀ j, j < k → x.testBit (l + j) = y.testBit (l + j)) : x / 2 ^ l % 2 ^ k = y / 2 ^ l % 2 ^ k := by
  apply Nat.eq_of_testBit_eq
  intro j
  rw [fld_bit, fld_bit]
  by_cases hj : j < k
  · rw [h j hj]
  · rw [decide_eq_false hj]; rfl
theorem bit_of_fld {x y l k : Nat} (h : x / 2 ^ l % 2 ^ k = y / 2 ^ l % 2 ^ k) {i : Nat} (h1 : l ≤ i) (h2 : i < l + k) : x.testBit i = y.testBit i := by
  have e := congrArg (fun z => z.testBit (i - l)) h
  simp only [fld_bit] at e
  rw [decide_eq_true (show i - l < k by omega), show l + (i - l) = i by omega] at e
  simpa using e
theorem mk_bits (mk : Nat) (hm : mk < 2 ^ 32) (p : Nat → Bool) (h : ∀ i, i < 32 → mk.testBit i = p i) (hp : ∀ i, 32 ≤ i → p i = false) (i : Nat) : mk.testBit i = p i := by
  by_cases hi : i < 32
  · exact h i hi
  · rw [hp i (by omega)]
    exact Nat.testBit_lt_two_pow (Nat.lt_of_lt_of_le hm (Nat.pow_le_pow_right (by decide) (by omega)))
def mixN (x wd mk : Nat) : Nat := (x &&& (4294967295 - mk)) ||| (wd &&& mk)
theorem mix_fld {x wd mk l k : Nat} (hx : x < 2 ^ 32) (hm : mk < 2 ^ 32) (h : ∀ i, l ≤ i → i < l + k → mk.testBit i = true) : mixN x wd mk / 2 ^ l % 2 ^ k = wd / 2 ^ l % 2 ^ k :=
  fld_eq (fun j hj => by unfold mixN; rw [mix_bit x wd mk _ hx hm, h _ (by omega) (by omega), if_pos rfl])
theorem mix_same {x wd mk : Nat} (hx : x < 2 ^ 32) (hm : mk < 2 ^ 32) (h : ∀ i, mk.testBit i = true → wd.testBit i = x.testBit i) : mixN x wd mk = x := by
  apply Nat.eq_of_testBit_eq
  intro i
  unfold mixN
  rw [mix_bit x wd mk i hx hm]
  by_cases hi : mk.testBit i = true
  · rw [if_pos hi, h i hi]
  · rw [if_neg hi]
theorem mix_lt {x wd mk : Nat} (hx : x < 2 ^ 32) (hm : mk < 2 ^ 32) : mixN x wd mk < 2 ^ 32 := by
  unfold mixN
  exact Nat.or_lt_two_pow (Nat.lt_of_le_of_lt Nat.and_le_left hx) (Nat.lt_of_le_of_lt Nat.and_le_right hm)
theorem mix_mix {x wd wd2 mk : Nat} (hx : x < 2 ^ 32) (hm : mk < 2 ^ 32) : mixN (mixN x wd mk) wd2 mk = mixN x wd2 mk := by
  apply Nat.eq_of_testBit_eq
  intro i
  have h1 := mix_bit (mixN x wd mk) wd2 mk i (mix_lt hx hm) hm
  have h2 := mix_bit x wd2 mk i hx hm
  have h3 := mix_bit x wd mk i hx hm
  unfold mixN at *
  rw [h1, h2]
  by_cases hi : mk.testBit i = true
  · rw [if_pos hi, if_pos hi]
  · rw [if_neg hi, if_neg hi, h3, if_neg hi]
theorem mask8 (i : Nat) : (67108863 : Nat).testBit i = decide (i < 26) := mk_bits _ (by decide) (fun i => decide (i < 26)) (by decide) (fun i hi => decide_eq_false (by omega)) i
theorem mask10 (i : Nat) : (524256 : Nat).testBit i = decide (5 ≤ i ∧ i < 19) := mk_bits _ (by decide) (fun i => decide (5 ≤ i ∧ i < 19)) (by decide) (fun i hi => decide_eq_false (by omega)) i
theorem mask7 (i : Nat) : (16777184 : Nat).testBit i = decide (5 ≤ i ∧ i < 24) := mk_bits _ (by decide) (fun i => decide (5 ≤ i ∧ i < 24)) (by decide) (fun i hi => decide_eq_false (by omega)) i
theorem mask1 (i : Nat) : (1627389920 : Nat).testBit i = decide ((5 ≤ i ∧ i < 24) ∨ (29 ≤ i ∧ i < 31)) := mk_bits _ (by decide) (fun i => decide ((5 ≤ i ∧ i < 24) ∨ (29 ≤ i ∧ i < 31))) (by decide) (fun i hi => decide_eq_false (by omega)) i
/-- what stands where the distance does -/
def fldN (op : Int) (x : Nat) : Nat := if op = 8 then x / 2 ^ 0 % 2 ^ 26 else if op = 10 then x / 2 ^ 5 % 2 ^ 14 else if op = 1 then x / 2 ^ 29 % 2 ^ 2 + 4 * (x / 2 ^ 5 % 2 ^ 19) else x / 2 ^ 5 % 2 ^ 19
/-- the distance -/
def distI (op : Int) (x : Nat) : Int := BM.sgn (fldN op x) (wiN op).toNat
def setM (x : Nat) (op a : Int) : Nat := mixN x (wdN op a) (mkN op).toNat
theorem setM_eq (x : Nat) (op a : Int) (h : x < 4294967296) : setN (x : Int) op a = ((setM x op a : Nat) : Int) := by
  rw [setN_nat _ _ _ (by omega) (by omega)]
  rfl
theorem mkN_lt (op : Int) : (mkN op).toNat < 2 ^ 32 := by have := mkN_bd op; omega
theorem setM_lt (x : Nat) (op a : Int) (h : x < 4294967296) : setM x op a < 4294967296 := mix_lt (by omega) (mkN_lt op)
theorem two_A (A B : Nat) (h1 : A < 4) (h2 : B < 524288) : (268435456 + A * 536870912 + B * 32) / 2 ^ 29 % 2 ^ 2 = A := by
  have : (268435456 + A * 536870912 + B * 32) / 536870912 = A := by omega
  show (268435456 + A * 536870912 + B * 32) / 536870912 % 4 = A
  omega
theorem two_B (A B : Nat) (h1 : A < 4) (h2 : B < 524288) : (268435456 + A * 536870912 + B * 32) / 2 ^ 5 % 2 ^ 19 = B := by
  have : (268435456 + A * 536870912 + B * 32) / 32 = 8388608 + A * 16777216 + B := by omega
  show (268435456 + A * 536870912 + B * 32) / 32 % 524288 = B
  omega
theorem fld_set {op : Int} (hb : brOp op) (x : Nat) (a : Int) (h : x < 4294967296) : fldN op (setM x op a) = (a % 2 ^ (wiN op).toNat).toNat := by
  have hx : x < 2 ^ 32 := by omega
  rcases hb with rfl | rfl | rfl | rfl | rfl
  · show mixN x (335544320 + (a % 67108864).toNat) 67108863 / 2 ^ 0 % 2 ^ 26 = (a % 67108864).toNat
    rw [mix_fld hx (by decide) (fun i h1 h2 => by rw [mask8]; exact decide_eq_true (by omega))]
    have : (a % 67108864).toNat < 67108864 := by omega
    omega
  · show mixN x (1409286144 + (a % 524288).toNat * 32) 16777184 / 2 ^ 5 % 2 ^ 19 = (a % 524288).toNat
    rw [mix_fld hx (by decide) (fun i h1 h2 => by rw [mask7]; exact decide_eq_true (by omega))]
    have : (a % 524288).toNat < 524288 := by omega
    omega
  · show mixN x (905969664 + (a % 16384).toNat * 32) 524256 / 2 ^ 5 % 2 ^ 14 = (a % 16384).toNat
    rw [mix_fld hx (by decide) (fun i h1 h2 => by rw [mask10]; exact decide_eq_true (by omega))]
    have : (a % 16384).toNat < 16384 := by omega
    omega
  · show mixN x (402653184 + (a % 524288).toNat * 32) 16777184 / 2 ^ 5 % 2 ^ 19 = (a % 524288).toNat
    rw [mix_fld hx (by decide) (fun i h1 h2 => by rw [mask7]; exact decide_eq_true (by omega))]
    have : (a % 524288).toNat < 524288 := by omega
    omega
  · show mixN x (268435456 + (a % 4).toNat * 536870912 + (a / 4 % 524288).toNat * 32) 1627389920 / 2 ^ 29 % 2 ^ 2 + 4 * (mixN x (268435456 + (a % 4).toNat * 536870912 + (a / 4 % 524288).toNat * 32) 1627389920 / 2 ^ 5 % 2 ^ 19) = (a % 2097152).toNat
    rw [mix_fld hx (by decide) (fun i h1 h2 => by rw [mask1]; exact decide_eq_true (by omega)), mix_fld hx (by decide) (fun i h1 h2 => by rw [mask1]; exact decide_eq_true (by omega))]
    have l1 : (a % 4).toNat < 4 := by omega
    have l2 : (a / 4 % 524288).toNat < 524288 := by omega
    have l3 : (a % 2097152).toNat = (a % 4).toNat + 4 * (a / 4 % 524288).toNat := by omega
    rw [l3]
    generalize (a % 4).toNat = A at *
    generalize (a / 4 % 524288).toNat = B at *
    rw [two_A A B l1 l2, two_B A B l1 l2]
theorem fld_lt {op : Int} (hb : brOp op) (x : Nat) : fldN op x < 2 ^ (wiN op).toNat := by
  rcases hb with rfl | rfl | rfl | rfl | rfl
  · show x / 2 ^ 0 % 2 ^ 26 < 2 ^ 26; omega
  · show x / 2 ^ 5 % 2 ^ 19 < 2 ^ 19; omega
  · show x / 2 ^ 5 % 2 ^ 14 < 2 ^ 14; omega
  · show x / 2 ^ 5 % 2 ^ 19 < 2 ^ 19; omega
  · show x / 2 ^ 29 % 2 ^ 2 + 4 * (x / 2 ^ 5 % 2 ^ 19) < 2 ^ 21; omega
/-- a number with a sign, as it was -/
theorem sgn_fit {op a : Int} (hb : brOp op) (hf : sfitB a (wiN op) = true) : BM.sgn (a % 2 ^ (wiN op).toNat).toNat (wiN op).toNat = a := by
  unfold sfitB at hf
  rw [Bool.or_eq_true, beq_iff_eq, beq_iff_eq] at hf
  unfold BM.sgn
  rcases hb with rfl | rfl | rfl | rfl | rfl
  · have h2 : a / 33554432 = 0 ∨ a / 33554432 = -1 := hf
    show (if (a % 67108864).toNat / 33554432 % 2 = 1 then (((a % 67108864).toNat % 33554432 : Nat) : Int) - 33554432 else (((a % 67108864).toNat % 33554432 : Nat) : Int)) = a
    split <;> omega
  · have h2 : a / 262144 = 0 ∨ a / 262144 = -1 := hf
    show (if (a % 524288).toNat / 262144 % 2 = 1 then (((a % 524288).toNat % 262144 : Nat) : Int) - 262144 else (((a % 524288).toNat % 262144 : Nat) : Int)) = a
    split <;> omega
  · have h2 : a / 8192 = 0 ∨ a / 8192 = -1 := hf
    show (if (a % 16384).toNat / 8192 % 2 = 1 then (((a % 16384).toNat % 8192 : Nat) : Int) - 8192 else (((a % 16384).toNat % 8192 : Nat) : Int)) = a
    split <;> omega
  · have h2 : a / 262144 = 0 ∨ a / 262144 = -1 := hf
    show (if (a % 524288).toNat / 262144 % 2 = 1 then (((a % 524288).toNat % 262144 : Nat) : Int) - 262144 else (((a % 524288).toNat % 262144 : Nat) : Int)) = a
    split <;> omega
  · have h2 : a / 1048576 = 0 ∨ a / 1048576 = -1 := hf
    show (if (a % 2097152).toNat / 1048576 % 2 = 1 then (((a % 2097152).toNat % 1048576 : Nat) : Int) - 1048576 else (((a % 2097152).toNat % 1048576 : Nat) : Int)) = a
    split <;> omega
theorem dist_set {op a : Int} (hb : brOp op) (hf : sfitB a (wiN op) = true) (x : Nat) (h : x < 4294967296) : distI op (setM x op a) = a := by
  unfold distI
  rw [fld_set hb x a h]
  exact sgn_fit hb hf
/-- the bits of a number with a sign -/
theorem sgn_mod (f k : Nat) (hk : 1 ≤ k) (hf : f < 2 ^ k) : BM.sgn f k % 2 ^ k = (f : Int) ∧ -(2 : Int) ^ (k - 1) ≤ BM.sgn f k ∧ BM.sgn f k < 2 ^ (k - 1) := by
  obtain ⟨m, rfl⟩ : ∃ m, k = m + 1 := ⟨k - 1, by omega⟩
  have hp : (2 : Nat) ^ (m + 1) = 2 * 2 ^ m := by rw [Nat.pow_succ]; omega
  have hpi : (2 : Int) ^ (m + 1) = 2 * 2 ^ m := by rw [Int.pow_succ]; omega
  have hc : ((2 ^ m : Nat) : Int) = (2 : Int) ^ m := by simp
  have h0 := Nat.two_pow_pos m
  rw [hp] at hf
  unfold BM.sgn
  rw [show m + 1 - 1 = m by omega, hpi, ← hc]
  generalize 2 ^ m = q at *
  have hq : f / q = 0 ∧ f < q ∨ f / q = 1 ∧ q ≤ f := by
    rcases Nat.lt_or_ge f q with h | h
    · exact .inl ⟨Nat.div_eq_of_lt h, h⟩
    · refine .inr ⟨?_, h⟩
      rw [Nat.div_eq_iff (by omega)]; omega
  rcases hq with ⟨h1, h2⟩ | ⟨h1, h2⟩
  · rw [h1, if_neg (by decide), Nat.mod_eq_of_lt h2]
    refine ⟨Int.emod_eq_of_lt (by omega) (by omega), by omega, by omega⟩
  · have hm : f % q = f - q := by
      have := Nat.div_add_mod f q
      rw [h1] at this; omega
    rw [h1, if_pos (by decide), hm]
    refine ⟨?_, by omega, by omega⟩
    rw [show (((f - q : Nat) : Int) - (q : Int)) = (f : Int) + (2 * (q : Int)) * (-1) by omega, Int.add_mul_emod_self_left]
    exact Int.emod_eq_of_lt (by omega) (by omega)
theorem set_back {op : Int} (hb : brOp op) (x : Nat) (h : x < 4294967296) : setM x op (distI op x) = x := by
  have hx : x < 2 ^ 32 := by omega
  have hs := (sgn_mod (fldN op x) (wiN op).toNat (by rcases hb with rfl | rfl | rfl | rfl | rfl <;> decide) (fld_lt hb x)).1
  have hd : distI op x % 2 ^ (wiN op).toNat = (fldN op x : Int) := hs
  generalize distI op x = d at *
  refine mix_same hx (mkN_lt op) (fun i hi => ?_)
  rcases hb with rfl | rfl | rfl | rfl | rfl
  · have hd2 : d % 67108864 = ((x / 2 ^ 0 % 2 ^ 26 : Nat) : Int) := hd
    have hi2 : (67108863 : Nat).testBit i = true := hi
    rw [mask8] at hi2
    have hi3 := of_decide_eq_true hi2
    refine bit_of_fld (l := 0) (k := 26) ?_ (by omega) (by omega)
    show (335544320 + (d % 67108864).toNat) / 2 ^ 0 % 2 ^ 26 = _
    rw [hd2, Int.toNat_natCast]
    omega
  · have hd2 : d % 524288 = ((x / 2 ^ 5 % 2 ^ 19 : Nat) : Int) := hd
    have hi2 : (16777184 : Nat).testBit i = true := hi
    rw [mask7] at hi2
    have hi3 := of_decide_eq_true hi2
    refine bit_of_fld (l := 5) (k := 19) ?_ (by omega) (by omega)
    show (1409286144 + (d % 524288).toNat * 32) / 2 ^ 5 % 2 ^ 19 = _
    rw [hd2, Int.toNat_natCast]
    omega
  · have hd2 : d % 16384 = ((x / 2 ^ 5 % 2 ^ 14 : Nat) : Int) := hd
    have hi2 : (524256 : Nat).testBit i = true := hi
    rw [mask10] at hi2
    have hi3 := of_decide_eq_true hi2
    refine bit_of_fld (l := 5) (k := 14) ?_ (by omega) (by omega)
    show (905969664 + (d % 16384).toNat * 32) / 2 ^ 5 % 2 ^ 14 = _
    rw [hd2, Int.toNat_natCast]
    omega
  · have hd2 : d % 524288 = ((x / 2 ^ 5 % 2 ^ 19 : Nat) : Int) := hd
    have hi2 : (16777184 : Nat).testBit i = true := hi
    rw [mask7] at hi2
    have hi3 := of_decide_eq_true hi2
    refine bit_of_fld (l := 5) (k := 19) ?_ (by omega) (by omega)
    show (402653184 + (d % 524288).toNat * 32) / 2 ^ 5 % 2 ^ 19 = _
    rw [hd2, Int.toNat_natCast]
    omega
  · have hd2 : d % 2097152 = ((x / 2 ^ 29 % 2 ^ 2 + 4 * (x / 2 ^ 5 % 2 ^ 19) : Nat) : Int) := hd
    have hi2 : (1627389920 : Nat).testBit i = true := hi
    rw [mask1] at hi2
    have hi3 := of_decide_eq_true hi2
    have e1 : (d % 4).toNat = x / 2 ^ 29 % 2 ^ 2 := by omega
    have e2 : (d / 4 % 524288).toNat = x / 2 ^ 5 % 2 ^ 19 := by omega
    rcases hi3 with hi3 | hi3
    · refine bit_of_fld (l := 5) (k := 19) ?_ (by omega) (by omega)
      show (268435456 + (d % 4).toNat * 536870912 + (d / 4 % 524288).toNat * 32) / 2 ^ 5 % 2 ^ 19 = _
      rw [e1, e2]
      exact two_B _ _ (Nat.mod_lt _ (by decide)) (Nat.mod_lt _ (by decide))
    · refine bit_of_fld (l := 29) (k := 2) ?_ (by omega) (by omega)
      show (268435456 + (d % 4).toNat * 536870912 + (d / 4 % 524288).toNat * 32) / 2 ^ 29 % 2 ^ 2 = _
      rw [e1, e2]
      exact two_A _ _ (Nat.mod_lt _ (by decide)) (Nat.mod_lt _ (by decide))
theorem set_set (x : Nat) (op a b : Int) (h : x < 4294967296) : setM (setM x op a) op b = setM x op b := mix_mix (by omega) (mkN_lt op)
end Go.Proofs.YtjkhgljlipljdaaDoor
namespace Go.Proofs.YtjkhgljlipljdaaDoor
open Go.RowKit
set_option linter.unusedVariables false
set_option linter.unusedSimpArgs false

theorem places_8 (w : World) : Calls Tryd.prog 73 #[.int .i64 8] w fun e w' => e = .returned (.slice (some ⟨w.heap.size, 0, none⟩) 1 1) ∧ w' = w.alloc (.cells #[.int .i64 0, .int .i64 26] 128) := by
  go_enter Tryd.func73, Tryd.ntmps73
  go_wp2_with fail
  go_ret
  exact ⟨rfl, rfl⟩
theorem places_10 (w : World) : Calls Tryd.prog 73 #[.int .i64 10] w fun e w' => e = .returned (.slice (some ⟨w.heap.size, 0, none⟩) 1 1) ∧ w' = w.alloc (.cells #[.int .i64 5, .int .i64 14] 128) := by
  go_enter Tryd.func73, Tryd.ntmps73
  go_wp2_with fail
  go_ret
  exact ⟨rfl, rfl⟩
theorem places_1 (w : World) : Calls Tryd.prog 73 #[.int .i64 1] w fun e w' => e = .returned (.slice (some ⟨w.heap.size, 0, none⟩) 2 2) ∧ w' = w.alloc (.cells #[.int .i64 29, .int .i64 2, .int .i64 5, .int .i64 19] 128) := by
  go_enter Tryd.func73, Tryd.ntmps73
  go_wp2_with fail
  go_ret
  exact ⟨rfl, rfl⟩
theorem places_7 (op : Int) (h : op = 7 ∨ op = 18) (w : World) : Calls Tryd.prog 73 #[.int .i64 op] w fun e w' => e = .returned (.slice (some ⟨w.heap.size, 0, none⟩) 1 1) ∧ w' = w.alloc (.cells #[.int .i64 5, .int .i64 19] 128) := by
  rcases h with rfl | rfl
  · go_enter Tryd.func73, Tryd.ntmps73
    go_wp2_with fail
    go_ret
    exact ⟨rfl, rfl⟩
  · go_enter Tryd.func73, Tryd.ntmps73
    go_wp2_with fail
    go_ret
    exact ⟨rfl, rfl⟩
theorem getI_nat (x l n : Nat) : Bit.getI (x : Int) (l : Int) (n : Int) = ((x / 2 ^ l % 2 ^ n : Nat) : Int) := by
  unfold Bit.getI BM.getN
  simp
theorem two_new (w : World) (a b : Value) (T : TypeId) : (w.alloc (.cells #[a, b] T)).cell? ⟨w.heap.size, 0, none⟩ = some a ∧ (w.alloc (.cells #[a, b] T)).cell? ⟨w.heap.size, 1, none⟩ = some b := ⟨cells_new w #[a, b] T 0 a rfl, cells_new w #[a, b] T 1 b rfl⟩
set_option maxHeartbeats 2000000 in
set_option maxRecDepth 100000 in
theorem dist_one (op : Int) (l n : Nat) (x : Nat) (w : World) (hx : x < 4294967296) (h2 : l < 32) (h3 : 1 ≤ n) (h5 : l + n ≤ 32)
    (PL : ∀ w : World, Calls Tryd.prog 73 #[.int .i64 op] w fun e w' => e = .returned (.slice (some ⟨w.heap.size, 0, none⟩) 1 1) ∧ w' = w.alloc (.cells #[.int .i64 (l : Int), .int .i64 (n : Int)] 128)) :
    Calls Tryd.prog 56 #[.int .u32 (x : Int), .int .i64 op] w fun e w' => e = .returned (.int .i64 (BM.sgn (x / 2 ^ l % 2 ^ n) n)) ∧ Below w.heap.size w w' := by
  have GT := Lib.hid (fun W => Bit.get_yes (x : Int) (l : Int) (n : Int) W (by omega) (by omega) (by omega) (by omega) (by omega) (by omega) (by omega))
  rw [getI_nat] at GT
  have hlt : x / 2 ^ l % 2 ^ n < 4294967296 := Nat.lt_of_le_of_lt (Nat.mod_le _ _) (Nat.lt_of_le_of_lt (Nat.div_le_self _ _) hx)
  have SG := Lib.hid (fun W => Bit.sign_yes ((x / 2 ^ l % 2 ^ n : Nat) : Int) (n : Int) W (by omega) (by omega) (by omega))
  rw [Int.toNat_natCast, Int.toNat_natCast] at SG
  have P := Lib.hid PL
  generalize BM.sgn (x / 2 ^ l % 2 ^ n) n = R at *
  generalize x / 2 ^ l % 2 ^ n = X at *
  have ho : bits .or .u64 0 (X : Int) = (X : Int) := by
    rw [u64_or _ _ (by omega) (by omega) (by omega) (by omega)]
    simp
  have wn : IntKind.i64.wrap (n : Int) = (n : Int) := IntWalk.i64_in _ (by omega)
  clear PL hx h2 h3
  go_enter Tryd.func56, Tryd.ntmps56
  go_wp2_with fail
  refine (P.out _).mono ?_
  rintro e w1 ⟨rfl, rfl⟩
  obtain ⟨c0, c1⟩ := two_new w (.int .i64 (l : Int)) (.int .i64 (n : Int)) 128
  have HB1 := Lib.hid (below1 w (.cells #[.int .i64 (l : Int), .int .i64 (n : Int)] 128))
  have hz : w.heap.size < (w.alloc (.cells #[.int .i64 (l : Int), .int .i64 (n : Int)] 128)).heap.size := by simp
  generalize w.alloc (.cells #[.int .i64 (l : Int), .int .i64 (n : Int)] 128) = W1 at *
  go_wp2_with fail
  refine wp_loop_rounds 2 ?_
  rw [rounds_succ]
  go_wp2_with fail
  refine (GT.out _).mono ?_
  rintro e w2 ⟨rfl, HB2⟩
  obtain ⟨⟨d0, d1⟩, hz2, HB3⟩ := Bit.two_start0 HB2
  have HB4 := Lib.hid (HB1.out.trans (HB3.mono (Nat.le_of_lt hz)))
  clear HB3 HB2
  go_wp2_with fail
  rw [rounds_succ]
  go_wp2_with fail
  refine (SG.out _).mono ?_
  rintro e w3 ⟨rfl, rfl⟩
  go_wp2_with fail
  go_ret
  exact ⟨rfl, HB4.out⟩
end Go.Proofs.YtjkhgljlipljdaaDoor
namespace Go.Proofs.YtjkhgljlipljdaaDoor
open Go.RowKit
set_option linter.unusedVariables false
set_option linter.unusedSimpArgs false

theorem four_new (w : World) (a b c d : Value) (T : TypeId) : (w.alloc (.cells #[a, b, c, d] T)).cell? ⟨w.heap.size, 0, none⟩ = some a ∧ (w.alloc (.cells #[a, b, c, d] T)).cell? ⟨w.heap.size, 1, none⟩ = some b ∧ (w.alloc (.cells #[a, b, c, d] T)).cell? ⟨w.heap.size, 2, none⟩ = some c ∧ (w.alloc (.cells #[a, b, c, d] T)).cell? ⟨w.heap.size, 3, none⟩ = some d := ⟨cells_new w #[a, b, c, d] T 0 a rfl, cells_new w #[a, b, c, d] T 1 b rfl, cells_new w #[a, b, c, d] T 2 c rfl, cells_new w #[a, b, c, d] T 3 d rfl⟩
set_option maxHeartbeats 4000000 in
set_option maxRecDepth 100000 in
theorem dist_two (x : Nat) (w : World) (hx : x < 4294967296) :
    Calls Tryd.prog 56 #[.int .u32 (x : Int), .int .i64 1] w fun e w' => e = .returned (.int .i64 (BM.sgn (x / 2 ^ 29 % 2 ^ 2 + 4 * (x / 2 ^ 5 % 2 ^ 19)) 21)) ∧ Below w.heap.size w w' := by
  have G1 := Lib.hid (fun W => Bit.get_yes (x : Int) 29 2 W (by omega) (by omega) (by omega) (by omega) (by omega) (by omega) (by omega))
  have G2 := Lib.hid (fun W => Bit.get_yes (x : Int) 5 19 W (by omega) (by omega) (by omega) (by omega) (by omega) (by omega) (by omega))
  rw [show Bit.getI (x : Int) 29 2 = ((x / 2 ^ 29 % 2 ^ 2 : Nat) : Int) from getI_nat x 29 2] at G1
  rw [show Bit.getI (x : Int) 5 19 = ((x / 2 ^ 5 % 2 ^ 19 : Nat) : Int) from getI_nat x 5 19] at G2
  have l1 : x / 2 ^ 29 % 2 ^ 2 < 4 := Nat.mod_lt _ (by decide)
  have l2 : x / 2 ^ 5 % 2 ^ 19 < 524288 := Nat.mod_lt _ (by decide)
  generalize x / 2 ^ 29 % 2 ^ 2 = X at *
  generalize x / 2 ^ 5 % 2 ^ 19 = Y at *
  have SG := Lib.hid (fun W => Bit.sign_yes ((X + 4 * Y : Nat) : Int) 21 W (by omega) (by omega) (by omega))
  rw [Int.toNat_natCast, show Int.toNat 21 = 21 from rfl] at SG
  generalize BM.sgn (X + 4 * Y) 21 = R at *
  have P := Lib.hid (fun W => places_1 W)
  go_enter Tryd.func56, Tryd.ntmps56
  go_wp2_with fail
  refine (P.out _).mono ?_
  rintro e w1 ⟨rfl, rfl⟩
  obtain ⟨c0, c1, c2, c3⟩ := four_new w (.int .i64 29) (.int .i64 2) (.int .i64 5) (.int .i64 19) 128
  have HB1 := Lib.hid (below1 w (.cells #[.int .i64 29, .int .i64 2, .int .i64 5, .int .i64 19] 128))
  have hz : w.heap.size < (w.alloc (.cells #[.int .i64 29, .int .i64 2, .int .i64 5, .int .i64 19] 128)).heap.size := by simp
  generalize w.alloc (.cells #[.int .i64 29, .int .i64 2, .int .i64 5, .int .i64 19] 128) = W1 at *
  have ho : bits .or .u64 0 (X : Int) = (X : Int) := by
    rw [u64_or _ _ (by omega) (by omega) (by omega) (by omega)]
    simp
  have ho2 : bits .or .u64 (X : Int) ((Y : Int) * 4) = ((X + 4 * Y : Nat) : Int) := by
    rw [u64_or _ _ (by omega) (by omega) (by omega) (by omega), Int.toNat_natCast, show ((Y : Int) * 4).toNat = 2 ^ 2 * Y by omega, Nat.or_comm, ← Nat.two_pow_add_eq_or_of_lt (i := 2) (by omega)]
    omega
  go_wp2_with fail
  refine wp_loop_rounds 3 ?_
  rw [rounds_succ]
  go_wp2_with fail
  refine (G1.out _).mono ?_
  rintro e w2 ⟨rfl, HB2⟩
  obtain ⟨⟨d0, d1⟩, hz2, HB3⟩ := Bit.two_start0 HB2
  have e2 := cell_kept HB3 c2
  have e3 := cell_kept HB3 c3
  have HB4 := Lib.hid (HB1.out.trans (HB3.mono (Nat.le_of_lt hz)))
  have hz3 : w.heap.size < w2.heap.size := Nat.lt_trans hz hz2
  clear HB3 HB2 c0 c1 c2 c3
  go_wp2_with fail
  rw [rounds_succ]
  go_wp2_with fail
  refine (G2.out _).mono ?_
  rintro e w3 ⟨rfl, HB5⟩
  obtain ⟨⟨d0, d1⟩, hz4, HB6⟩ := Bit.two_start0 HB5
  have HB7 := Lib.hid (HB4.out.trans (HB6.mono (Nat.le_of_lt hz3)))
  clear HB5 HB6
  go_wp2_with fail
  rw [rounds_succ]
  go_wp2_with fail
  refine (SG.out _).mono ?_
  rintro e w4 ⟨rfl, rfl⟩
  go_wp2_with fail
  go_ret
  exact ⟨rfl, HB7.out⟩
theorem dist_any {op : Int} (hb : brOp op) (x : Nat) (hx : x < 4294967296) (w : World) :
    Calls Tryd.prog 56 #[.int .u32 (x : Int), .int .i64 op] w fun e w' => e = .returned (.int .i64 (distI op x)) ∧ Below w.heap.size w w' := by
  rcases hb with rfl | rfl | rfl | rfl | rfl
  · exact dist_one 8 0 26 x w hx (by decide) (by decide) (by decide) places_8
  · exact dist_one 7 5 19 x w hx (by decide) (by decide) (by decide) (places_7 7 (.inl rfl))
  · exact dist_one 10 5 14 x w hx (by decide) (by decide) (by decide) places_10
  · exact dist_one 18 5 19 x w hx (by decide) (by decide) (by decide) (places_7 18 (.inr rfl))
  · exact dist_two x w hx
end Go.Proofs.YtjkhgljlipljdaaDoor
namespace Go.Proofs.YtjkhgljlipljdaaDoor
open Go.RowKit
set_option linter.unusedVariables false
set_option linter.unusedSimpArgs false
def lowN (xs : Nat → Nat) : Nat → Nat
  | 0 => 0
  | i + 1 => lowN xs i + xs i * 2 ^ (8 * i)
theorem lowN_lt (xs : Nat → Nat) : ∀ i, (∀ j, j < i → xs j < 256) → lowN xs i < 2 ^ (8 * i)
  | 0, _ => by simp [lowN]
  | i + 1, h => by
    have h1 := lowN_lt xs i (fun j hj => h j (by omega))
    have h2 := h i (by omega)
    have h3 : (2 : Nat) ^ (8 * (i + 1)) = 256 * 2 ^ (8 * i) := by rw [show 8 * (i + 1) = 8 + 8 * i by omega, Nat.pow_add]
    have h4 : xs i * 2 ^ (8 * i) ≤ 255 * 2 ^ (8 * i) := Nat.mul_le_mul_right _ (by omega)
    rw [h3]
    show lowN xs i + xs i * 2 ^ (8 * i) < _
    omega
theorem ofInt_wrap (S : Int) : BitVec.ofInt 64 (IntKind.i64.wrap S) = BitVec.ofInt 64 S := by
  apply BitVec.eq_of_toNat_eq
  rw [BitVec.toNat_ofInt, BitVec.toNat_ofInt, IntKind.wrap_i64]
  omega
theorem i64_or_w (S T : Nat) (hS : S < 2 ^ 64) (hT : T < 2 ^ 64) : bits .or .i64 (IntKind.i64.wrap (S : Int)) (IntKind.i64.wrap (T : Int)) = IntKind.i64.wrap ((S ||| T : Nat) : Int) := by
  show IntKind.i64.wrap ((BitVec.ofInt 64 (IntKind.i64.wrap (S : Int)) ||| BitVec.ofInt 64 (IntKind.i64.wrap (T : Int))).toNat : Int) = _
  rw [ofInt_wrap, ofInt_wrap, BitVec.toNat_or, BitVec.toNat_ofInt, BitVec.toNat_ofInt]
  have e1 : ((S : Int) % ((2 ^ 64 : Nat) : Int)).toNat = S := by omega
  have e2 : ((T : Int) % ((2 ^ 64 : Nat) : Int)).toNat = T := by omega
  rw [e1, e2]
theorem i64_wrap64 (n : Int) : IntKind.i64.wrap n = wrap64 n := by
  rw [IntKind.wrap_i64]; unfold wrap64; omega
theorem low_step (xs : Nat → Nat) (i : Nat) (h : ∀ j, j ≤ i → xs j < 256) (hi : i < 8) :
    bits .or .i64 (IntKind.i64.wrap ((lowN xs i : Nat) : Int)) (IntKind.i64.wrap ((xs i : Int) * 2 ^ (8 * i))) = IntKind.i64.wrap ((lowN xs (i + 1) : Nat) : Int) := by
  have h1 := lowN_lt xs i (fun j hj => h j (by omega))
  have h2 := lowN_lt xs (i + 1) (fun j hj => h j (by omega))
  have h3 : (2 : Nat) ^ (8 * (i + 1)) ≤ 2 ^ 64 := Nat.pow_le_pow_right (by decide) (by omega)
  have h5 : lowN xs (i + 1) = lowN xs i + xs i * 2 ^ (8 * i) := rfl
  have e : (xs i : Int) * 2 ^ (8 * i) = ((xs i * 2 ^ (8 * i) : Nat) : Int) := by simp
  rw [e, i64_or_w _ _ (by omega) (by omega), Nat.or_comm, Nat.mul_comm, ← Nat.two_pow_add_eq_or_of_lt h1, h5, Nat.mul_comm, Nat.add_comm]
set_option maxHeartbeats 1000000 in
theorem number_any (xs : Nat → Nat) (g off len cap : Nat) (hn : len ≤ 8) (w : World) (hx : ∀ j, j < len → xs j < 256) (hc : ∀ j, j < len → w.cell? ⟨g, off + j, none⟩ = some (.int .u8 (xs j))) :
    Calls Tryd.prog 57 #[.slice (some ⟨g, off, none⟩) len cap] w fun e w' => e = .returned (.int .i64 (IntKind.i64.wrap ((lowN xs len : Nat) : Int))) ∧ w = w' := by
  go_enter Tryd.func57, Tryd.ntmps57
  go_wp2_with fail
  go_loopw [8, 3] (fun iv acc wr => ∃ (j : Nat), j ≤ len ∧ iv = .int .i64 (j : Int) ∧ acc = .int .i64 (IntKind.i64.wrap ((lowN xs j : Nat) : Int)) ∧ w = wr) (fun iv _ _ => len - (intOf iv).toNat)
  case atStart => exact ⟨0, by omega, by first | exact rfl | trivial, by first | exact rfl | trivial | decide, by first | exact rfl | trivial⟩
  case round =>
    obtain ⟨j, hj, rfl, rfl, rfl⟩ := hrel
    by_cases hlt : (j : Int) < (len : Int)
    · have hj1 : j < len := by omega
      have hcj := hc j hj1
      have hst := low_step xs j (fun i hi => hx i (by omega)) (by omega)
      have hxj := hx j hj1
      clear hc hx
      generalize xs j = x at *
      go_wp2_with fail
      refine ⟨⟨j + 1, by omega, rfl, ?_, trivial⟩, ?_⟩
      · rw [i64_wrap64, i64_wrap64] at hst
        exact congrArg (Value.int .i64) hst
      · simp [intOf]; omega
    · obtain rfl : j = len := by omega
      go_wp2_with fail
      go_ret
      exact ⟨rfl, rfl⟩
end Go.Proofs.YtjkhgljlipljdaaDoor
namespace Go.Proofs.YtjkhgljlipljdaaDoor
open Go.RowKit
set_option linter.unusedVariables false
set_option linter.unusedSimpArgs false
set_option maxHeartbeats 2000000 in
theorem fill_e1 (h : Hl) (v : Int) (a : Option Addr) (len cap : Nat) (w : World) (hG : Gd w) (hok : inOk h.k h.s len = false) :
    Calls Tryd.prog 24 #[.slice a len cap, hlV h, .int .i64 v] w fun e w' => e = .returned (.tuple #[.slice none 0 0, .int .i64 1]) ∧ Below w.heap.size w w' := by
  have SI := Lib.hid (fun W hb => shapeIn_any h a len cap W (hG.keep hb))
  have e1 : inR h.k h.s len = sh0 := by simp [inR, hok]
  have e2 : inE h.k h.s len = 1 := by simp [inE, hok]
  rw [e1, e2] at SI
  clear e1 e2
  clear hG
  obtain ⟨k, s, ad, p, m⟩ := h
  unfold hlV at *
  simp only at *
  unfold shV sh0 at *
  simp only at *
  go_enter Tryd.func24, Tryd.ntmps24
  go_wp2_with fail
  refine (SI.out _ (below1 w _)).mono ?_
  rintro e w1 ⟨rfl, hb1⟩
  have HB1 := Lib.hid (Below.thn (below1 w _) (by simp) hb1)
  have HB2 := Lib.hid (HB1.out.alloc HB1.out.size (.cells #[.int .i64 0, .int .i64 0, .int .i64 0, .int .i64 0, .int .i64 0, .int .i64 0, .int .i64 0] 71))
  clear hb1 SI
  go_wp2_with fail
  go_ret2
  exact ⟨rfl, HB2.out⟩
set_option maxHeartbeats 2000000 in
theorem fill_e2 (h : Hl) (v : Int) (a : Option Addr) (len cap : Nat) (w : World) (hG : Gd w) (hok : inOk h.k h.s len = true) (hf : filledB (shR h.k h.s) = false) :
    Calls Tryd.prog 24 #[.slice a len cap, hlV h, .int .i64 v] w fun e w' => e = .returned (.tuple #[.slice none 0 0, .int .i64 180]) ∧ Below w.heap.size w w' := by
  have SI := Lib.hid (fun W hb => shapeIn_any h a len cap W (hG.keep hb))
  have IF := Lib.hid (fun W => isFilled_any (shR h.k h.s) W)
  have e1 : inR h.k h.s len = shR h.k h.s := by simp [inR, hok]
  have e2 : inE h.k h.s len = 0 := by simp [inE, hok]
  rw [e1, e2] at SI
  clear e1 e2
  rw [hf] at IF
  clear hok hf hG
  obtain ⟨k, s, ad, p, m⟩ := h
  unfold hlV at *
  simp only at *
  generalize shR k s = sh at *
  obtain ⟨y0, y1, y2, y3, y4, y5, y6⟩ := sh
  unfold shV at *
  simp only at *
  go_enter Tryd.func24, Tryd.ntmps24
  go_wp2_with fail
  refine (SI.out _ (below1 w _)).mono ?_
  rintro e w1 ⟨rfl, hb1⟩
  have HB1 := Lib.hid (Below.thn (below1 w _) (by simp) hb1)
  clear hb1 SI
  go_wp2_with fail
  have hs1 := heap_alloc_new w1 (.cells #[.int .i64 y0, .int .i64 y1, .int .i64 y2, .int .i64 y3, .int .i64 y4, .int .i64 y5, .int .i64 y6] 71)
  have HS1 := Lib.hid hs1
  have HBA := Lib.hid (HB1.out.alloc HB1.out.size (.cells #[.int .i64 y0, .int .i64 y1, .int .i64 y2, .int .i64 y3, .int .i64 y4, .int .i64 y5, .int .i64 y6] 71))
  generalize (w1.alloc (.cells #[.int .i64 y0, .int .i64 y1, .int .i64 y2, .int .i64 y3, .int .i64 y4, .int .i64 y5, .int .i64 y6] 71)) = W1 at *
  clear hs1 HB1
  refine (IF.out _).mono ?_
  rintro e w2 ⟨rfl, hb2⟩
  have hs2 := kept_v hb2 HS1.out
  have HS2 := Lib.hid hs2
  have HB2 := Lib.hid (HBA.out.trans (hb2.mono HBA.out.size))
  obtain ⟨f0, c0, c1, c2, c3, c4, c5, c6⟩ := seven hs2
  clear hb2 hs2 IF HBA HS1
  go_wp2_with fail
  go_ret2
  exact ⟨rfl, HB2.out⟩
set_option maxHeartbeats 2000000 in
theorem fill_e3 (h : Hl) (v : Int) (a : Option Addr) (len cap : Nat) (w : World) (hG : Gd w) (hv : -9223372036854775808 ≤ v ∧ v ≤ 9223372036854775807) (hok : inOk h.k h.s len = true) (hf : filledB (shR h.k h.s) = true) (ht : (shR h.k h.s).t = 1 ∨ (shR h.k h.s).t = 4) (hfit : fitsB (shR h.k h.s) v = false) :
    Calls Tryd.prog 24 #[.slice a len cap, hlV h, .int .i64 v] w fun e w' => e = .returned (.tuple #[.slice none 0 0, .int .i64 181]) ∧ Below w.heap.size w w' := by
  have SI := Lib.hid (fun W hb => shapeIn_any h a len cap W (hG.keep hb))
  have IF := Lib.hid (fun W => isFilled_any (shR h.k h.s) W)
  have FI := Lib.hid (fun W => fits_any (shR h.k h.s) v W ht hv)
  have e1 : inR h.k h.s len = shR h.k h.s := by simp [inR, hok]
  have e2 : inE h.k h.s len = 0 := by simp [inE, hok]
  rw [e1, e2] at SI
  clear e1 e2
  rw [hf] at IF
  rw [hfit] at FI
  clear hok hf hG hfit ht hv
  obtain ⟨k, s, ad, p, m⟩ := h
  unfold hlV at *
  simp only at *
  generalize shR k s = sh at *
  obtain ⟨y0, y1, y2, y3, y4, y5, y6⟩ := sh
  unfold shV at *
  simp only at *
  go_enter Tryd.func24, Tryd.ntmps24
  go_wp2_with fail
  refine (SI.out _ (below1 w _)).mono ?_
  rintro e w1 ⟨rfl, hb1⟩
  have HB1 := Lib.hid (Below.thn (below1 w _) (by simp) hb1)
  clear hb1 SI
  go_wp2_with fail
  have hs1 := heap_alloc_new w1 (.cells #[.int .i64 y0, .int .i64 y1, .int .i64 y2, .int .i64 y3, .int .i64 y4, .int .i64 y5, .int .i64 y6] 71)
  have HS1 := Lib.hid hs1
  have HBA := Lib.hid (HB1.out.alloc HB1.out.size (.cells #[.int .i64 y0, .int .i64 y1, .int .i64 y2, .int .i64 y3, .int .i64 y4, .int .i64 y5, .int .i64 y6] 71))
  generalize (w1.alloc (.cells #[.int .i64 y0, .int .i64 y1, .int .i64 y2, .int .i64 y3, .int .i64 y4, .int .i64 y5, .int .i64 y6] 71)) = W1 at *
  clear hs1 HB1
  refine (IF.out _).mono ?_
  rintro e w2 ⟨rfl, hb2⟩
  have hs2 := kept_v hb2 HS1.out
  have HS2 := Lib.hid hs2
  have HB2 := Lib.hid (HBA.out.trans (hb2.mono HBA.out.size))
  obtain ⟨f0, c0, c1, c2, c3, c4, c5, c6⟩ := seven hs2
  clear hb2 hs2 IF HBA HS1
  go_wp2_with fail
  clear f0 c0 c1 c2 c3 c4 c5 c6
  refine (FI.out _).mono ?_
  rintro e w3 ⟨rfl, hb3⟩
  have hs3 := kept_v hb3 HS2.out
  have HS3 := Lib.hid hs3
  have HB3 := Lib.hid (HB2.out.trans (hb3.mono HB2.out.size))
  obtain ⟨f0, c0, c1, c2, c3, c4, c5, c6⟩ := seven hs3
  clear hb3 hs3 FI HB2 HS2
  go_wp2_with fail
  go_ret2
  exact ⟨rfl, HB3.out⟩
end Go.Proofs.YtjkhgljlipljdaaDoor
namespace Go.Proofs.YtjkhgljlipljdaaDoor
open Go.RowKit
set_option linter.unusedVariables false
set_option linter.unusedSimpArgs false
set_option maxHeartbeats 2000000 in
theorem read_data (h : Hl) (xs : Nat → Nat) (g off len cap : Nat) (w : World) (hG : Gd w) (hok : inOk h.k h.s len = true) (hf : filledB (shR h.k h.s) = true) (hn : nearB (shR h.k h.s) = false) (h8 : len ≤ 8) (hx : ∀ j, j < len → xs j < 256) (hc : ∀ j, j < len → w.cell? ⟨g, off + j, none⟩ = some (.int .u8 (xs j))) :
    Calls Tryd.prog 26 #[.slice (some ⟨g, off, none⟩) len cap, hlV h] w fun e w' => e = .returned (.tuple #[.int .i64 (IntKind.i64.wrap ((lowN xs len : Nat) : Int)), .int .i64 0]) ∧ Below w.heap.size w w' := by
  have SI := Lib.hid (fun W hb => shapeIn_any h (some ⟨g, off, none⟩) len cap W (hG.keep hb))
  have IF := Lib.hid (fun W => isFilled_any (shR h.k h.s) W)
  have NE := Lib.hid (fun W => isNear_any (shR h.k h.s) W)
  have NU := Lib.hid (fun W (hb : Below w.heap.size w W) => number_any xs g off len cap h8 W hx (fun j hj => cell_kept hb (hc j hj)))
  generalize IntKind.i64.wrap ((lowN xs len : Nat) : Int) = R at *
  have e1 : inR h.k h.s len = shR h.k h.s := by simp [inR, hok]
  have e2 : inE h.k h.s len = 0 := by simp [inE, hok]
  rw [e1, e2] at SI
  rw [hf] at IF
  rw [hn] at NE
  clear e1 e2 hok hf hn hG hx hc h8
  obtain ⟨k, s, ad, p, m⟩ := h
  unfold hlV at *
  simp only at *
  generalize shR k s = sh at *
  obtain ⟨y0, y1, y2, y3, y4, y5, y6⟩ := sh
  unfold shV at *
  simp only at *
  go_enter Tryd.func26, Tryd.ntmps26
  go_wp2_with fail
  refine (SI.out _ (below1 w _)).mono ?_
  rintro e w1 ⟨rfl, hb1⟩
  have HB1 := Lib.hid (Below.thn (below1 w _) (by simp) hb1)
  clear hb1 SI
  go_wp2_with fail
  have hs1 := heap_alloc_new w1 (.cells #[.int .i64 y0, .int .i64 y1, .int .i64 y2, .int .i64 y3, .int .i64 y4, .int .i64 y5, .int .i64 y6] 71)
  have HS1 := Lib.hid hs1
  have HBA := Lib.hid (HB1.out.alloc HB1.out.size (.cells #[.int .i64 y0, .int .i64 y1, .int .i64 y2, .int .i64 y3, .int .i64 y4, .int .i64 y5, .int .i64 y6] 71))
  generalize (w1.alloc (.cells #[.int .i64 y0, .int .i64 y1, .int .i64 y2, .int .i64 y3, .int .i64 y4, .int .i64 y5, .int .i64 y6] 71)) = W1 at *
  clear hs1 HB1
  refine (IF.out _).mono ?_
  rintro e w2 ⟨rfl, hb2⟩
  have hs2 := kept_v hb2 HS1.out
  have HS2 := Lib.hid hs2
  have HB2 := Lib.hid (HBA.out.trans (hb2.mono HBA.out.size))
  obtain ⟨f0, c0, c1, c2, c3, c4, c5, c6⟩ := seven hs2
  clear hb2 hs2 IF HBA HS1
  go_wp2_with fail
  clear f0 c0 c1 c2 c3 c4 c5 c6
  refine (NE.out _).mono ?_
  rintro e w4 ⟨rfl, hb4⟩
  have hs4 := kept_v hb4 HS2.out
  have HS4 := Lib.hid hs4
  have HB4 := Lib.hid (HB2.out.trans (hb4.mono HB2.out.size))
  obtain ⟨f0, c0, c1, c2, c3, c4, c5, c6⟩ := seven hs4
  clear hb4 hs4 NE HB2 HS2
  go_wp2_with fail
  clear f0 c0 c1 c2 c3 c4 c5 c6
  refine (NU.out _ HB4.out).mono ?_
  rintro e w5 ⟨rfl, rfl⟩
  go_wp2_with fail
  go_ret2
  exact ⟨rfl, HB4.out⟩
set_option maxHeartbeats 2000000 in
theorem read_near (h : Hl) (g off cap : Nat) (x0 x1 x2 x3 : Int) (w : World) (hG : Gd w)
    (a0 : 0 ≤ x0) (b0 : x0 < 256) (a1 : 0 ≤ x1) (b1 : x1 < 256) (a2 : 0 ≤ x2) (b2 : x2 < 256) (a3 : 0 ≤ x3) (b3 : x3 < 256)
    (c0 : w.cell? ⟨g, off, none⟩ = some (.int .u8 x0)) (c1 : w.cell? ⟨g, off + 1, none⟩ = some (.int .u8 x1)) (c2 : w.cell? ⟨g, off + 2, none⟩ = some (.int .u8 x2)) (c3 : w.cell? ⟨g, off + 3, none⟩ = some (.int .u8 x3))
    (X : Nat) (hX : w4I x0 x1 x2 x3 = (X : Int)) (hX2 : X < 4294967296) (R : Int) (hR : IntKind.i64.wrap (distI (shR h.k h.s).o X * (shR h.k h.s).t) = R)
    (hok : inOk h.k h.s 4 = true) (hf : filledB (shR h.k h.s) = true) (hn : nearB (shR h.k h.s) = true) (hbr : brOp (shR h.k h.s).o) :
    Calls Tryd.prog 26 #[.slice (some ⟨g, off, none⟩) 4 cap, hlV h] w fun e w' => e = .returned (.tuple #[.int .i64 R, .int .i64 0]) ∧ Below w.heap.size w w' := by
  have SI := Lib.hid (fun W hb => shapeIn_any h (some ⟨g, off, none⟩) 4 cap W (hG.keep hb))
  have IF := Lib.hid (fun W => isFilled_any (shR h.k h.s) W)
  have NE := Lib.hid (fun W => isNear_any (shR h.k h.s) W)
  have WO := Lib.hid (fun W (hb : Below w.heap.size w W) => word4_any x0 x1 x2 x3 g off cap W a0 b0 a1 b1 a2 b2 a3 b3 (cell_kept hb c0) (cell_kept hb c1) (cell_kept hb c2) (cell_kept hb c3))
  rw [hX] at WO
  have DI := Lib.hid (fun W => dist_any hbr X hX2 W)
  generalize distI (shR h.k h.s).o X = D at *
  have e1 : inR h.k h.s 4 = shR h.k h.s := by simp [inR, hok]
  have e2 : inE h.k h.s 4 = 0 := by simp [inE, hok]
  rw [e1, e2] at SI
  rw [hf] at IF
  rw [hn] at NE
  clear e1 e2 hok hf hn hG hX hX2 hbr a0 b0 a1 b1 a2 b2 a3 b3 c0 c1 c2 c3
  obtain ⟨k, s, ad, p, m⟩ := h
  unfold hlV at *
  simp only at *
  generalize shR k s = sh at *
  obtain ⟨y0, y1, y2, y3, y4, y5, y6⟩ := sh
  unfold shV at *
  simp only at *
  go_enter Tryd.func26, Tryd.ntmps26
  go_wp2_with fail
  refine (SI.out _ (below1 w _)).mono ?_
  rintro e w1 ⟨rfl, hb1⟩
  have HB1 := Lib.hid (Below.thn (below1 w _) (by simp) hb1)
  clear hb1 SI
  go_wp2_with fail
  have hs1 := heap_alloc_new w1 (.cells #[.int .i64 y0, .int .i64 y1, .int .i64 y2, .int .i64 y3, .int .i64 y4, .int .i64 y5, .int .i64 y6] 71)
  have HS1 := Lib.hid hs1
  have HBA := Lib.hid (HB1.out.alloc HB1.out.size (.cells #[.int .i64 y0, .int .i64 y1, .int .i64 y2, .int .i64 y3, .int .i64 y4, .int .i64 y5, .int .i64 y6] 71))
  generalize (w1.alloc (.cells #[.int .i64 y0, .int .i64 y1, .int .i64 y2, .int .i64 y3, .int .i64 y4, .int .i64 y5, .int .i64 y6] 71)) = W1 at *
  clear hs1 HB1
  refine (IF.out _).mono ?_
  rintro e w2 ⟨rfl, hb2⟩
  have hs2 := kept_v hb2 HS1.out
  have HS2 := Lib.hid hs2
  have HB2 := Lib.hid (HBA.out.trans (hb2.mono HBA.out.size))
  obtain ⟨f0, c0, c1, c2, c3, c4, c5, c6⟩ := seven hs2
  clear hb2 hs2 IF HBA HS1
  go_wp2_with fail
  clear f0 c0 c1 c2 c3 c4 c5 c6
  refine (NE.out _).mono ?_
  rintro e w4 ⟨rfl, hb4⟩
  have hs4 := kept_v hb4 HS2.out
  have HS4 := Lib.hid hs4
  have HB4 := Lib.hid (HB2.out.trans (hb4.mono HB2.out.size))
  obtain ⟨f0, c0, c1, c2, c3, c4, c5, c6⟩ := seven hs4
  clear hb4 hs4 NE HB2 HS2
  go_wp2_with fail
  refine (WO.out _ HB4.out).mono ?_
  rintro e w5 ⟨rfl, h5⟩
  have hs5 := h5 ▸ HS4.out
  have HS5 := Lib.hid hs5
  have HB5 := Lib.hid (show Below w.heap.size w w5 from h5 ▸ HB4.out)
  clear f0 c0 c1 c2 c3 c4 c5 c6
  obtain ⟨f0, c0, c1, c2, c3, c4, c5, c6⟩ := seven hs5
  clear hs5 h5 HS4 HB4 WO
  go_wp2_with fail
  have S0 : w5.cell? ⟨w1.heap.size, 3, none⟩ = some (.int .i64 y3) ∧ w5.cell? ⟨w1.heap.size, 6, none⟩ = some (.int .i64 y6) := ⟨c3, c6⟩
  clear f0 c0 c1 c2 c3 c4 c5 c6 HS5
  go_region_held3 (fun w' => w'.cell? ⟨w1.heap.size, 3, none⟩ = some (.int .i64 y3) ∧ w'.cell? ⟨w1.heap.size, 6, none⟩ = some (.int .i64 y6)) (first | with_reducible exact S0 | with_reducible exact S1 | exact S0 | exact S1) ((go_at_call 56; (with_reducible refine (DI.out _).mono ?_); rintro e w6 ⟨rfl, hb6⟩; have hc6 : Below w5.heap.size w5 w6 := Below.thn (Below.refl _ w5).drew (Nat.le_refl _) hb6; have S1 := And.intro (cell_kept hc6 S0.1) (cell_kept hc6 S0.2); have HB6 := Lib.hid (HB5.out.trans (hc6.mono HB5.out.size)); clear hb6 hc6))
  go_wp2_with fail
  go_ret2
  exact ⟨rfl, HB6.out⟩
end Go.Proofs.YtjkhgljlipljdaaDoor
namespace Go.Proofs.YtjkhgljlipljdaaDoor
open Go.RowKit
set_option linter.unusedVariables false
set_option linter.unusedSimpArgs false
theorem fiveH {W : World} {B : Nat} {T : TypeId} {v0 v1 v2 v3 v4 : Value} (h : W.heap[B]? = some (.cells #[v0, v1, v2, v3, v4] T (0, 0))) :
    (∀ o, W.frozen? ⟨B, o, none⟩ = false) ∧ W.cell? ⟨B, 0, none⟩ = some v0 ∧ W.cell? ⟨B, 1, none⟩ = some v1 ∧ W.cell? ⟨B, 2, none⟩ = some v2 ∧ W.cell? ⟨B, 3, none⟩ = some v3 ∧ W.cell? ⟨B, 4, none⟩ = some v4 :=
  ⟨fun o => Lib.frozen_of_heap h o, Lib.cell_of_heap h 0, Lib.cell_of_heap h 1, Lib.cell_of_heap h 2, Lib.cell_of_heap h 3, Lib.cell_of_heap h 4⟩
set_option maxRecDepth 20000 in
set_option maxHeartbeats 4000000 in
theorem back_err (h : Hl) (v : Int) (a : Option Addr) (len cap : Nat) (w : World) (hG : Gd w) (u : Value) (E : Int) (hE : E ≠ 0)
    (F : Hid (∀ W, Below w.heap.size w W → Calls Tryd.prog 24 #[.slice a len cap, hlV h, .int .i64 v] W fun e w' => e = .returned (.tuple #[u, .int .i64 E]) ∧ Below W.heap.size W w')) :
    Calls Tryd.prog 6 #[.slice a len cap, hlV h, .int .i64 v] w fun e w' => e = .returned (.bool true) ∧ Below w.heap.size w w' := by
  have LV := Lib.hid (fun W (hb : Below w.heap.size w W) => live_any W (hG.keep hb))
  have he : (E != 0) = true := by rw [bne_iff_ne]; exact hE
  clear hG
  obtain ⟨k, s, ad, p, m⟩ := h
  unfold hlV at *
  simp only at *
  go_enter Tryd.func6, Tryd.ntmps6
  go_wp2_with fail
  have g0 := heap_alloc_new w (.cells #[.int .i64 k, .int .i64 s, .int .i64 ad, .string p, .string m] 25)
  have HB0 := Lib.hid (below1 w (.cells #[.int .i64 k, .int .i64 s, .int .i64 ad, .string p, .string m] 25))
  refine (LV.out _ HB0.out).mono ?_
  rintro e w1 ⟨rfl, hb1⟩
  have G1 := Lib.hid (kept_v hb1 g0)
  have HB1 := Lib.hid (Below.thn HB0.out HB0.out.size hb1)
  obtain ⟨f0, c0, c1, c2, c3, c4⟩ := fiveH G1.out
  clear hb1 g0 HB0 LV
  by_cases hl : (100 : Int) < (len : Int)
  · go_wp2_with fail
    go_ret
    exact ⟨rfl, HB1.out⟩
  · go_wp2_with fail
    refine (F.out _ HB1.out).mono ?_
    rintro e w2 ⟨rfl, hb2⟩
    have HB2 := Lib.hid (Below.thn HB1.out HB1.out.size hb2)
    clear hb2
    go_wp2_with fail
    go_ret
    exact ⟨rfl, HB2.out⟩
set_option maxRecDepth 20000 in
set_option maxHeartbeats 4000000 in
theorem back_low (h : Hl) (v : Int) (a : Option Addr) (len cap : Nat) (w : World) (hG : Gd w) (h8 : len ≤ 8) (Q : World → Nat → Prop) (R Lo R2 : Int)
    (hk : ∀ {W W' : World} {B : Nat}, Below W.heap.size W W' → Q W B → Q W' B)
    (F : Hid (∀ W, Below w.heap.size w W → Calls Tryd.prog 24 #[.slice a len cap, hlV h, .int .i64 v] W fun e w' => ∃ B, e = .returned (.tuple #[.slice (some ⟨B, 0, none⟩) len len, .int .i64 0]) ∧ Q w' B ∧ Below W.heap.size W w'))
    (RX : Hid (∀ W B, Q W B → Calls Tryd.prog 26 #[.slice (some ⟨B, 0, none⟩) len len, hlV h] W fun e w' => e = .returned (.tuple #[.int .i64 R, .int .i64 0]) ∧ Below W.heap.size W w'))
    (LW : Hid (∀ W, Calls Tryd.prog 29 #[.int .u64 (IntKind.u64.wrap v), .int .i64 (8 * (len : Int))] W fun e w' => e = .returned (.int .u64 Lo) ∧ W = w'))
    (RB : Hid (∀ W, Below w.heap.size w W → Calls Tryd.prog 26 #[.slice a len cap, hlV h] W fun e w' => e = .returned (.tuple #[.int .i64 R2, .int .i64 0]) ∧ Below W.heap.size W w'))
    (NE : Hid (∀ W, Calls Tryd.prog 30 #[hlV h] W fun e w' => e = .returned (.bool false) ∧ Below W.heap.size W w')) (hLo : IntKind.i64.wrap Lo = R) :
    Calls Tryd.prog 6 #[.slice a len cap, hlV h, .int .i64 v] w fun e w' => e = .returned (.bool true) ∧ Below w.heap.size w w' := by
  have LV := Lib.hid (fun W (hb : Below w.heap.size w W) => live_any W (hG.keep hb))
  have w8 : IntKind.i64.wrap (8 * (len : Int)) = 8 * (len : Int) := IntWalk.i64_in _ (by omega)
  clear hG
  obtain ⟨k, s, ad, p, m⟩ := h
  unfold hlV at *
  simp only at *
  go_enter Tryd.func6, Tryd.ntmps6
  go_wp2_with fail
  have g0 := heap_alloc_new w (.cells #[.int .i64 k, .int .i64 s, .int .i64 ad, .string p, .string m] 25)
  have HB0 := Lib.hid (below1 w (.cells #[.int .i64 k, .int .i64 s, .int .i64 ad, .string p, .string m] 25))
  refine (LV.out _ HB0.out).mono ?_
  rintro e w1 ⟨rfl, hb1⟩
  have G1 := Lib.hid (kept_v hb1 g0)
  have HB1 := Lib.hid (Below.thn HB0.out HB0.out.size hb1)
  obtain ⟨f0, c0, c1, c2, c3, c4⟩ := fiveH G1.out
  clear hb1 g0 HB0 LV
  have hl : ¬ (100 : Int) < (len : Int) := by omega
  go_wp2_with fail
  refine (F.out _ HB1.out).mono ?_
  rintro e w2 ⟨B, rfl, hQ, hb2⟩
  have G2 := Lib.hid (kept_v hb2 G1.out)
  have HB2 := Lib.hid (Below.thn HB1.out HB1.out.size hb2)
  have HQ := Lib.hid hQ
  clear f0 c0 c1 c2 c3 c4 hb2 hQ F G1 HB1
  obtain ⟨f0, c0, c1, c2, c3, c4⟩ := fiveH G2.out
  go_wp2_with fail
  refine (RX.out _ _ HQ.out).mono ?_
  rintro e w3 ⟨rfl, hb3⟩
  have G3 := Lib.hid (kept_v hb3 G2.out)
  have HB3 := Lib.hid (Below.thn HB2.out HB2.out.size hb3)
  have HQ3 := Lib.hid (hk hb3 HQ.out)
  clear f0 c0 c1 c2 c3 c4 hb3 G2 HB2 HQ RX
  obtain ⟨f0, c0, c1, c2, c3, c4⟩ := fiveH G3.out
  go_wp2_with fail
  refine (LW.out _).mono ?_
  rintro e w3x ⟨rfl, rfl⟩
  go_wp2_with fail
  refine (NE.out _).mono ?_
  rintro e w4 ⟨rfl, hb4⟩
  have G4 := Lib.hid (kept_v hb4 G3.out)
  have HB4 := Lib.hid (Below.thn HB3.out HB3.out.size hb4)
  have HQ4 := Lib.hid (hk hb4 HQ3.out)
  clear f0 c0 c1 c2 c3 c4 hb4 G3 HB3 HQ3
  obtain ⟨f0, c0, c1, c2, c3, c4⟩ := fiveH G4.out
  go_wp2_with fail
  refine (RB.out _ HB4.out).mono ?_
  rintro e w5 ⟨rfl, hb5⟩
  have G5 := Lib.hid (kept_v hb5 G4.out)
  have HB5 := Lib.hid (Below.thn HB4.out HB4.out.size hb5)
  have HQ5 := Lib.hid (hk hb5 HQ4.out)
  clear f0 c0 c1 c2 c3 c4 hb5 G4 HB4 HQ4
  obtain ⟨f0, c0, c1, c2, c3, c4⟩ := fiveH G5.out
  go_wp2_with fail
  refine (NE.out _).mono ?_
  rintro e w6 ⟨rfl, hb6⟩
  have G6 := Lib.hid (kept_v hb6 G5.out)
  have HB6 := Lib.hid (Below.thn HB5.out HB5.out.size hb6)
  have HQ6 := Lib.hid (hk hb6 HQ5.out)
  clear f0 c0 c1 c2 c3 c4 hb6 G5 HB5 HQ5
  obtain ⟨f0, c0, c1, c2, c3, c4⟩ := fiveH G6.out
  go_wp2_with fail
  go_ret
  exact ⟨rfl, HB6.out⟩
set_option maxRecDepth 20000 in
set_option maxHeartbeats 4000000 in
theorem back_near (h : Hl) (v : Int) (a : Option Addr) (len cap : Nat) (w : World) (hG : Gd w) (h8 : len ≤ 8) (Q : World → Nat → Prop) (R Lo R2 : Int)
    (hk : ∀ {W W' : World} {B : Nat}, Below W.heap.size W W' → Q W B → Q W' B)
    (F : Hid (∀ W, Below w.heap.size w W → Calls Tryd.prog 24 #[.slice a len cap, hlV h, .int .i64 v] W fun e w' => ∃ B, e = .returned (.tuple #[.slice (some ⟨B, 0, none⟩) len len, .int .i64 0]) ∧ Q w' B ∧ Below W.heap.size W w'))
    (RX : Hid (∀ W B, Q W B → Calls Tryd.prog 26 #[.slice (some ⟨B, 0, none⟩) len len, hlV h] W fun e w' => e = .returned (.tuple #[.int .i64 R, .int .i64 0]) ∧ Below W.heap.size W w'))
    (LW : Hid (∀ W, Calls Tryd.prog 29 #[.int .u64 (IntKind.u64.wrap v), .int .i64 (8 * (len : Int))] W fun e w' => e = .returned (.int .u64 Lo) ∧ W = w'))
    (RB : Hid (∀ W, Below w.heap.size w W → Calls Tryd.prog 26 #[.slice a len cap, hlV h] W fun e w' => e = .returned (.tuple #[.int .i64 R2, .int .i64 0]) ∧ Below W.heap.size W w'))
    (NE : Hid (∀ W, Calls Tryd.prog 30 #[hlV h] W fun e w' => e = .returned (.bool true) ∧ Below W.heap.size W w'))
    (hR : R = v) (Q2 : World → Nat → Prop)
    (F2 : Hid (∀ W B, Below w.heap.size w W → Q W B → Calls Tryd.prog 24 #[.slice (some ⟨B, 0, none⟩) len len, hlV h, .int .i64 R2] W fun e w' => ∃ B2, e = .returned (.tuple #[.slice (some ⟨B2, 0, none⟩) len len, .int .i64 0]) ∧ Q2 w' B2 ∧ Below W.heap.size W w'))
    (EQ : Hid (∀ W B2, Below w.heap.size w W → Q2 W B2 → Calls Tryd.prog 28 #[.slice (some ⟨B2, 0, none⟩) len len, .slice a len cap] W fun e w' => e = .returned (.bool true) ∧ W = w')) :
    Calls Tryd.prog 6 #[.slice a len cap, hlV h, .int .i64 v] w fun e w' => e = .returned (.bool true) ∧ Below w.heap.size w w' := by
  have LV := Lib.hid (fun W (hb : Below w.heap.size w W) => live_any W (hG.keep hb))
  have w8 : IntKind.i64.wrap (8 * (len : Int)) = 8 * (len : Int) := IntWalk.i64_in _ (by omega)
  clear hG
  subst hR
  obtain ⟨k, s, ad, p, m⟩ := h
  unfold hlV at *
  simp only at *
  go_enter Tryd.func6, Tryd.ntmps6
  go_wp2_with fail
  have g0 := heap_alloc_new w (.cells #[.int .i64 k, .int .i64 s, .int .i64 ad, .string p, .string m] 25)
  have HB0 := Lib.hid (below1 w (.cells #[.int .i64 k, .int .i64 s, .int .i64 ad, .string p, .string m] 25))
  refine (LV.out _ HB0.out).mono ?_
  rintro e w1 ⟨rfl, hb1⟩
  have G1 := Lib.hid (kept_v hb1 g0)
  have HB1 := Lib.hid (Below.thn HB0.out HB0.out.size hb1)
  obtain ⟨f0, c0, c1, c2, c3, c4⟩ := fiveH G1.out
  clear hb1 g0 HB0 LV
  have hl : ¬ (100 : Int) < (len : Int) := by omega
  go_wp2_with fail
  refine (F.out _ HB1.out).mono ?_
  rintro e w2 ⟨B, rfl, hQ, hb2⟩
  have G2 := Lib.hid (kept_v hb2 G1.out)
  have HB2 := Lib.hid (Below.thn HB1.out HB1.out.size hb2)
  have HQ := Lib.hid hQ
  clear f0 c0 c1 c2 c3 c4 hb2 hQ F G1 HB1
  obtain ⟨f0, c0, c1, c2, c3, c4⟩ := fiveH G2.out
  go_wp2_with fail
  refine (RX.out _ _ HQ.out).mono ?_
  rintro e w3 ⟨rfl, hb3⟩
  have G3 := Lib.hid (kept_v hb3 G2.out)
  have HB3 := Lib.hid (Below.thn HB2.out HB2.out.size hb3)
  have HQ3 := Lib.hid (hk hb3 HQ.out)
  clear f0 c0 c1 c2 c3 c4 hb3 G2 HB2 HQ RX
  obtain ⟨f0, c0, c1, c2, c3, c4⟩ := fiveH G3.out
  go_wp2_with fail
  refine (LW.out _).mono ?_
  rintro e w3x ⟨rfl, rfl⟩
  go_wp2_with fail
  refine (NE.out _).mono ?_
  rintro e w4 ⟨rfl, hb4⟩
  have G4 := Lib.hid (kept_v hb4 G3.out)
  have HB4 := Lib.hid (Below.thn HB3.out HB3.out.size hb4)
  have HQ4 := Lib.hid (hk hb4 HQ3.out)
  clear f0 c0 c1 c2 c3 c4 hb4 G3 HB3 HQ3
  obtain ⟨f0, c0, c1, c2, c3, c4⟩ := fiveH G4.out
  go_wp2_with fail
  refine (RB.out _ HB4.out).mono ?_
  rintro e w5 ⟨rfl, hb5⟩
  have G5 := Lib.hid (kept_v hb5 G4.out)
  have HB5 := Lib.hid (Below.thn HB4.out HB4.out.size hb5)
  have HQ5 := Lib.hid (hk hb5 HQ4.out)
  clear f0 c0 c1 c2 c3 c4 hb5 G4 HB4 HQ4
  obtain ⟨f0, c0, c1, c2, c3, c4⟩ := fiveH G5.out
  go_wp2_with fail
  refine (NE.out _).mono ?_
  rintro e w6 ⟨rfl, hb6⟩
  have G6 := Lib.hid (kept_v hb6 G5.out)
  have HB6 := Lib.hid (Below.thn HB5.out HB5.out.size hb6)
  have HQ6 := Lib.hid (hk hb6 HQ5.out)
  clear f0 c0 c1 c2 c3 c4 hb6 G5 HB5 HQ5
  obtain ⟨f0, c0, c1, c2, c3, c4⟩ := fiveH G6.out
  go_wp2_with fail
  refine (F2.out _ _ HB6.out HQ6.out).mono ?_
  rintro e w7 ⟨B2, rfl, hQ2, hb7⟩
  have HB7 := Lib.hid (Below.thn HB6.out HB6.out.size hb7)
  have HQ7 := Lib.hid hQ2
  clear f0 c0 c1 c2 c3 c4 hb7 G6 HB6 HQ6 hQ2
  go_wp2_with fail
  refine (EQ.out _ _ HB7.out HQ7.out).mono ?_
  rintro e w8 ⟨rfl, rfl⟩
  go_wp2_with fail
  go_ret
  exact ⟨rfl, HB7.out⟩
end Go.Proofs.YtjkhgljlipljdaaDoor
namespace Go.Proofs.YtjkhgljlipljdaaDoor
open Go.RowKit
set_option linter.unusedVariables false
set_option linter.unusedSimpArgs false
def bytN (v : Int) (j : Nat) : Nat := (v / 2 ^ (8 * j) % 256).toNat
theorem bytN_lt (v : Int) (j : Nat) : bytN v j < 256 := by unfold bytN; omega
theorem lowN_mod (v : Int) : ∀ n, ((lowN (bytN v) n : Nat) : Int) = v % 2 ^ (8 * n)
  | 0 => by simp [lowN, Int.emod_one]
  | n + 1 => by
    have ih := lowN_mod v n
    have hb : ((bytN v n : Nat) : Int) = v / 2 ^ (8 * n) % 256 := by unfold bytN; omega
    have hp : (2 : Int) ^ (8 * (n + 1)) = 256 * 2 ^ (8 * n) := by rw [show 8 * (n + 1) = 8 * n + 8 by omega, Int.pow_add, Int.mul_comm]; rfl
    have hp0 : (0 : Int) < 2 ^ (8 * n) := Int.pow_pos (by decide)
    have e : ((lowN (bytN v) (n + 1) : Nat) : Int) = ((lowN (bytN v) n : Nat) : Int) + ((bytN v n : Nat) : Int) * 2 ^ (8 * n) := by
      show ((lowN (bytN v) n + bytN v n * 2 ^ (8 * n) : Nat) : Int) = _
      simp
    rw [e, ih, hb, hp]
    generalize (2 : Int) ^ (8 * n) = P at *
    have h1 := Int.mul_ediv_add_emod v P
    have h2 := Int.mul_ediv_add_emod (v / P) 256
    have h3 := Int.emod_nonneg v (show P ≠ 0 by omega)
    have h4 := Int.emod_lt_of_pos v hp0
    have h5 := Int.emod_nonneg (v / P) (show (256 : Int) ≠ 0 by decide)
    have h6 := Int.emod_lt_of_pos (v / P) (show (0 : Int) < 256 by decide)
    generalize v % P = r at *
    generalize v / P = q at *
    generalize q % 256 = r2 at *
    generalize q / 256 = q2 at *
    have h7 : r2 * P ≤ 255 * P := Int.mul_le_mul_of_nonneg_right (by omega) (by omega)
    have h8 : 0 ≤ r2 * P := Int.mul_nonneg h5 (by omega)
    have h9 : v = (r + r2 * P) + (256 * P) * q2 := by
      rw [← h1, ← h2, Int.mul_add, Int.add_comm, Int.mul_comm P r2, Int.mul_comm P (256 * q2), Int.mul_assoc 256 q2 P, Int.mul_comm q2 P, ← Int.mul_assoc 256 P q2]
      omega
    rw [h9, Int.add_mul_emod_self_left]
    exact (Int.emod_eq_of_lt (by omega) (by omega)).symm
theorem lowU (v : Int) (n : Nat) (hn : n ≤ 8) (w : World) :
    Calls Tryd.prog 29 #[.int .u64 (IntKind.u64.wrap v), .int .i64 (8 * (n : Int))] w fun e w' => e = .returned (.int .u64 ((lowN (bytN v) n : Nat) : Int)) ∧ w = w' := by
  have hw : IntKind.u64.wrap v = v % 18446744073709551616 := IntKind.wrap_u64 v
  rcases Nat.lt_or_ge n 8 with h | h
  · have := Bit.low_any (IntKind.u64.wrap v) (8 * (n : Int)) w (by rw [hw]; omega) (by omega) (by omega)
    rw [show IntKind.u64.wrap v % Bit.powI (8 * (n : Int)) = ((lowN (bytN v) n : Nat) : Int) from ?_] at this
    · exact this
    · rw [lowN_mod, hw, Bit.powI_sub, show (8 * (n : Int)).toNat = 8 * n by omega]
      refine Int.emod_emod_of_dvd v ?_
      exact ⟨2 ^ (64 - 8 * n), by rw [← Int.pow_add, show 8 * n + (64 - 8 * n) = 64 by omega]; rfl⟩
  · obtain rfl : n = 8 := by omega
    have := Bit.low_big (IntKind.u64.wrap v) (8 * ((8 : Nat) : Int)) w (by decide)
    rw [show ((lowN (bytN v) 8 : Nat) : Int) = IntKind.u64.wrap v by rw [lowN_mod, hw]; rfl]
    exact this
theorem near_k {k s : Int} (hok : holeOk k s = true) : nearB (shR k s) = decide (k ≤ 6) := by
  obtain ⟨⟨K, S⟩, hx, rfl, rfl⟩ := holes_all hok
  simp only [holesL, List.mem_cons, Prod.mk.injEq, List.not_mem_nil, or_false] at hx
  rcases hx with ⟨rfl, rfl⟩ | ⟨rfl, rfl⟩ | ⟨rfl, rfl⟩ | ⟨rfl, rfl⟩ | ⟨rfl, rfl⟩ | ⟨rfl, rfl⟩ | ⟨rfl, rfl⟩ | ⟨rfl, rfl⟩ | ⟨rfl, rfl⟩ | ⟨rfl, rfl⟩ | ⟨rfl, rfl⟩ | ⟨rfl, rfl⟩ | ⟨rfl, rfl⟩ | ⟨rfl, rfl⟩ | ⟨rfl, rfl⟩
  all_goals decide
theorem near_lm {k s : Int} (hok : holeOk k s = true) (hn : nearB (shR k s) = true) :
    (shR k s).l = -((shR k s).t * 2 ^ ((wiN (shR k s).o).toNat - 1)) ∧ (shR k s).m = (shR k s).t * (2 ^ ((wiN (shR k s).o).toNat - 1) - 1) := by
  obtain ⟨⟨K, S⟩, hx, rfl, rfl⟩ := holes_all hok
  simp only [holesL, List.mem_cons, Prod.mk.injEq, List.not_mem_nil, or_false] at hx
  rcases hx with ⟨rfl, rfl⟩ | ⟨rfl, rfl⟩ | ⟨rfl, rfl⟩ | ⟨rfl, rfl⟩ | ⟨rfl, rfl⟩ | ⟨rfl, rfl⟩ | ⟨rfl, rfl⟩ | ⟨rfl, rfl⟩ | ⟨rfl, rfl⟩ | ⟨rfl, rfl⟩ | ⟨rfl, rfl⟩ | ⟨rfl, rfl⟩ | ⟨rfl, rfl⟩ | ⟨rfl, rfl⟩ | ⟨rfl, rfl⟩
  all_goals first
    | exact absurd hn (by decide)
    | exact ⟨by decide, by decide⟩
theorem wid_near {op : Int} (hb : brOp op) : (2 : Int) ^ ((wiN op).toNat - 1) ≤ 33554432 ∧ 1 ≤ (wiN op).toNat ∧ (0 : Int) < 2 ^ ((wiN op).toNat - 1) := by
  rcases hb with rfl | rfl | rfl | rfl | rfl <;> decide
theorem dist_bd {op : Int} (hb : brOp op) (x : Nat) : -(2 : Int) ^ ((wiN op).toNat - 1) ≤ distI op x ∧ distI op x < 2 ^ ((wiN op).toNat - 1) :=
  (sgn_mod (fldN op x) (wiN op).toNat (wid_near hb).2.1 (fld_lt hb x)).2
theorem dist_fits {k s : Int} (hok : holeOk k s = true) (hn : nearB (shR k s) = true) (x : Nat) :
    fitsB (shR k s) (distI (shR k s).o x * (shR k s).t) = true ∧ (distI (shR k s).o x * (shR k s).t).tdiv (shR k s).t = distI (shR k s).o x ∧ (-134217728 ≤ distI (shR k s).o x * (shR k s).t ∧ distI (shR k s).o x * (shR k s).t ≤ 134217727) := by
  obtain ⟨hbr, _, ht, _, _⟩ := near_facts hok hn
  obtain ⟨hl, hm⟩ := near_lm hok hn
  have hw := wid_near hbr
  have hd := dist_bd hbr x
  unfold fitsB
  rw [hl, hm]
  generalize distI (shR k s).o x = d at *
  generalize (2 : Int) ^ ((wiN (shR k s).o).toNat - 1) = P at *
  rcases ht with ht | ht
  · rw [ht]
    refine ⟨?_, Int.mul_tdiv_cancel _ (by decide), by omega⟩
    rw [Int.mul_tmod_left]
    simp
    omega
  · rw [ht]
    refine ⟨?_, Int.mul_tdiv_cancel _ (by decide), by omega⟩
    rw [Int.mul_tmod_left]
    simp
    omega
theorem fits_div {sh : Sh} {v : Int} (h : fitsB sh v = true) : v.tdiv sh.t * sh.t = v := by
  unfold fitsB at h
  simp at h
  have := Int.mul_tdiv_add_tmod v sh.t
  rw [h.2.2, Int.mul_comm] at this
  omega
end Go.Proofs.YtjkhgljlipljdaaDoor
namespace Go.Proofs.YtjkhgljlipljdaaDoor
open Go.RowKit
set_option linter.unusedVariables false
set_option linter.unusedSimpArgs false
/-- the four bytes of a word -/
def w4C (r : Nat) : Array Value := #[.int .u8 ((r : Int) % 256), .int .u8 ((r : Int) / 256 % 256), .int .u8 ((r : Int) / 65536 % 256), .int .u8 ((r : Int) / 16777216)]
theorem w4_back (r : Nat) : w4I ((r : Int) % 256) ((r : Int) / 256 % 256) ((r : Int) / 65536 % 256) ((r : Int) / 16777216) = (r : Int) := by unfold w4I; omega
/-- a number is filled into the word of four bytes -/
theorem fill_word (h : Hl) (v : Int) (hv : -9223372036854775808 ≤ v ∧ v ≤ 9223372036854775807) (g off cap : Nat) (x0 x1 x2 x3 : Int) (X : Nat) (w : World) (hG : Gd w) (hI : GI w)
    (a0 : 0 ≤ x0) (b0 : x0 < 256) (a1 : 0 ≤ x1) (b1 : x1 < 256) (a2 : 0 ≤ x2) (b2 : x2 < 256) (a3 : 0 ≤ x3) (b3 : x3 < 256)
    (c0 : w.cell? ⟨g, off, none⟩ = some (.int .u8 x0)) (c1 : w.cell? ⟨g, off + 1, none⟩ = some (.int .u8 x1)) (c2 : w.cell? ⟨g, off + 2, none⟩ = some (.int .u8 x2)) (c3 : w.cell? ⟨g, off + 3, none⟩ = some (.int .u8 x3))
    (hX : w4I x0 x1 x2 x3 = (X : Int)) (hok : holeOk h.k h.s = true) (hin : inOk h.k h.s 4 = true) (hfit : fitsB (shR h.k h.s) v = true) (hn : nearB (shR h.k h.s) = true) :
    Calls Tryd.prog 24 #[.slice (some ⟨g, off, none⟩) 4 cap, hlV h, .int .i64 v] w fun e w' => ∃ B, e = .returned (.tuple #[.slice (some ⟨B, 0, none⟩) 4 4, .int .i64 0]) ∧
      w'.heap[B]? = some (.cells (w4C (setM X (shR h.k h.s).o (v.tdiv (shR h.k h.s).t))) 117 (0, 0)) ∧ Below w.heap.size w w' := by
  obtain ⟨hbr, h4, ht', hf, hsf⟩ := near_facts hok hn
  have hw := w4I_bd a0 b0 a1 b1 a2 b2 a3 b3
  have hs := setN_bd _ (shR h.k h.s).o (v.tdiv (shR h.k h.s).t) hw.1 hw.2
  have hXl : X < 4294967296 := by omega
  have he := setM_eq X (shR h.k h.s).o (v.tdiv (shR h.k h.s).t) hXl
  rcases ht' with ht' | ht'
  · refine (fill_near4 h v hv g off cap x0 x1 x2 x3 w hG hI a0 b0 a1 b1 a2 b2 a3 b3 c0 c1 c2 c3 hin hf ht' hfit hn hbr (hsf v hfit) hs).mono fun e w' ⟨B, h1, _, h2, hb⟩ => ⟨B, h1, ?_, hb⟩
    rw [hX, he] at h2
    exact h2
  · refine (fill_near1 h v hv g off cap x0 x1 x2 x3 w hG hI a0 b0 a1 b1 a2 b2 a3 b3 c0 c1 c2 c3 hin hf ht' hfit hn hbr (hsf v hfit) hs).mono fun e w' ⟨B, h1, _, h2, hb⟩ => ⟨B, h1, ?_, hb⟩
    rw [hX, he] at h2
    exact h2
theorem conv4 {W : World} (g off len cap : Nat) (x0 x1 x2 x3 : Int) (hl : len = 4) (c0 : W.cell? ⟨g, off, none⟩ = some (.int .u8 x0)) (c1 : W.cell? ⟨g, off + 1, none⟩ = some (.int .u8 x1)) (c2 : W.cell? ⟨g, off + 2, none⟩ = some (.int .u8 x2)) (c3 : W.cell? ⟨g, off + 3, none⟩ = some (.int .u8 x3)) :
    (convert 53 9 (.slice (some ⟨g, off, none⟩) len cap)).run Tryd.prog W = .ok (.string (strOfNums [x0, x1, x2, x3])) W := by
  subst hl
  refine run_convert_bytes_arg (P := Tryd.prog) (w := W) _ 5 Tryd.underlying53 Tryd.underlying5 g off 4 cap [x0, x1, x2, x3] rfl (fun i hi => ?_) _ Tryd.underlying9
  obtain rfl | rfl | rfl | rfl : i = 0 ∨ i = 1 ∨ i = 2 ∨ i = 3 := by omega
  · exact c0
  · exact c1
  · exact c2
  · exact c3
theorem equal4 (g off c g2 off2 c2 : Nat) (x0 x1 x2 x3 : Int) (w : World) (a0 : w.cell? ⟨g, off, none⟩ = some (.int .u8 x0)) (a1 : w.cell? ⟨g, off + 1, none⟩ = some (.int .u8 x1)) (a2 : w.cell? ⟨g, off + 2, none⟩ = some (.int .u8 x2)) (a3 : w.cell? ⟨g, off + 3, none⟩ = some (.int .u8 x3))
    (b0 : w.cell? ⟨g2, off2, none⟩ = some (.int .u8 x0)) (b1 : w.cell? ⟨g2, off2 + 1, none⟩ = some (.int .u8 x1)) (b2 : w.cell? ⟨g2, off2 + 2, none⟩ = some (.int .u8 x2)) (b3 : w.cell? ⟨g2, off2 + 3, none⟩ = some (.int .u8 x3)) :
    Calls Tryd.prog 28 #[.slice (some ⟨g, off, none⟩) 4 c, .slice (some ⟨g2, off2, none⟩) 4 c2] w fun e w' => e = .returned (.bool true) ∧ w = w' := by
  have h1 := conv4 g off 4 c x0 x1 x2 x3 rfl a0 a1 a2 a3
  have h2 := conv4 g2 off2 4 c2 x0 x1 x2 x3 rfl b0 b1 b2 b3
  generalize strOfNums [x0, x1, x2, x3] = S at *
  go_enter Tryd.func28, Tryd.ntmps28
  go_wp2_with fail
  go_ret
  exact ⟨rfl, rfl⟩
theorem wid_one {k s : Int} (hok : holeOk k s = true) (hf : filledB (shR k s) = true) : 1 ≤ (shR k s).w := by
  obtain ⟨⟨K, S⟩, hx, rfl, rfl⟩ := holes_all hok
  simp only [holesL, List.mem_cons, Prod.mk.injEq, List.not_mem_nil, or_false] at hx
  rcases hx with ⟨rfl, rfl⟩ | ⟨rfl, rfl⟩ | ⟨rfl, rfl⟩ | ⟨rfl, rfl⟩ | ⟨rfl, rfl⟩ | ⟨rfl, rfl⟩ | ⟨rfl, rfl⟩ | ⟨rfl, rfl⟩ | ⟨rfl, rfl⟩ | ⟨rfl, rfl⟩ | ⟨rfl, rfl⟩ | ⟨rfl, rfl⟩ | ⟨rfl, rfl⟩ | ⟨rfl, rfl⟩ | ⟨rfl, rfl⟩
  all_goals first
    | exact absurd hf (by decide)
    | decide
def QL (v : Int) (len : Nat) (W : World) (B : Nat) : Prop := Gd W ∧ ∃ X : Array Value, W.heap[B]? = some (.cells X 5 (0, 0)) ∧ X.size = len ∧ ∀ i, i < len → X[i]? = some (.int .u8 (v / 2 ^ (8 * i) % 256))
theorem back_data (h : Hl) (v : Int) (hv : -9223372036854775808 ≤ v ∧ v ≤ 9223372036854775807) (a : Option Addr) (len cap : Nat) (w : World) (hG : Gd w) (hB : BysO w a len)
    (hin : inOk h.k h.s len = true) (hok : holeOk h.k h.s = true) (hl : (len : Int) = (shR h.k h.s).w) (hf : filledB (shR h.k h.s) = true) (hfit : fitsB (shR h.k h.s) v = true) (hn : nearB (shR h.k h.s) = false) :
    Calls Tryd.prog 6 #[.slice a len cap, hlV h, .int .i64 v] w fun e w' => e = .returned (.bool true) ∧ Below w.heap.size w w' := by
  obtain ⟨ht, hw8⟩ := far_t hok hf
  have h8 : len ≤ 8 := by omega
  have h1 := wid_one hok hf
  obtain ⟨g, off, h0, hc⟩ := hB
  obtain rfl : a = some ⟨g, off, none⟩ := by rcases h0 with h0 | h0; omega; exact h0
  have hnk : decide (h.k ≤ 6) = false := by rw [← near_k hok]; exact hn
  have hxs : ∃ xs : Nat → Nat, ∀ j, j < len → xs j < 256 ∧ w.cell? ⟨g, off + j, none⟩ = some (.int .u8 (xs j)) := by
    refine ⟨fun j => if hj : j < len then (hc j hj).choose.toNat else 0, fun j hj => ?_⟩
    have hx := (hc j hj).choose_spec
    simp only [hj, dite_true]
    generalize (hc j hj).choose = x at *
    refine ⟨by omega, ?_⟩
    rw [hx.2.2, Int.toNat_of_nonneg hx.1]
  obtain ⟨xs, hxs⟩ := hxs
  refine back_low h v (some ⟨g, off, none⟩) len cap w hG h8 (QL v len) (IntKind.i64.wrap ((lowN (bytN v) len : Nat) : Int)) ((lowN (bytN v) len : Nat) : Int) (IntKind.i64.wrap ((lowN xs len : Nat) : Int)) ?_ ?_ ?_ ?_ ?_ ?_ rfl
  · intro W W' B hb hq
    obtain ⟨q1, X, q2, q3⟩ := hq
    exact ⟨q1.keep hb, X, kept_v hb q2, q3⟩
  · exact Lib.hid fun W hb => (fill_low h v hv _ len cap W (hG.keep hb) hin hf ht hfit hn h8).mono fun e w' ⟨B, he, _, hx, hb2⟩ => ⟨B, he, ⟨(hG.keep hb).keep hb2, hx⟩, hb2⟩
  · refine Lib.hid fun W B hq => ?_
    obtain ⟨q1, X, q2, q3, q4⟩ := hq
    refine read_data h (bytN v) B 0 len len W q1 hin hf hn h8 (fun j _ => bytN_lt v j) (fun j hj => ?_)
    rw [Nat.zero_add, Lib.cell_of_heap q2 j, q4 j hj]
    have : ((bytN v j : Nat) : Int) = v / 2 ^ (8 * j) % 256 := by unfold bytN; omega
    rw [this]
  · exact Lib.hid fun W => lowU v len h8 W
  · exact Lib.hid fun W hb => read_data h xs g off len cap W (hG.keep hb) hin hf hn h8 (fun j hj => (hxs j hj).1) (fun j hj => cell_kept hb (hxs j hj).2)
  · exact Lib.hid fun W => by have := near_any h W; rw [hnk] at this; exact this
end Go.Proofs.YtjkhgljlipljdaaDoor
namespace Go.Proofs.YtjkhgljlipljdaaDoor
open Go.RowKit
set_option linter.unusedVariables false
set_option linter.unusedSimpArgs false
def QN (r : Nat) (W : World) (B : Nat) : Prop := Gd W ∧ GI W ∧ W.heap[B]? = some (.cells (w4C r) 117 (0, 0))
theorem w4_cells {W : World} {B r : Nat} (h : W.heap[B]? = some (.cells (w4C r) 117 (0, 0))) :
    W.cell? ⟨B, 0, none⟩ = some (.int .u8 ((r : Int) % 256)) ∧ W.cell? ⟨B, 0 + 1, none⟩ = some (.int .u8 ((r : Int) / 256 % 256)) ∧ W.cell? ⟨B, 0 + 2, none⟩ = some (.int .u8 ((r : Int) / 65536 % 256)) ∧ W.cell? ⟨B, 0 + 3, none⟩ = some (.int .u8 ((r : Int) / 16777216)) :=
  ⟨Lib.cell_of_heap h 0, Lib.cell_of_heap h 1, Lib.cell_of_heap h 2, Lib.cell_of_heap h 3⟩
theorem back_word (h : Hl) (v : Int) (hv : -9223372036854775808 ≤ v ∧ v ≤ 9223372036854775807) (a : Option Addr) (len cap : Nat) (w : World) (hG : Gd w) (hI : GI w) (hB : BysO w a len)
    (hin : inOk h.k h.s len = true) (hok : holeOk h.k h.s = true) (hl : (len : Int) = (shR h.k h.s).w) (hfit : fitsB (shR h.k h.s) v = true) (hn : nearB (shR h.k h.s) = true) :
    Calls Tryd.prog 6 #[.slice a len cap, hlV h, .int .i64 v] w fun e w' => e = .returned (.bool true) ∧ Below w.heap.size w w' := by
  obtain ⟨hbr, h4, ht', hf, hsf⟩ := near_facts hok hn
  obtain rfl : len = 4 := by omega
  obtain ⟨g, off, h0, h1⟩ := hB
  obtain rfl : a = some ⟨g, off, none⟩ := by rcases h0 with h0 | h0; omega; exact h0
  obtain ⟨x0, a0, b0, c0⟩ := h1 0 (by decide)
  obtain ⟨x1, a1, b1, c1⟩ := h1 1 (by decide)
  obtain ⟨x2, a2, b2, c2⟩ := h1 2 (by decide)
  obtain ⟨x3, a3, b3, c3⟩ := h1 3 (by decide)
  rw [Nat.add_zero] at c0
  have hw := w4I_bd a0 b0 a1 b1 a2 b2 a3 b3
  obtain ⟨X, hX⟩ : ∃ X : Nat, w4I x0 x1 x2 x3 = (X : Int) := ⟨(w4I x0 x1 x2 x3).toNat, by omega⟩
  have hXl : X < 4294967296 := by omega
  have hnk : decide (h.k ≤ 6) = true := by rw [← near_k hok]; exact hn
  obtain ⟨d1, d2, d3⟩ := dist_fits hok hn X
  have hrl := setM_lt X (shR h.k h.s).o (v.tdiv (shR h.k h.s).t) hXl
  have hds : distI (shR h.k h.s).o (setM X (shR h.k h.s).o (v.tdiv (shR h.k h.s).t)) = v.tdiv (shR h.k h.s).t := dist_set hbr (hsf v hfit) X hXl
  have hvd := fits_div hfit
  have hback : setM (setM X (shR h.k h.s).o (v.tdiv (shR h.k h.s).t)) (shR h.k h.s).o ((distI (shR h.k h.s).o X * (shR h.k h.s).t).tdiv (shR h.k h.s).t) = X := by
    rw [d2, set_set X _ _ _ hXl]
    exact set_back hbr X hXl
  generalize hr : setM X (shR h.k h.s).o (v.tdiv (shR h.k h.s).t) = r at *
  refine back_near h v (some ⟨g, off, none⟩) 4 cap w hG (by decide) (QN r) v ((lowN (bytN v) 4 : Nat) : Int) (distI (shR h.k h.s).o X * (shR h.k h.s).t) ?_ ?_ ?_ ?_ ?_ ?_ rfl (QN X) ?_ ?_
  · intro W W' B hb hq
    exact ⟨hq.1.keep hb, hq.2.1.keep hb, kept_v hb hq.2.2⟩
  · refine Lib.hid fun W hb => (fill_word h v hv g off cap x0 x1 x2 x3 X W (hG.keep hb) (hI.keep hb) a0 b0 a1 b1 a2 b2 a3 b3 (cell_kept hb c0) (cell_kept hb c1) (cell_kept hb c2) (cell_kept hb c3) hX hok hin hfit hn).mono fun e w' ⟨B, he, hx, hb2⟩ => ⟨B, he, ⟨(hG.keep hb).keep hb2, (hI.keep hb).keep hb2, ?_⟩, hb2⟩
    rw [hr] at hx
    exact hx
  · refine Lib.hid fun W B hq => ?_
    obtain ⟨e0, e1, e2, e3⟩ := w4_cells hq.2.2
    refine read_near h B 0 4 _ _ _ _ W hq.1 (by omega) (by omega) (by omega) (by omega) (by omega) (by omega) (by omega) (by omega) e0 e1 e2 e3 r (w4_back r) hrl v ?_ hin hf hn hbr
    rw [hds, hvd]
    exact IntWalk.i64_in _ (by omega)
  · exact Lib.hid fun W => lowU v 4 (by decide) W
  · exact Lib.hid fun W hb => read_near h g off cap x0 x1 x2 x3 W (hG.keep hb) a0 b0 a1 b1 a2 b2 a3 b3 (cell_kept hb c0) (cell_kept hb c1) (cell_kept hb c2) (cell_kept hb c3) X hX hXl _ (IntWalk.i64_in _ (by omega)) hin hf hn hbr
  · exact Lib.hid fun W => by have := near_any h W; rw [hnk] at this; exact this
  · refine Lib.hid fun W B hb hq => ?_
    obtain ⟨e0, e1, e2, e3⟩ := w4_cells hq.2.2
    refine (fill_word h _ (by omega) B 0 4 _ _ _ _ r W hq.1 hq.2.1 (by omega) (by omega) (by omega) (by omega) (by omega) (by omega) (by omega) (by omega) e0 e1 e2 e3 (w4_back r) hok hin d1 hn).mono fun e w' ⟨B2, he, hx, hb2⟩ => ⟨B2, he, ⟨hq.1.keep hb2, hq.2.1.keep hb2, ?_⟩, hb2⟩
    rw [hback] at hx
    exact hx
  · refine Lib.hid fun W B2 hb hq => ?_
    obtain ⟨e0, e1, e2, e3⟩ := w4_cells hq.2.2
    have f0 : (X : Int) % 256 = x0 := by rw [← hX]; unfold w4I; omega
    have f1 : (X : Int) / 256 % 256 = x1 := by rw [← hX]; unfold w4I; omega
    have f2 : (X : Int) / 65536 % 256 = x2 := by rw [← hX]; unfold w4I; omega
    have f3 : (X : Int) / 16777216 = x3 := by rw [← hX]; unfold w4I; omega
    rw [f0] at e0
    rw [f1] at e1
    rw [f2] at e2
    rw [f3] at e3
    exact equal4 B2 0 4 g off cap x0 x1 x2 x3 W e0 e1 e2 e3 (cell_kept hb c0) (cell_kept hb c1) (cell_kept hb c2) (cell_kept hb c3)
theorem back_law (h : Hl) (v : Int) (hv : -9223372036854775808 ≤ v ∧ v ≤ 9223372036854775807) (a : Option Addr) (len cap : Nat) (w : World) (hG : Gd w) (hI : GI w) (hB : BysO w a len) :
    Calls Tryd.prog 6 #[.slice a len cap, hlV h, .int .i64 v] w fun e w' => e = .returned (.bool true) ∧ Below w.heap.size w w' := by
  cases hin : inOk h.k h.s len with
  | false => exact back_err h v a len cap w hG _ 1 (by decide) (Lib.hid fun W hb => fill_e1 h v a len cap W (hG.keep hb) hin)
  | true =>
    obtain ⟨hok, hl⟩ : holeOk h.k h.s = true ∧ (len : Int) = (shR h.k h.s).w := by simpa [inOk] using hin
    cases hf : filledB (shR h.k h.s) with
    | false => exact back_err h v a len cap w hG _ 180 (by decide) (Lib.hid fun W hb => fill_e2 h v a len cap W (hG.keep hb) hin hf)
    | true =>
      cases hfit : fitsB (shR h.k h.s) v with
      | false => exact back_err h v a len cap w hG _ 181 (by decide) (Lib.hid fun W hb => fill_e3 h v a len cap W (hG.keep hb) hv hin hf (far_t hok hf).1 hfit)
      | true =>
        cases hn : nearB (shR h.k h.s) with
        | false => exact back_data h v hv a len cap w hG hB hin hok hl hf hfit hn
        | true => exact back_word h v hv a len cap w hG hI hB hin hok hl hfit hn
end Go.Proofs.YtjkhgljlipljdaaDoor
