/-
  What each call of Width, isNumber, isAlign, isSectionName, isSymbolName returns, and of the document's Width, align, name. No conditions beyond the sizes that each lemma states.
-/
import Derived.Test.YtopghgoheaaceaaObjA
namespace Go.Proofs.Ytopghgoheaaceaa
open Go.RowKit
set_option linter.unusedVariables false
set_option linter.unusedSimpArgs false

def widthB (k : Int) : Int :=
  if k = 257 ∨ k = 260 then 8 else
  if k = 258 ∨ k = 261 ∨ k = 273 ∨ k = 274 ∨ k = 275 ∨ k = 277 ∨ k = 279 ∨ k = 280 ∨ k = 282 ∨ k = 283 ∨ k = 278 ∨ k = 284 ∨ k = 285 ∨ k = 286 then 4 else
  if k = 259 ∨ k = 262 then 2 else 0
theorem width_ends (k : Int) : widthB k = 0 ∨ widthB k = 2 ∨ widthB k = 4 ∨ widthB k = 8 := by
  unfold widthB; split; exact .inr (.inr (.inr rfl)); split; exact .inr (.inr (.inl rfl)); split; exact .inr (.inl rfl); exact .inl rfl
set_option maxHeartbeats 4000000 in
theorem width_any (k : Int) (w : World) :
    Calls Try.prog 11 #[.int .i64 k] w fun e w' => e = .returned (.int .i64 (widthB k)) ∧ w = w' := by
  have HB : ∀ a : Int, (k == a) = decide (k = a) := fun a => by by_cases h : k = a <;> simp [h]
  by_cases hk : k ∈ ([257, 260, 258, 261, 273, 274, 275, 277, 279, 280, 282, 283, 278, 284, 285, 286, 259, 262] : List Int)
  · simp only [List.mem_cons, List.not_mem_nil, or_false] at hk
    rcases hk with rfl | rfl | rfl | rfl | rfl | rfl | rfl | rfl | rfl | rfl | rfl | rfl | rfl | rfl | rfl | rfl | rfl | rfl
    all_goals
      go_enter Try.func11, Try.ntmps11
      go_wp2
      go_ret
      exact ⟨rfl, rfl⟩
  · simp only [List.mem_cons, List.not_mem_nil, or_false, not_or] at hk
    have hw : widthB k = 0 := by unfold widthB; rw [if_neg (by omega), if_neg (by omega), if_neg (by omega)]
    have HW := Lib.hid hw
    obtain ⟨h1, h2, h3, h4, h5, h6, h7, h8, h9, h10, h11, h12, h13, h14, h15, h16, h17, h18⟩ := hk
    have b1 : (k == 257) = false := by simp [h1]
    have b2 : (k == 260) = false := by simp [h2]
    have b3 : (k == 258) = false := by simp [h3]
    have b4 : (k == 261) = false := by simp [h4]
    have b5 : (k == 273) = false := by simp [h5]
    have b6 : (k == 274) = false := by simp [h6]
    have b7 : (k == 275) = false := by simp [h7]
    have b8 : (k == 277) = false := by simp [h8]
    have b9 : (k == 279) = false := by simp [h9]
    have b10 : (k == 280) = false := by simp [h10]
    have b11 : (k == 282) = false := by simp [h11]
    have b12 : (k == 283) = false := by simp [h12]
    have b13 : (k == 278) = false := by simp [h13]
    have b14 : (k == 284) = false := by simp [h14]
    have b15 : (k == 285) = false := by simp [h15]
    have b16 : (k == 286) = false := by simp [h16]
    have b17 : (k == 259) = false := by simp [h17]
    have b18 : (k == 262) = false := by simp [h18]
    clear h1 h2 h3 h4 h5 h6 h7 h8 h9 h10 h11 h12 h13 h14 h15 h16 h17 h18 HB hw
    go_enter Try.func11, Try.ntmps11
    go_wp2
    go_ret
    exact ⟨ret1 (by rw [HW.out]), rfl⟩
set_option maxHeartbeats 4000000 in
theorem rwidth_any (k : Int) (w : World) :
    Calls Try.prog 12 #[.int .i64 k] w fun e w' => e = .returned (.int .i64 (widthB k)) ∧ w = w' := by
  by_cases hk : 257 ≤ k ∧ k ≤ 286
  · have this : k = 257 ∨ k = 258 ∨ k = 259 ∨ k = 260 ∨ k = 261 ∨ k = 262 ∨ k = 263 ∨ k = 264 ∨ k = 265 ∨ k = 266 ∨ k = 267 ∨ k = 268 ∨ k = 269 ∨ k = 270 ∨ k = 271 ∨ k = 272 ∨ k = 273 ∨ k = 274 ∨ k = 275 ∨ k = 276 ∨ k = 277 ∨ k = 278 ∨ k = 279 ∨ k = 280 ∨ k = 281 ∨ k = 282 ∨ k = 283 ∨ k = 284 ∨ k = 285 ∨ k = 286 := by omega
    clear hk
    rcases this with rfl | rfl | rfl | rfl | rfl | rfl | rfl | rfl | rfl | rfl | rfl | rfl | rfl | rfl | rfl | rfl | rfl | rfl | rfl | rfl | rfl | rfl | rfl | rfl | rfl | rfl | rfl | rfl | rfl | rfl
    all_goals
      go_enter Try.func12, Try.ntmps12
      go_wp2
      go_ret
      exact ⟨rfl, rfl⟩
  · have hw : widthB k = 0 := by unfold widthB; rw [if_neg (by omega), if_neg (by omega), if_neg (by omega)]
    have HW := Lib.hid hw
    have b1 : (k == 257) = false := by simp; omega
    have b2 : (k == 260) = false := by simp; omega
    have b3 : (k == 259) = false := by simp; omega
    have b4 : (k == 262) = false := by simp; omega
    have b5 : (k == 258) = false := by simp; omega
    have b6 : (k == 261) = false := by simp; omega
    rcases (show k < 257 ∨ 286 < k by omega) with h | h
    · have c1 : decide (273 ≤ k) = false := by simp; omega
      have c2 : decide (277 ≤ k) = false := by simp; omega
      have c3 : decide (282 ≤ k) = false := by simp; omega
      clear hk h hw
      go_enter Try.func12, Try.ntmps12
      go_wp2
      go_ret
      exact ⟨ret1 (by rw [HW.out]), rfl⟩
    · have c1 : decide (273 ≤ k) = true := by simp; omega
      have c2 : decide (277 ≤ k) = true := by simp; omega
      have c3 : decide (282 ≤ k) = true := by simp; omega
      have d1 : decide (k ≤ 275) = false := by simp; omega
      have d2 : decide (k ≤ 280) = false := by simp; omega
      have d3 : decide (k ≤ 286) = false := by simp; omega
      clear hk h hw
      go_enter Try.func12, Try.ntmps12
      go_wp2
      go_ret
      exact ⟨ret1 (by rw [HW.out]), rfl⟩
/-- one of so many has that number -/
def numOk (n m : Int) : Bool := decide (0 ≤ n) && decide (n < m)
theorem num_any (n m : Int) (w : World) :
    Calls Try.prog 49 #[.int .i64 n, .int .i64 m] w fun e w' => e = .returned (.bool (numOk n m)) ∧ w = w' := by
  unfold numOk
  by_cases h : 0 ≤ n
  · rw [decide_eq_true h, Bool.true_and]
    go_enter Try.func49, Try.ntmps49
    go_wp2
    go_ret
    exact ⟨rfl, rfl⟩
  · rw [decide_eq_false h, Bool.false_and]
    go_enter Try.func49, Try.ntmps49
    go_wp2
    go_ret
    exact ⟨rfl, rfl⟩
def alignOk (n : Int) : Bool := [1, 2, 4, 8, 16, 32, 64, 128, 256, 512, 1024, 2048, 4096].contains n
theorem and_pow0 : ∀ (a : Fin 65) (b : Fin 64), 64 * a.val + b.val ≠ 0 → 64 * a.val + b.val ≤ 4096 → (((64 * a.val + b.val) &&& (64 * a.val + b.val - 1)) == 0) = alignOk ((64 * a.val + b.val : Nat) : Int) := by decide +kernel
theorem and_pow (n : Nat) (h : n ≠ 0) (h2 : n ≤ 4096) : ((n &&& (n - 1)) == 0) = alignOk (n : Int) := by
  have e := and_pow0 ⟨n / 64, by omega⟩ ⟨n % 64, by omega⟩
  simp only [show 64 * (n / 64) + n % 64 = n by omega] at e
  exact e h h2
theorem ofInt_i64 (a : Nat) (ha : a < 9223372036854775808) : (BitVec.ofInt 64 (a : Int)).toNat = a := by
  rw [BitVec.ofInt_natCast, BitVec.toNat_ofNat]; exact Nat.mod_eq_of_lt (by omega)
theorem i64_and_nat (a b : Nat) (ha : a < 9223372036854775808) (hb : b < 9223372036854775808) : bits .and .i64 (a : Int) (b : Int) = ((a &&& b : Nat) : Int) := by
  have hx : a &&& b < 2 ^ 63 := Nat.and_lt_two_pow _ (by omega)
  show IntKind.i64.wrap ((BitVec.ofInt 64 (a : Int) &&& BitVec.ofInt 64 (b : Int)).toNat : Int) = _
  rw [BitVec.toNat_and, ofInt_i64 a ha, ofInt_i64 b hb, IntKind.wrap_i64]
  omega
theorem align_no {n : Int} (h : n < 1 ∨ 4096 < n) : alignOk n = false := by
  unfold alignOk
  rw [← Bool.not_eq_true]
  simp only [List.contains_eq_mem, List.mem_cons, List.not_mem_nil, or_false, decide_eq_true_eq]
  omega
set_option maxHeartbeats 1000000 in
theorem align_any (n : Int) (w : World) :
    Calls Try.prog 82 #[.int .i64 n] w fun e w' => e = .returned (.bool (alignOk n)) ∧ w = w' := by
  by_cases h1 : 1 ≤ n
  · by_cases h2 : n ≤ 4096
    · obtain ⟨k, rfl⟩ : ∃ k : Nat, n = (k : Int) := ⟨n.toNat, by omega⟩
      have R : (((k &&& (k - 1) : Nat) : Int) == 0) = alignOk (k : Int) := by
        have e := and_pow k (by omega) (by omega)
        rw [← e, Bool.eq_iff_iff]
        simp only [beq_iff_eq]
        omega
      have hb := i64_and_nat k (k - 1) (by omega) (by omega)
      have w9 : IntKind.i64.wrap ((k : Int) - 1) = ((k - 1 : Nat) : Int) := by rw [IntWalk.i64_in _ (by omega)]; omega
      generalize hA : alignOk (k : Int) = A at *
      generalize hX : (k &&& (k - 1)) = X at *
      clear hA hX
      have RH := Lib.hid R
      clear R
      go_enter Try.func82, Try.ntmps82
      go_wp2
      go_ret
      exact ⟨ret1b (by rw [← RH.out]), rfl⟩
    · have RH := Lib.hid (align_no (n := n) (.inr (by omega)))
      go_enter Try.func82, Try.ntmps82
      go_wp2
      go_ret
      exact ⟨ret1b (by rw [RH.out]), rfl⟩
  · have RH := Lib.hid (align_no (n := n) (.inl (by omega)))
    go_enter Try.func82, Try.ntmps82
    go_wp2
    go_ret
    exact ⟨ret1b (by rw [RH.out]), rfl⟩
theorem align_cases (n : Int) : (n = 1 ∨ n = 2 ∨ n = 4 ∨ n = 8 ∨ n = 16 ∨ n = 32 ∨ n = 64 ∨ n = 128 ∨ n = 256 ∨ n = 512 ∨ n = 1024 ∨ n = 2048 ∨ n = 4096) ∨ ((n ≠ 1 ∧ n ≠ 2 ∧ n ≠ 4 ∧ n ≠ 8 ∧ n ≠ 16 ∧ n ≠ 32 ∧ n ≠ 64 ∧ n ≠ 128 ∧ n ≠ 256 ∧ n ≠ 512 ∧ n ≠ 1024 ∧ n ≠ 2048 ∧ n ≠ 4096) ∧ alignOk n = false) := by
  by_cases h : alignOk n = true
  · left; simpa [alignOk] using h
  · right
    refine ⟨?_, by simpa using h⟩
    simp [alignOk] at h
    omega
set_option maxHeartbeats 4000000 in
theorem ralign_any (n : Int) (w : World) :
    Calls Try.prog 70 #[.int .i64 n] w fun e w' => e = .returned (.bool (alignOk n)) ∧ w = w' := by
  rcases align_cases n with h | ⟨h, hA⟩
  · rcases h with rfl | rfl | rfl | rfl | rfl | rfl | rfl | rfl | rfl | rfl | rfl | rfl | rfl
    all_goals
      go_enter Try.func70, Try.ntmps70
      go_wp2
      refine wp_loop_rounds 14 ?_
      iterate 14 (first | (rw [rounds_succ]; go_wp2) | skip)
      go_ret
      exact ⟨rfl, rfl⟩
  · have RH := Lib.hid hA
    obtain ⟨h1, h2, h3, h4, h5, h6, h7, h8, h9, h10, h11, h12, h13⟩ := h
    have b1 : (n == 1) = false := by simp [h1]
    have b2 : (n == 2) = false := by simp [h2]
    have b3 : (n == 4) = false := by simp [h3]
    have b4 : (n == 8) = false := by simp [h4]
    have b5 : (n == 16) = false := by simp [h5]
    have b6 : (n == 32) = false := by simp [h6]
    have b7 : (n == 64) = false := by simp [h7]
    have b8 : (n == 128) = false := by simp [h8]
    have b9 : (n == 256) = false := by simp [h9]
    have b10 : (n == 512) = false := by simp [h10]
    have b11 : (n == 1024) = false := by simp [h11]
    have b12 : (n == 2048) = false := by simp [h12]
    have b13 : (n == 4096) = false := by simp [h13]
    clear h1 h2 h3 h4 h5 h6 h7 h8 h9 h10 h11 h12 h13 hA
    go_enter Try.func70, Try.ntmps70
    go_wp2
    refine wp_loop_rounds 14 ?_
    iterate 14 (rw [rounds_succ]; go_wp2)
    go_ret
    exact ⟨ret1b (by rw [RH.out]), rfl⟩
end Go.Proofs.Ytopghgoheaaceaa
