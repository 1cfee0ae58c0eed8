/-
  The document's small functions on bytes: letter, decimal, hex, long: what each call returns. No conditions.
-/
import Derived.Test.YtjmdcimfmmfinaaDoorLexB
namespace Go.Proofs.YtjmdcimfmmfinaaDoor
open Go.RowKit

def letterI (n : Int) : Bool := (decide (97 ≤ n) && decide (n ≤ 122)) || (decide (65 ≤ n) && decide (n ≤ 90)) || n == 95 || n == 46 || n == 36
theorem letterI_eq : ∀ c : UInt8, letterI (c.toNat : Int) = isL c := all_bytes (by decide +kernel)
set_option maxHeartbeats 1000000 in
theorem rletter_any (c : UInt8) (w : World) :
    Calls Tryd.prog 44 #[.int .u8 (c.toNat : Int)] w fun e w' => e = .returned (.bool (isL c)) ∧ w = w' := by
  rw [← letterI_eq c]
  have h0 : 0 ≤ (c.toNat : Int) := by omega
  have h1 : (c.toNat : Int) < 256 := by have := c.toNat_lt; omega
  generalize (c.toNat : Int) = n at *
  unfold letterI
  go_enter Tryd.func44, Tryd.ntmps44
  go_wp2
  all_goals
    go_ret
    exact ⟨ret1b (by first | (simp_all <;> (intros; omega)) | (rw [Bool.eq_iff_iff]; simp only [Bool.or_eq_true, Bool.and_eq_true, decide_eq_true_eq, beq_iff_eq]; omega)), rfl⟩
def decI (n : Int) : Bool := decide (48 ≤ n) && decide (n ≤ 57)
theorem decI_eq : ∀ c : UInt8, decI (c.toNat : Int) = isD c := all_bytes (by decide +kernel)
set_option maxHeartbeats 1000000 in
theorem rdecimal_any (c : UInt8) (w : World) :
    Calls Tryd.prog 45 #[.int .u8 (c.toNat : Int)] w fun e w' => e = .returned (.bool (isD c)) ∧ w = w' := by
  rw [← decI_eq c]
  have h0 : 0 ≤ (c.toNat : Int) := by omega
  have h1 : (c.toNat : Int) < 256 := by have := c.toNat_lt; omega
  generalize (c.toNat : Int) = n at *
  unfold decI
  go_enter Tryd.func45, Tryd.ntmps45
  go_wp2
  all_goals
    go_ret
    exact ⟨ret1b (by simp_all <;> (intros; omega)), rfl⟩
/-- a digit's value, or -1 -/
def hexJ (c : UInt8) : Int := match hexV c with
  | some d => (d : Int)
  | none => -1
def hexI (n : Int) : Int := if 48 ≤ n ∧ n ≤ 57 then n - 48 else if 97 ≤ n ∧ n ≤ 102 then n - 97 + 10 else if 65 ≤ n ∧ n ≤ 70 then n - 65 + 10 else -1
theorem hexI_eq : ∀ c : UInt8, hexI (c.toNat : Int) = hexJ c := all_bytes (by decide +kernel)
theorem decB_eq (c : UInt8) : isD c = decide (48 ≤ (c.toNat : Int) ∧ (c.toNat : Int) ≤ 57) := by
  rw [← decI_eq c]; unfold decI; rw [Bool.eq_iff_iff]; simp
set_option maxHeartbeats 1000000 in
theorem rhex_any (c : UInt8) (w : World) :
    Calls Tryd.prog 61 #[.int .u8 (c.toNat : Int)] w fun e w' => e = .returned (.int .i64 (hexJ c)) ∧ w = w' := by
  have D := Lib.hid (fun w => rdecimal_any c w)
  rw [← hexI_eq c]
  rw [decB_eq c] at D
  have h0 : 0 ≤ (c.toNat : Int) := by omega
  have h1 : (c.toNat : Int) < 256 := by have := c.toNat_lt; omega
  generalize (c.toNat : Int) = n at *
  go_enter Tryd.func61, Tryd.ntmps61
  go_wp2_with fail
  refine (D.out _).mono ?_
  rintro e w' ⟨rfl, rfl⟩
  clear D
  by_cases hd : 48 ≤ n ∧ n ≤ 57
  · have e1 : decide (48 ≤ n ∧ n ≤ 57) = true := by simp [hd]
    rw [e1]
    have u : IntKind.u8.wrap (n - 48) = n - 48 := by rw [IntKind.wrap_u8]; omega
    have i : IntKind.i64.wrap (n - 48) = n - 48 := by rw [IntWalk.i64_in _ (by omega)]
    go_wp2
    go_ret
    exact ⟨ret1 (by unfold hexI; rw [if_pos hd]), rfl⟩
  · have e1 : decide (48 ≤ n ∧ n ≤ 57) = false := by simp; omega
    rw [e1]
    by_cases ha : 97 ≤ n ∧ n ≤ 102
    · obtain ⟨a1, a2⟩ := ha
      have u : IntKind.u8.wrap (n - 97) = n - 97 := by rw [IntKind.wrap_u8]; omega
      have i : IntKind.i64.wrap (n - 97) = n - 97 := by rw [IntWalk.i64_in _ (by omega)]
      have j : IntKind.i64.wrap (n - 97 + 10) = n - 97 + 10 := by rw [IntWalk.i64_in _ (by omega)]
      go_wp2
      go_ret
      exact ⟨ret1 (by unfold hexI; rw [if_neg hd, if_pos ⟨a1, a2⟩]), rfl⟩
    · by_cases hb : 65 ≤ n ∧ n ≤ 70
      · obtain ⟨a1, a2⟩ := hb
        have u : IntKind.u8.wrap (n - 65) = n - 65 := by rw [IntKind.wrap_u8]; omega
        have i : IntKind.i64.wrap (n - 65) = n - 65 := by rw [IntWalk.i64_in _ (by omega)]
        have j : IntKind.i64.wrap (n - 65 + 10) = n - 65 + 10 := by rw [IntWalk.i64_in _ (by omega)]
        have k : n < 97 := by omega
        go_wp2
        go_ret
        exact ⟨ret1 (by unfold hexI; rw [if_neg hd, if_neg ha, if_pos ⟨a1, a2⟩]), rfl⟩
      · have R := Lib.hid (show hexI n = -1 by unfold hexI; rw [if_neg hd, if_neg ha, if_neg hb])
        go_wp2
        all_goals first
          | (go_ret; exact ⟨ret1 R.out.symm, rfl⟩)
          | omega
/-- the byte of a short form, or -1 -/
def longJ (c : UInt8) : Int := match byteOf c with
  | some d => (d.toNat : Int)
  | none => -1
def longI (n : Int) : Int := if n = 48 then 0 else if n = 116 then 9 else if n = 110 then 10 else if n = 114 then 13 else if n = 34 then n else if n = 92 then n else -1
theorem longI_eq : ∀ c : UInt8, longI (c.toNat : Int) = longJ c := all_bytes (by decide +kernel)
set_option maxHeartbeats 1000000 in
theorem rlong_any (c : UInt8) (w : World) :
    Calls Tryd.prog 60 #[.int .u8 (c.toNat : Int)] w fun e w' => e = .returned (.int .i64 (longJ c)) ∧ w = w' := by
  rw [← longI_eq c]
  have h0 : 0 ≤ (c.toNat : Int) := by omega
  have h1 : (c.toNat : Int) < 256 := by have := c.toNat_lt; omega
  generalize (c.toNat : Int) = n at *
  have i : IntKind.i64.wrap n = n := by rw [IntWalk.i64_in _ (by omega)]
  go_enter Tryd.func60, Tryd.ntmps60
  go_wp2
  all_goals
    go_ret
    exact ⟨ret1 (by unfold longI; simp_all <;> omega), rfl⟩
end Go.Proofs.YtjmdcimfmmfinaaDoor
