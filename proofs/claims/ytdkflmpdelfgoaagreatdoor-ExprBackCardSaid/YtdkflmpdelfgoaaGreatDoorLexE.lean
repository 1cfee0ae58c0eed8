/-
  What each call of the library's inner ParseUint returns at base 10, 16, 2 and 64 bits, and at base 16 and 8 bits. No conditions beyond those that each lemma states.
-/
import Derived.Test.YtdkflmpdelfgoaaGreatDoorLexD
import Derived.Test.YtdkflmpdelfgoaaGreatDoorLexMath
import Derived.Lib.ConvBytes
import Derived.Lib.Walk
import Derived.Laws.Strings3
import Derived.Laws.Closers25
import Derived.Laws.Closers25b
import Derived.BigCall
import Derived.BigGuard
namespace Go.Proofs.YtdkflmpdelfgoaaGreatDoor
open Go.RowKit

/-- digits of a base read one by one: none: no digit; some none: over M -/
def pF (base M : Nat) : Nat → Bs → Option (Option Nat)
  | a, [] => some (some a)
  | a, c :: r => match hexV c with
    | some d => if d < base then (if M < a * base + d then some none else pF base M (a * base + d) r) else none
    | none => none
def pS (base M : Nat) (s : Bs) : Option (Option Nat) := if s = [] then none else pF base M 0 s
/-- the two values that come back -/
def pVal (M : Int) : Option (Option Nat) → Value
  | some (some v) => .tuple #[.int .u64 (v : Int), .nilIface]
  | some none => .tuple #[.int .u64 M, .iface 152 (.int .i64 1)]
  | none => .tuple #[.int .u64 0, .iface 152 (.int .i64 2)]
theorem low_bits : ∀ c : UInt8, bits .or .u8 (c.toNat : Int) 32 = ((c ||| 32).toNat : Int) := all_bytes (by decide +kernel)
theorem pF_none {base M a : Nat} {c : UInt8} {r : Bs} (h : ∀ d, hexV c = some d → ¬ d < base) : pF base M a (c :: r) = none := by
  rw [pF]
  cases hx : hexV c with
  | none => rfl
  | some d => simp only; rw [if_neg (h d hx)]
theorem pF_far {base M a d : Nat} {c : UInt8} {r : Bs} (h : hexV c = some d) (hd : d < base) (hm : M < a * base + d) : pF base M a (c :: r) = some none := by
  rw [pF, h]; simp only; rw [if_pos hd, if_pos hm]
theorem pF_step {base M a d : Nat} {c : UInt8} {r : Bs} (h : hexV c = some d) (hd : d < base) (hm : ¬ M < a * base + d) : pF base M a (c :: r) = pF base M (a * base + d) r := by
  rw [pF, h]; simp only; rw [if_pos hd, if_neg hm]

theorem low_ways : ∀ c : UInt8, (48 ≤ c.toNat ∧ c.toNat ≤ 57 ∧ hexV c = some (c.toNat - 48)) ∨ (65 ≤ c.toNat ∧ c.toNat ≠ 95 ∧ 97 ≤ (c ||| 32).toNat ∧ (c ||| 32).toNat ≤ 102 ∧ hexV c = some ((c ||| 32).toNat - 87)) ∨ (65 ≤ c.toNat ∧ c.toNat ≠ 95 ∧ 103 ≤ (c ||| 32).toNat ∧ (c ||| 32).toNat ≤ 122 ∧ hexV c = none) ∨ ((c.toNat < 48 ∨ 57 < c.toNat) ∧ ((c ||| 32).toNat < 97 ∨ 122 < (c ||| 32).toNat) ∧ hexV c = none) := all_bytes (by decide +kernel)
set_option maxRecDepth 100000 in
theorem iparse_empty (base bits : Int) (w : World) :
    Calls Tryz.prog 96 #[.string ⟨#[]⟩, .int .i64 base, .int .i64 bits] w fun e w' => e = .returned (pVal 0 none) ∧ w = w' := by
  go_enter Tryz.func96, Tryz.ntmps96
  go_wp2
  go_ret2
  exact ⟨rfl, rfl⟩
end Go.Proofs.YtdkflmpdelfgoaaGreatDoor
