/-
  What each call of Get and Put returns, for every input, the program's own and the document's; nothing that lay in memory has changed.
-/
import Derived.Test.YtfpaambihjijoaaDoorBitsG
namespace Go.Proofs.YtfpaambihjijoaaDoor
open Go.RowKit BM
theorem pow_mul {k : Nat} (hk : k < 63) : IntKind.u64.wrap (powI (k : Int) * 2) = powI ((k + 1 : Nat) : Int) := by
  have h := powI_succ (k := k)
  have := powI_63 (n := ((k + 1 : Nat) : Int)) (by omega)
  have := powI_pos ((k + 1 : Nat) : Int)
  rw [wrap_u64, h]; omega

set_option maxHeartbeats 400000 in
theorem pow_any (n : Int) (w : World) (h1 : 0 ≤ n) (h2 : n ≤ 63) :
    Calls Tryd.prog 23 #[.int .i64 n] w fun e w' => e = .returned (.int .u64 (powI n)) ∧ w = w' := by
  go_enter Tryd.func23, Tryd.ntmps23
  go_wp2
  go_loop [3, 4] (fun v i => ∃ k : Nat, (k : Int) ≤ n ∧ i = .int .i64 k ∧ v = .int .u64 (powI k)) (fun _ i => (n - intOf i).toNat)
  case atStart => exact ⟨0, h1, rfl, rfl⟩
  case round =>
    obtain ⟨k, hk, rfl, rfl⟩ := hrel
    by_cases hlt : (k : Int) < n
    · have hm := Lib.hid (pow_mul (k := k) (by omega))
      go_wp2
      go_round
      case rel => exact ⟨k + 1, by omega, by go_num, by rw [hm.out]⟩
      case measure => simp [intOf]; omega
    · go_wp2
      go_ret
      exact ⟨ret1 (by rw [show (k : Int) = n by omega]), rfl⟩

theorem put_no (x l n v : Int) (w : World) (h : ¬ (0 ≤ l ∧ l < 32 ∧ 1 ≤ n ∧ n ≤ 32 ∧ l + n ≤ 32)) :
    Calls Tryd.prog 18 #[.int .u32 x, .agg #[.int .i64 l, .int .i64 n], .int .u32 v] w fun e w' => e = .returned (.tuple #[.int .u32 0, .int .i64 10]) ∧ Below w.heap.size w w' := by
  have H := Lib.hid h
  clear h
  go_enter Tryd.func18, Tryd.ntmps18
  go_wp2_with (go_at_call 24; refine (lies_no l n _ H.out).mono ?_; rintro e w1 ⟨rfl, hb⟩)
  go_ret2
  exact ⟨rfl, Below.thn (by repeat (first | exact Below.refl _ _ | apply Below.drew | refine Below.alloc ?_ (by simp) _)) (by simp) hb⟩
end Go.Proofs.YtfpaambihjijoaaDoor
