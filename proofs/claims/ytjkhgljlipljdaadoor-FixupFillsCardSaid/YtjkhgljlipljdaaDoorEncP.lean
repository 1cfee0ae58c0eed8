/-
  What each call of Word and Bytes of the program returns, for every input; nothing that lay in memory has changed.
-/
import Derived.Test.YtjkhgljlipljdaaDoorEncO
import Derived.Laws.BitsAllLaws
namespace Go.Proofs.YtjkhgljlipljdaaDoor
open Go.RowKit
set_option linter.unusedVariables false
set_option linter.unusedSimpArgs false

def w4I (x0 x1 x2 x3 : Int) : Int := x0 + 256 * x1 + 65536 * x2 + 16777216 * x3
theorem or_add4 {i y x : Nat} (hy : y < 2 ^ i) : y ||| x * 2 ^ i = y + x * 2 ^ i := by
  have := Nat.two_pow_add_eq_or_of_lt hy x
  rw [Nat.or_comm, Nat.mul_comm, ← this]; omega
theorem w4_val {x0 x1 x2 x3 : Int} (a0 : 0 ≤ x0) (b0 : x0 < 256) (a1 : 0 ≤ x1) (b1 : x1 < 256) (a2 : 0 ≤ x2) (b2 : x2 < 256) (a3 : 0 ≤ x3) (b3 : x3 < 256) :
    bits .or .u32 (bits .or .u32 (bits .or .u32 (bits .or .u32 0 x0) (x1 * 256)) (x2 * 65536)) (x3 * 16777216) = w4I x0 x1 x2 x3 := by
  obtain ⟨X0, rfl⟩ := Int.eq_ofNat_of_zero_le a0
  obtain ⟨X1, rfl⟩ := Int.eq_ofNat_of_zero_le a1
  obtain ⟨X2, rfl⟩ := Int.eq_ofNat_of_zero_le a2
  obtain ⟨X3, rfl⟩ := Int.eq_ofNat_of_zero_le a3
  have e0 : bits .or .u32 0 (X0 : Int) = (X0 : Int) := by
    rw [u32_or _ _ (by omega) (by omega) (by omega) (by omega)]; simp
  have o1 := or_add4 (i := 8) (y := X0) (x := X1) (by omega)
  have o2 := or_add4 (i := 16) (y := X0 + X1 * 2 ^ 8) (x := X2) (by omega)
  have o3 := or_add4 (i := 24) (y := X0 + X1 * 2 ^ 8 + X2 * 2 ^ 16) (x := X3) (by omega)
  simp only [Nat.reducePow] at o1 o2 o3
  have step : ∀ (y z : Nat) (Z : Int), y < 4294967296 → z < 4294967296 → Z = (z : Int) → y ||| z = y + z → bits .or .u32 (y : Int) Z = ((y + z : Nat) : Int) := by
    intro y z Z hy hz hZ ho
    rw [hZ, u32_or_nat y z hy hz, ho]
  have f1 := step X0 (X1 * 256) ((X1 : Int) * 256) (by omega) (by omega) (by omega) o1
  have f2 := step (X0 + X1 * 256) (X2 * 65536) ((X2 : Int) * 65536) (by omega) (by omega) (by omega) o2
  have f3 := step (X0 + X1 * 256 + X2 * 65536) (X3 * 16777216) ((X3 : Int) * 16777216) (by omega) (by omega) (by omega) o3
  rw [e0, f1, f2, f3]
  unfold w4I
  omega
theorem w4_bytes (x : Int) : w4I (x % 256) (x / 256 % 256) (x / 65536 % 256) (x / 16777216) = x := by unfold w4I; omega

set_option maxHeartbeats 400000 in
theorem bytes4_any (x : Int) (w : World) (b1 : 0 ≤ x) (b2 : x < 4294967296) :
    Calls Tryd.prog 50 #[.int .u32 x] w fun e w' => e = .returned (.slice (some ⟨w.heap.size, 0, none⟩) 4 4) ∧
      w.alloc (.cells #[.int .u8 (x % 256), .int .u8 (x / 256 % 256), .int .u8 (x / 65536 % 256), .int .u8 (x / 16777216)] 117) = w' := by
  go_enter Tryd.func50, Tryd.ntmps50
  go_wp2
  refine wp_loop_rounds 5 ?_
  iterate 5 (rw [rounds_succ]; go_wp2)
  go_ret
  exact ⟨rfl, rfl⟩

set_option maxHeartbeats 400000 in
theorem word4_any (x0 x1 x2 x3 : Int) (b off cap : Nat) (w : World) (a0 : 0 ≤ x0) (b0 : x0 < 256) (a1 : 0 ≤ x1) (b1 : x1 < 256) (a2 : 0 ≤ x2) (b2 : x2 < 256) (a3 : 0 ≤ x3) (b3 : x3 < 256)
    (c0 : w.cell? ⟨b, off, none⟩ = some (.int .u8 x0)) (c1 : w.cell? ⟨b, off + 1, none⟩ = some (.int .u8 x1)) (c2 : w.cell? ⟨b, off + 2, none⟩ = some (.int .u8 x2)) (c3 : w.cell? ⟨b, off + 3, none⟩ = some (.int .u8 x3)) :
    Calls Tryd.prog 48 #[.slice (some ⟨b, off, none⟩) 4 cap] w fun e w' => e = .returned (.tuple #[.int .u32 (w4I x0 x1 x2 x3), .int .i64 0]) ∧ w = w' := by
  have ha : ∀ w, Sem.run Tryd.prog (Instr.arrayAt 117 (.slice (some ⟨b, off, none⟩) 4 cap)) w = Result.ok (.pointer (some ⟨b, off, none⟩)) w := fun w => by
    simp [Instr.arrayAt, go_sem]
  have i0 : ∀ w, (Instr.index 117 (.agg #[.int .u8 x0, .int .u8 x1, .int .u8 x2, .int .u8 x3]) (.int .i64 0)).run Tryd.prog w = .ok (.int .u8 x0) w := fun _ => by kernel_rfl
  have i1 : ∀ w, (Instr.index 117 (.agg #[.int .u8 x0, .int .u8 x1, .int .u8 x2, .int .u8 x3]) (.int .i64 1)).run Tryd.prog w = .ok (.int .u8 x1) w := fun _ => by kernel_rfl
  have i2 : ∀ w, (Instr.index 117 (.agg #[.int .u8 x0, .int .u8 x1, .int .u8 x2, .int .u8 x3]) (.int .i64 2)).run Tryd.prog w = .ok (.int .u8 x2) w := fun _ => by kernel_rfl
  have i3 : ∀ w, (Instr.index 117 (.agg #[.int .u8 x0, .int .u8 x1, .int .u8 x2, .int .u8 x3]) (.int .i64 3)).run Tryd.prog w = .ok (.int .u8 x3) w := fun _ => by kernel_rfl
  go_enter Tryd.func48, Tryd.ntmps48
  go_wp2
  refine wp_loop_rounds 5 ?_
  iterate 5 (rw [rounds_succ]; go_wp2)
  go_ret2
  exact ⟨congrArg (fun z => Ending.returned (.tuple #[.int .u32 z, .int .i64 0])) (w4_val a0 b0 a1 b1 a2 b2 a3 b3), rfl⟩
set_option maxHeartbeats 400000 in
theorem word4_no (a : Option Addr) (len cap : Nat) (w : World) (h : len ≠ 4) :
    Calls Tryd.prog 48 #[.slice a len cap] w fun e w' => e = .returned (.tuple #[.int .u32 0, .int .i64 3]) ∧ w = w' := by
  have h' : ((len : Int) != 4) = true := by rw [bne_iff_ne]; omega
  clear h
  go_enter Tryd.func48, Tryd.ntmps48
  go_wp2
  go_ret2
  exact ⟨rfl, rfl⟩
end Go.Proofs.YtjkhgljlipljdaaDoor
