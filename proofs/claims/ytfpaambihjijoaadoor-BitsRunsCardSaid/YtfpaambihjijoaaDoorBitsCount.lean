/-
  What OnesCount64 and TrailingZeros64 of math/bits return, for every number; nothing in memory changes. TrailingZeros64: where its table lies as its text lays it.
-/
import Derived.Test.YtfpaambihjijoaaDoorBitsA
import Derived.Test.YtfpaambihjijoaaDoorBitsPop
import Derived.Lib.SmallJoins
import Derived.Lib.TrailingZeros
import Derived.Shelf.Spec.TrailingZeros
namespace Go.Proofs.YtfpaambihjijoaaDoor
open Go.RowKit BM
set_option linter.unusedVariables false


def o1 (x : Int) : Int := IntKind.u64.wrap (bits .and .u64 (x / 2) 6148914691236517205 + bits .and .u64 x 6148914691236517205)
def o2 (x : Int) : Int := IntKind.u64.wrap (bits .and .u64 (x / 4) 3689348814741910323 + bits .and .u64 x 3689348814741910323)
def o3 (x : Int) : Int := bits .and .u64 (IntKind.u64.wrap (x / 16 + x)) 1085102592571150095
def o4 (x : Int) : Int := IntKind.u64.wrap (x + x / 256)
def o5 (x : Int) : Int := IntKind.u64.wrap (x + x / 65536)
def o6 (x : Int) : Int := IntKind.u64.wrap (x + x / 4294967296)

theorem and_nat (a b : Nat) (ha : a < 18446744073709551616) (hb : b < 18446744073709551616) : bits .and .u64 (a : Int) (b : Int) = ((a &&& b : Nat) : Int) := u64_and_nat a b ha hb
theorem m85 : laneMask 85 8 = 6148914691236517205 := by decide
theorem m51 : laneMask 51 8 = 3689348814741910323 := by decide
theorem m15 : laneMask 15 8 = 1085102592571150095 := by decide
theorem o1_val (x : Nat) (h : x < 18446744073709551616) (hl : lanes f1 8 x < 18446744073709551616) : o1 (x : Int) = ((lanes f1 8 x : Nat) : Int) := by
  unfold o1
  have e : (x : Int) / 2 = ((x / 2 : Nat) : Int) := by omega
  have a := and_nat (x / 2) 6148914691236517205 (by omega) (by omega)
  have b := and_nat x 6148914691236517205 h (by omega)
  have s := step1 8 x
  rw [m85] at s
  have c : ((6148914691236517205 : Nat) : Int) = 6148914691236517205 := by omega
  rw [c] at a b
  rw [e, a, b, wrap_u64]
  rw [← s] at hl ⊢
  omega
theorem o2_val (x : Nat) (h : x < 18446744073709551616) (hl : lanes f2 8 x < 18446744073709551616) : o2 (x : Int) = ((lanes f2 8 x : Nat) : Int) := by
  unfold o2
  have e : (x : Int) / 4 = ((x / 4 : Nat) : Int) := by omega
  have a := and_nat (x / 4) 3689348814741910323 (by omega) (by omega)
  have b := and_nat x 3689348814741910323 h (by omega)
  have s := step2 8 x
  rw [m51] at s
  have c : ((3689348814741910323 : Nat) : Int) = 3689348814741910323 := by omega
  rw [c] at a b
  rw [e, a, b, wrap_u64]
  rw [← s] at hl ⊢
  omega
theorem lanes_lt (f : Nat → Nat) (hf : ∀ b, b < 256 → f b < 256) (k x : Nat) : lanes f k x < 256 ^ k := by
  induction k generalizing x with
  | zero => simp [lanes]
  | succ k ih =>
    have := ih (x / 256)
    have h := hf (x % 256) (Nat.mod_lt _ (by decide))
    simp only [lanes, Nat.pow_succ]; omega
theorem lanes_lt8 (f : Nat → Nat) (hf : ∀ b, b < 256 → f b < 256) (x : Nat) : lanes f 8 x < 18446744073709551616 := by
  have := lanes_lt f hf 8 x
  have e : 256 ^ 8 = 18446744073709551616 := by decide
  rw [e] at this; exact this
theorem lanes_le (f : Nat → Nat) (B : Nat) (hf : ∀ b, b < 256 → f b ≤ B) (x : Nat) : lanes f 8 x ≤ B * 72340172838076673 := by
  have g : ∀ k y, lanes f k y ≤ B * laneMask 1 k := by
    intro k
    induction k with
    | zero => intro y; simp [lanes]
    | succ k ih =>
      intro y
      have h1 := ih (y / 256)
      have h2 := hf (y % 256) (Nat.mod_lt _ (by decide))
      simp only [lanes, laneMask, Nat.mul_add, Nat.mul_one]
      rw [Nat.mul_left_comm]; omega
  have e : laneMask 1 8 = 72340172838076673 := by decide
  rw [← e]; exact g 8 x
theorem o3_val (z : Nat) : o3 ((lanes f2 8 z : Nat) : Int) = ((lanes (fun b => f3 (f2 b)) 8 z : Nat) : Int) := by
  have s := step3 8 z
  have hb := lanes_le f2 102 (fun b h => (f2_lt b h).1) z
  rw [← s, m15]
  unfold o3
  generalize lanes f2 8 z = y at *
  have e : (y : Int) / 16 + (y : Int) = ((y / 16 + y : Nat) : Int) := by omega
  have ew : IntKind.u64.wrap ((y / 16 + y : Nat) : Int) = ((y / 16 + y : Nat) : Int) := by rw [wrap_u64]; omega
  have a := and_nat (y / 16 + y) 1085102592571150095 (by omega) (by omega)
  have c : ((1085102592571150095 : Nat) : Int) = 1085102592571150095 := by omega
  rw [c] at a
  rw [e, ew, a]
theorem and127 (a : Nat) (h : a < 9223372036854775808) : bits .and .i64 (a : Int) 127 = ((a % 128 : Nat) : Int) := by
  have h1 : (BitVec.ofInt 64 (a : Int)).toNat = a := by
    rw [BitVec.ofInt_natCast, BitVec.toNat_ofNat]; exact Nat.mod_eq_of_lt (by omega)
  have h2 : (BitVec.ofInt 64 (127 : Int)).toNat = 127 := by decide
  show IntKind.i64.wrap ((BitVec.ofInt 64 (a : Int) &&& BitVec.ofInt 64 127).toNat : Int) = _
  have e : a &&& 127 = a % 128 := Nat.and_two_pow_sub_one_eq_mod a 7
  rw [BitVec.toNat_and, h1, h2, e]
  exact IntWalk.i64_in _ (by omega)
theorem count_val (x : Int) (h0 : 0 ≤ x) (h : x < 18446744073709551616) : bits .and .i64 (wrap64 (o6 (o5 (o4 (o3 (o2 (o1 x))))))) 127 = ((pop 64 x.toNat : Nat) : Int) := by
  obtain ⟨X, rfl⟩ := Int.eq_ofNat_of_zero_le h0
  rw [Int.toNat_natCast, o1_val X (by omega) (lanes_lt8 f1 f1_lt X), o2_val _ (lanes_lt8 f1 f1_lt X) (lanes_lt8 f2 (fun b hb => by have := f2_lt b hb; omega) _), o3_val, lanes_comp f1 (fun b => f3 (f2 b)) f1_lt, lanes_congr _ (pop 8) f123]
  obtain ⟨s1, s2⟩ := step456 X
  rw [← s1]
  unfold o4 o5 o6
  generalize lanes (pop 8) 8 X = R at *
  clear s1
  have e4 : IntKind.u64.wrap ((R : Int) + (R : Int) / 256) = ((R + R / 256 : Nat) : Int) := by rw [wrap_u64]; omega
  rw [e4]
  have b4 : R + R / 256 ≤ 600000000000000000 := by omega
  generalize R + R / 256 = S at *
  have e5 : IntKind.u64.wrap ((S : Int) + (S : Int) / 65536) = ((S + S / 65536 : Nat) : Int) := by rw [wrap_u64]; omega
  rw [e5]
  have b5 : S + S / 65536 ≤ 700000000000000000 := by omega
  generalize S + S / 65536 = T at *
  have e6 : IntKind.u64.wrap ((T : Int) + (T : Int) / 4294967296) = ((T + T / 4294967296 : Nat) : Int) := by rw [wrap_u64]; omega
  rw [e6]
  have e7 : wrap64 ((T + T / 4294967296 : Nat) : Int) = ((T + T / 4294967296 : Nat) : Int) := IntWalk.wrap64_in _ (by omega)
  rw [e7, and127 _ (by omega)]

set_option maxHeartbeats 400000 in
theorem count_any (x : Int) (w : World) (h0 : 0 ≤ x) (h : x < 18446744073709551616) :
    Calls Tryd.prog 17 #[.int .u64 x] w fun e w' => e = .returned (.int .i64 ((pop 64 x.toNat : Nat) : Int)) ∧ w = w' := by
  go_enter Tryd.func17, Tryd.ntmps17
  go_wp2
  go_ret
  exact ⟨ret1 (count_val x h0 h), rfl⟩

/-- the table that math/bits reads -/
def Tab (w : World) : Prop := ∀ j, j < 64 → w.cell? ⟨0, j, none⟩ = some (.int .u8 ((Lib.deBruijn64tab.getD j 0 : Nat) : Int))
theorem Tab.keep {B : Nat} {w w' : World} (h : Tab w) (hB : 0 < B) (hb : Below B w w') : Tab w' := fun j hj => by
  rw [hb.cell (p := ⟨0, j, none⟩) hB]; exact h j hj

set_option maxHeartbeats 400000 in
theorem tz_core (x k idx : Nat) (w : World) (hx0 : ((x : Int) == 0) = false)
    (key : IntKind.u64.wrap (bits BinOp.and IntKind.u64 (x : Int) (IntKind.u64.wrap (-(x : Int))) * 285870213051353865) / 288230376151711744 = (idx : Int))
    (hi : idx < 64) (hk : k < 64) (hcell : w.cell? ⟨0, idx, none⟩ = some (.int .u8 k)) :
    Calls Tryd.prog 30 #[.int .u64 x] w fun e w' => e = .returned (.int .i64 k) ∧ w = w' := by
  go_enter Tryd.func30, Tryd.ntmps30
  go_wp2_with (simp only [key])
  go_ret
  exact ⟨rfl, rfl⟩
set_option maxHeartbeats 400000 in
theorem tz_zero (w : World) : Calls Tryd.prog 30 #[.int .u64 0] w fun e w' => e = .returned (.int .i64 64) ∧ w = w' := by
  go_enter Tryd.func30, Tryd.ntmps30
  go_wp2
  go_ret
  exact ⟨rfl, rfl⟩
theorem tz_any (x : Int) (w : World) (b1 : 0 ≤ x) (b2 : x < 18446744073709551616) (hT : Tab w) :
    Calls Tryd.prog 30 #[.int .u64 x] w fun e w' => e = .returned (.int .i64 ((Lib.ctz 64 x.toNat : Nat) : Int)) ∧ w = w' := by
  obtain ⟨X, rfl⟩ := Int.eq_ofNat_of_zero_le b1
  rw [Int.toNat_natCast]
  by_cases hx0 : X = 0
  · subst hx0; exact tz_zero w
  · obtain ⟨hlow, hk⟩ := Lib.lowest_bit 64 X hx0 (by have e : 2 ^ 64 = 18446744073709551616 := by decide
                                                     omega)
    obtain ⟨hi, htab⟩ := Lib.deBruijn64_at _ hk
    have hcell := hT _ hi
    rw [htab] at hcell
    exact tz_core X _ _ w (by simp; omega) (tz64_key X _ (by omega) hx0 hlow) hi hk hcell

end Go.Proofs.YtfpaambihjijoaaDoor
