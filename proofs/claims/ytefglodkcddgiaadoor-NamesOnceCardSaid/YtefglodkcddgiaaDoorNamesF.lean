/-
  What each call of RegName (the program's and the document's) and of regText returns. No conditions.
-/
import Derived.Test.YtefglodkcddgiaaDoorNamesE
namespace Go.Proofs.YtefglodkcddgiaaDoor
open Go.RowKit

def strB (o : Option (List UInt8)) : ByteArray := match o with
  | some l => ⟨l.toArray⟩
  | none => ⟨#[]⟩
def strOut (o : Option (List UInt8)) : Ending := .returned (.tuple #[.string (strB o), .int .i64 (errO o)])
theorem strOut_no {o : Option (List UInt8)} (h : o = none) : strOut o = .returned (.tuple #[.string ⟨#[]⟩, .int .i64 30]) := by subst h; rfl
theorem strOut_yes {o : Option (List UInt8)} {l : List UInt8} (h : o = some l) : strOut o = .returned (.tuple #[.string ⟨l.toArray⟩, .int .i64 0]) := by subst h; rfl
theorem strOut_b {o : Option (List UInt8)} {l : List UInt8} {b : ByteArray} (h : o = some l) (hb : b.data.toList = l) : strOut o = .returned (.tuple #[.string b, .int .i64 0]) := by
  rw [strOut_yes h, show (⟨l.toArray⟩ : ByteArray) = b from bytes_eq hb.symm]
theorem app_data (a b : ByteArray) : (a ++ b).data.toList = a.data.toList ++ b.data.toList := by simp

theorem regText_lo {n : Int} {x p : Bool} (h : n < 0 ∨ 31 < n) : regText n x p = none := by
  unfold regText; rw [if_pos (by omega)]
theorem regText_sp {n : Int} {x : Bool} (h : n ≠ 31) : regText n x true = none := by
  unfold regText; rw [if_pos (by simp [h])]
theorem regText_num {n : Nat} {x : Bool} (h : n < 31) : regText (n : Int) x false = some ((if x = true then 120 else 119) :: dd n) := by
  unfold regText
  rw [if_neg (by simp; omega), if_neg (by simp), if_neg (show ¬ (n : Int) = 31 by omega)]
  rfl

set_option maxHeartbeats 1000000 in
theorem regName_out (n : Int) (x p : Bool) (w : World) (h : n < 0 ∨ 31 < n) :
    Calls Tryd.prog 11 #[.agg #[.int .i64 n, .bool x, .bool p]] w fun e w' => e = strOut (regText n x p) ∧ Below w.heap.size w w' := by
  rw [strOut_no (regText_lo h)]
  rcases h with h | h
  all_goals
    go_enter Tryd.func11, Tryd.ntmps11
    go_wp2
    go_ret2
    exact ⟨rfl, (Below.refl _ _).alloc (Nat.le_refl _) _⟩
set_option maxHeartbeats 1000000 in
theorem regName_sp (n : Int) (x : Bool) (w : World) (h1 : 0 ≤ n) (h2 : n < 31) :
    Calls Tryd.prog 11 #[.agg #[.int .i64 n, .bool x, .bool true]] w fun e w' => e = strOut (regText n x true) ∧ Below w.heap.size w w' := by
  rw [strOut_no (regText_sp (by omega))]
  have h3 : (n != 31) = true := by rw [bne_iff_ne]; omega
  go_enter Tryd.func11, Tryd.ntmps11
  go_wp2
  go_ret2
  exact ⟨rfl, (Below.refl _ _).alloc (Nat.le_refl _) _⟩
set_option maxHeartbeats 1000000 in
theorem regName_31 (x p : Bool) (w : World) :
    Calls Tryd.prog 11 #[.agg #[.int .i64 31, .bool x, .bool p]] w fun e w' => e = strOut (regText 31 x p) ∧ Below w.heap.size w w' := by
  cases x <;> cases p
  all_goals
    go_enter Tryd.func11, Tryd.ntmps11
    go_wp2
    go_ret2
    exact ⟨by first | rfl | (refine congrArg (fun b => Ending.returned (.tuple #[.string b, .int .i64 0])) (bytes_eq (by decide +kernel))), (Below.refl _ _).alloc (Nat.le_refl _) _⟩
set_option maxHeartbeats 1000000 in
theorem regName_num (n : Nat) (x : Bool) (w : World) (h2 : n < 31) :
    Calls Tryd.prog 11 #[.agg #[.int .i64 (n : Int), .bool x, .bool false]] w fun e w' => e = strOut (regText n x false) ∧ Below w.heap.size w w' := by
  have T := regText_num (x := x) h2
  have F := Tryd.strconv_Itoa_small n (by omega)
  rw [dec_dd (by omega)] at F
  have F := Lib.hid F
  have i1 : (n : Int) < 31 := by omega
  have i2 : ((n : Int) == 31) = false := by rw [beq_eq_false_iff_ne]; omega
  have hl : ¬ 9223372036854775807 < 1 + (dd n).length := by have := (dd_len n).2; omega
  clear h2
  cases x
  all_goals
    have HT := Lib.hid T
    clear T
    go_enter Tryd.func11, Tryd.ntmps11
    go_wp2_with fail
    refine (F.out _).mono ?_
    rintro e w1 ⟨rfl, rfl⟩
    go_wp2_with fail
    go_ret2
    exact ⟨(strOut_b HT.out (by rw [app_data]; rfl)).symm, (Below.refl _ _).alloc (Nat.le_refl _) _⟩
theorem regName_any (n : Int) (x p : Bool) (w : World) :
    Calls Tryd.prog 11 #[.agg #[.int .i64 n, .bool x, .bool p]] w fun e w' => e = strOut (regText n x p) ∧ Below w.heap.size w w' := by
  by_cases h : n < 0 ∨ 31 < n
  · exact regName_out n x p w h
  by_cases h1 : n = 31
  · subst h1; exact regName_31 x p w
  cases p
  · obtain ⟨m, rfl⟩ : ∃ m : Nat, n = (m : Int) := ⟨n.toNat, by omega⟩
    exact regName_num m x w (by omega)
  · exact regName_sp n x w (by omega) (by omega)

set_option maxHeartbeats 1000000 in
theorem rregName_out (n : Int) (x p : Bool) (w : World) (h : n < 0 ∨ 31 < n) :
    Calls Tryd.prog 12 #[.agg #[.int .i64 n, .bool x, .bool p]] w fun e w' => e = strOut (regText n x p) ∧ Below w.heap.size w w' := by
  rw [strOut_no (regText_lo h)]
  rcases h with h | h
  all_goals
    go_enter Tryd.func12, Tryd.ntmps12
    go_wp2
    go_ret2
    exact ⟨rfl, (Below.refl _ _).alloc (Nat.le_refl _) _⟩
set_option maxHeartbeats 1000000 in
theorem rregName_sp (n : Int) (x : Bool) (w : World) (h1 : 0 ≤ n) (h2 : n < 31) :
    Calls Tryd.prog 12 #[.agg #[.int .i64 n, .bool x, .bool true]] w fun e w' => e = strOut (regText n x true) ∧ Below w.heap.size w w' := by
  rw [strOut_no (regText_sp (by omega))]
  have h3 : (n != 31) = true := by rw [bne_iff_ne]; omega
  go_enter Tryd.func12, Tryd.ntmps12
  go_wp2
  go_ret2
  exact ⟨rfl, (Below.refl _ _).alloc (Nat.le_refl _) _⟩
set_option maxHeartbeats 1000000 in
theorem rregName_31 (x p : Bool) (w : World) :
    Calls Tryd.prog 12 #[.agg #[.int .i64 31, .bool x, .bool p]] w fun e w' => e = strOut (regText 31 x p) ∧ Below w.heap.size w w' := by
  cases x <;> cases p
  all_goals
    go_enter Tryd.func12, Tryd.ntmps12
    go_wp2
    go_ret2
    exact ⟨by first | rfl | (refine congrArg (fun b => Ending.returned (.tuple #[.string b, .int .i64 0])) (bytes_eq (by decide +kernel))), (Below.refl _ _).alloc (Nat.le_refl _) _⟩
set_option maxHeartbeats 1000000 in
theorem rregName_num (n : Nat) (x : Bool) (w : World) (h2 : n < 31) :
    Calls Tryd.prog 12 #[.agg #[.int .i64 (n : Int), .bool x, .bool false]] w fun e w' => e = strOut (regText n x false) ∧ Below w.heap.size w w' := by
  have T := regText_num (x := x) h2
  have F := Lib.hid (fun w => text_any n w (show n < 100 by omega))
  have i1 : (n : Int) < 31 := by omega
  have i2 : ((n : Int) == 31) = false := by rw [beq_eq_false_iff_ne]; omega
  have hl : ¬ 9223372036854775807 < 1 + (dd n).length := by have := (dd_len n).2; omega
  clear h2
  cases x
  all_goals
    have HT := Lib.hid T
    clear T
    go_enter Tryd.func12, Tryd.ntmps12
    go_wp2_with fail
    refine (F.out _).mono ?_
    rintro e w1 ⟨q, rfl, rfl⟩
    go_wp2_with fail
    go_ret2
    exact ⟨(strOut_b HT.out (by rw [app_data]; rfl)).symm, below_drewN ((Below.refl _ _).alloc (Nat.le_refl _) _) _⟩
theorem rregName_any (n : Int) (x p : Bool) (w : World) :
    Calls Tryd.prog 12 #[.agg #[.int .i64 n, .bool x, .bool p]] w fun e w' => e = strOut (regText n x p) ∧ Below w.heap.size w w' := by
  by_cases h : n < 0 ∨ 31 < n
  · exact rregName_out n x p w h
  by_cases h1 : n = 31
  · subst h1; exact rregName_31 x p w
  cases p
  · obtain ⟨m, rfl⟩ : ∃ m : Nat, n = (m : Int) := ⟨n.toNat, by omega⟩
    exact rregName_num m x w (by omega)
  · exact rregName_sp n x w (by omega) (by omega)

/-! ### the register of a number -/
theorem and32 : ∀ m : Nat, m < 128 → bits .and .i64 (m : Int) 32 = if regX m = true then 32 else 0 := by decide +kernel
theorem and64 : ∀ m : Nat, m < 128 → bits .and .i64 (m : Int) 64 = if regP m = true then 64 else 0 := by decide +kernel
theorem regTextOf_out {n : Int} (h : n < 0 ∨ 128 ≤ n) : rlook regT n = none := rlook_no fun r hr => by have := regT_lt r hr; omega
set_option maxHeartbeats 1000000 in
theorem regText_out (n : Int) (w : World) (h : n < 0 ∨ 128 ≤ n) :
    Calls Tryd.prog 33 #[.int .i64 n] w fun e w' => e = strOut (rlook regT n) ∧ Below w.heap.size w w' := by
  rw [strOut_no (regTextOf_out h)]
  rcases h with h | h
  all_goals
    go_enter Tryd.func33, Tryd.ntmps33
    go_wp2
    go_ret2
    exact ⟨rfl, Below.refl _ _⟩
set_option maxHeartbeats 1000000 in
theorem regText_at (n a b : Int) (x p : Bool) (o : Option (List UInt8)) (w : World) (h0 : 0 ≤ n) (h1 : n < 128) (a1 : bits .and .i64 n 32 = a) (a2 : bits .and .i64 n 64 = b) (ha : (a != 0) = x) (hb : (b != 0) = p)
    (R : Hid (Calls Tryd.prog 11 #[.agg #[.int .i64 (n % 32), .bool x, .bool p]] w fun e w' => e = .returned (.tuple #[.string (strB o), .int .i64 (errO o)]) ∧ Below w.heap.size w w')) :
    Calls Tryd.prog 33 #[.int .i64 n] w fun e w' => e = .returned (.tuple #[.string (strB o), .int .i64 (errO o)]) ∧ Below w.heap.size w w' := by
  go_enter Tryd.func33, Tryd.ntmps33
  go_wp2_with fail
  refine R.out.mono ?_
  rintro e w1 ⟨rfl, hb⟩
  go_wp2_with fail
  go_ret2
  exact ⟨rfl, hb⟩
theorem bit_ne (b : Bool) (k : Int) (hk : k ≠ 0) : ((if b = true then k else 0) != 0) = b := by cases b <;> simp [hk]
theorem regText_in (m : Nat) (w : World) (h : m < 128) :
    Calls Tryd.prog 33 #[.int .i64 (m : Int)] w fun e w' => e = strOut (rlook regT (m : Int)) ∧ Below w.heap.size w w' := by
  rw [reg_rlook m h]
  exact regText_at (m : Int) _ _ (regX m) (regP m) _ w (by omega) (by omega) (and32 m h) (and64 m h) (bit_ne _ _ (by decide)) (bit_ne _ _ (by decide)) (Lib.hid (regName_any (regN m) (regX m) (regP m) w))
theorem regText_any (n : Int) (w : World) :
    Calls Tryd.prog 33 #[.int .i64 n] w fun e w' => e = strOut (rlook regT n) ∧ Below w.heap.size w w' := by
  by_cases h : n < 0 ∨ 128 ≤ n
  · exact regText_out n w h
  · obtain ⟨m, rfl⟩ : ∃ m : Nat, n = (m : Int) := ⟨n.toNat, by omega⟩
    exact regText_in m w (by omega)
end Go.Proofs.YtefglodkcddgiaaDoor
