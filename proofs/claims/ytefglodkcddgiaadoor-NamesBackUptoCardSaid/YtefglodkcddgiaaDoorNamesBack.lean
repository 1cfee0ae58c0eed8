/-
  For every kind, every number and every text NamesBack returns true: the number of a name is its number, and the name of a number is the name, but for such as have two. Condition: the arguments hold together at most 1048576 values and letters.
-/
import Derived.Test.YtefglodkcddgiaaDoorNamesDoor
import Derived.Test.YtefglodkcddgiaaDoorTie
import Derived.Lib.SmallJoins
import Derived.ChangeMaps5
import Derived.SevenTiedAt
namespace Go.Proofs.YtefglodkcddgiaaDoor.namesBack
open Go.ChangeShapes Go.WideShapes Go.ChangeAt Go.RowKit
set_option linter.unusedVariables false

theorem nameOf_len {k n : Int} {x : List UInt8} (h : nameOf k n = some x) : x.length ≤ 40 := by
  unfold nameOf at h
  cases e : rlook (tbl k) n with
  | some y =>
    rw [e] at h
    injection h with h
    subst h
    obtain ⟨m, _, hm⟩ := rlook_mem e
    have := (allT_own _ (tbl_mem k) _ hm).2.2.2.2
    simp only at this
    omega
  | none =>
    rw [e] at h
    simp only at h
    split at h
    · injection h with h
      subst h
      exact sysText_len
    · cases h
/-- how the second half ends -/
def Fin (k : Int) (s D : ByteArray) : Prop := D = s ∨ (k = 2 ∧ (s = ⟨#[104, 115]⟩ ∨ s = ⟨#[108, 111]⟩)) ∨ k = 6
theorem fin_of {k : Int} {s : ByteArray} {m : Nat} (h : numOf k s.data.toList = some m) : ∃ x, nameOf k (m : Int) = some x ∧ Fin k s ⟨x.toArray⟩ := by
  obtain ⟨x, h1, h2⟩ := back_num h
  refine ⟨x, h1, ?_⟩
  rcases h2 with h2 | ⟨h2, h3 | h3⟩ | h2
  · exact .inl (bytes_eq h2)
  · exact .inr (.inl ⟨h2, .inl (bytes_eq h3)⟩)
  · exact .inr (.inl ⟨h2, .inr (bytes_eq h3)⟩)
  · exact .inr (.inr h2)
set_option maxRecDepth 100000 in
set_option maxHeartbeats 2000000 in
theorem way_yes_none (k n m : Int) (A D s : ByteArray) (w : World) (hG : Good w)
    (NA : Hid (∀ w : World, Good w → Calls Tryd.prog 15 #[.int .i64 k, .int .i64 n] w fun e w' => e = .returned (.tuple #[.string A, .int .i64 0]) ∧ Below w.heap.size w w'))
    (NU : Hid (∀ w : World, Good w → Calls Tryd.prog 13 #[.int .i64 k, .string A] w fun e w' => e = .returned (.tuple #[.int .i64 n, .int .i64 0]) ∧ Below w.heap.size w w'))
    (WO : Hid (∀ w : World, Good w → Calls Tryd.prog 17 #[.string A] w fun e w' => e = .returned (.bool true) ∧ Below w.heap.size w w'))
    (MU : Hid (∀ w : World, Good w → Calls Tryd.prog 13 #[.int .i64 k, .string s] w fun e w' => e = .returned (.tuple #[.int .i64 0, .int .i64 30]) ∧ Below w.heap.size w w')) :
    Calls Tryd.prog 6 #[.int .i64 k, .string s, .int .i64 n] w fun e w' => e = .returned (.bool true) ∧ Below w.heap.size w w' := by
  have LV := Lib.hid (live_any w hG)
  have HG := Lib.hid hG
  clear hG
  go_enter Tryd.func6, Tryd.ntmps6
  go_wp2_with fail
  refine LV.out.mono ?_
  rintro e w1 ⟨rfl, hb1⟩
  have B1 := Lib.hid hb1
  have G1 := Lib.hid (HG.out.thn hb1)
  clear hb1
  go_wp2_with fail
  refine (NA.out _ G1.out).mono ?_
  rintro e w2 ⟨rfl, hb2⟩
  have B2 := Lib.hid (Below.thn B1.out B1.out.size hb2)
  have G2 := Lib.hid (G1.out.thn hb2)
  clear hb2
  go_wp2_with fail
  refine (NU.out _ G2.out).mono ?_
  rintro e w3 ⟨rfl, hb3⟩
  have B3 := Lib.hid (Below.thn B2.out B2.out.size hb3)
  have G3 := Lib.hid (G2.out.thn hb3)
  clear hb3
  go_wp2_with fail
  refine (WO.out _ G3.out).mono ?_
  rintro e w4 ⟨rfl, hb4⟩
  have B4 := Lib.hid (Below.thn B3.out B3.out.size hb4)
  have G4 := Lib.hid (G3.out.thn hb4)
  clear hb4
  go_wp2_with fail
  refine (MU.out _ G4.out).mono ?_
  rintro e w5 ⟨rfl, hb5⟩
  have B5 := Lib.hid (Below.thn B4.out B4.out.size hb5)
  have G5 := Lib.hid (G4.out.thn hb5)
  clear hb5
  go_wp2_with fail
  go_ret
  exact ⟨rfl, B5.out⟩
set_option maxRecDepth 100000 in
set_option maxHeartbeats 2000000 in
theorem way_yes_same (k n m : Int) (A D s : ByteArray) (w : World) (hG : Good w)
    (NA : Hid (∀ w : World, Good w → Calls Tryd.prog 15 #[.int .i64 k, .int .i64 n] w fun e w' => e = .returned (.tuple #[.string A, .int .i64 0]) ∧ Below w.heap.size w w'))
    (NU : Hid (∀ w : World, Good w → Calls Tryd.prog 13 #[.int .i64 k, .string A] w fun e w' => e = .returned (.tuple #[.int .i64 n, .int .i64 0]) ∧ Below w.heap.size w w'))
    (WO : Hid (∀ w : World, Good w → Calls Tryd.prog 17 #[.string A] w fun e w' => e = .returned (.bool true) ∧ Below w.heap.size w w'))
    (MU : Hid (∀ w : World, Good w → Calls Tryd.prog 13 #[.int .i64 k, .string s] w fun e w' => e = .returned (.tuple #[.int .i64 m, .int .i64 0]) ∧ Below w.heap.size w w'))
    (MA : Hid (∀ w : World, Good w → Calls Tryd.prog 15 #[.int .i64 k, .int .i64 m] w fun e w' => e = .returned (.tuple #[.string s, .int .i64 0]) ∧ Below w.heap.size w w')) :
    Calls Tryd.prog 6 #[.int .i64 k, .string s, .int .i64 n] w fun e w' => e = .returned (.bool true) ∧ Below w.heap.size w w' := by
  have LV := Lib.hid (live_any w hG)
  have HG := Lib.hid hG
  clear hG
  go_enter Tryd.func6, Tryd.ntmps6
  go_wp2_with fail
  refine LV.out.mono ?_
  rintro e w1 ⟨rfl, hb1⟩
  have B1 := Lib.hid hb1
  have G1 := Lib.hid (HG.out.thn hb1)
  clear hb1
  go_wp2_with fail
  refine (NA.out _ G1.out).mono ?_
  rintro e w2 ⟨rfl, hb2⟩
  have B2 := Lib.hid (Below.thn B1.out B1.out.size hb2)
  have G2 := Lib.hid (G1.out.thn hb2)
  clear hb2
  go_wp2_with fail
  refine (NU.out _ G2.out).mono ?_
  rintro e w3 ⟨rfl, hb3⟩
  have B3 := Lib.hid (Below.thn B2.out B2.out.size hb3)
  have G3 := Lib.hid (G2.out.thn hb3)
  clear hb3
  go_wp2_with fail
  refine (WO.out _ G3.out).mono ?_
  rintro e w4 ⟨rfl, hb4⟩
  have B4 := Lib.hid (Below.thn B3.out B3.out.size hb4)
  have G4 := Lib.hid (G3.out.thn hb4)
  clear hb4
  go_wp2_with fail
  refine (MU.out _ G4.out).mono ?_
  rintro e w5 ⟨rfl, hb5⟩
  have B5 := Lib.hid (Below.thn B4.out B4.out.size hb5)
  have G5 := Lib.hid (G4.out.thn hb5)
  clear hb5
  go_wp2_with fail
  refine (MA.out _ G5.out).mono ?_
  rintro e w6 ⟨rfl, hb6⟩
  have B6 := Lib.hid (Below.thn B5.out B5.out.size hb6)
  clear hb6
  go_wp2_with fail
  all_goals go_ret
  all_goals exact ⟨by simp, B6.out⟩
set_option maxRecDepth 100000 in
set_option maxHeartbeats 2000000 in
theorem way_yes_hs (n m : Int) (A D s : ByteArray) (w : World) (hG : Good w)
    (NA : Hid (∀ w : World, Good w → Calls Tryd.prog 15 #[.int .i64 2, .int .i64 n] w fun e w' => e = .returned (.tuple #[.string A, .int .i64 0]) ∧ Below w.heap.size w w'))
    (NU : Hid (∀ w : World, Good w → Calls Tryd.prog 13 #[.int .i64 2, .string A] w fun e w' => e = .returned (.tuple #[.int .i64 n, .int .i64 0]) ∧ Below w.heap.size w w'))
    (WO : Hid (∀ w : World, Good w → Calls Tryd.prog 17 #[.string A] w fun e w' => e = .returned (.bool true) ∧ Below w.heap.size w w'))
    (MU : Hid (∀ w : World, Good w → Calls Tryd.prog 13 #[.int .i64 2, .string ⟨#[104, 115]⟩] w fun e w' => e = .returned (.tuple #[.int .i64 m, .int .i64 0]) ∧ Below w.heap.size w w'))
    (MA : Hid (∀ w : World, Good w → Calls Tryd.prog 15 #[.int .i64 2, .int .i64 m] w fun e w' => e = .returned (.tuple #[.string D, .int .i64 0]) ∧ Below w.heap.size w w')) :
    Calls Tryd.prog 6 #[.int .i64 2, .string ⟨#[104, 115]⟩, .int .i64 n] w fun e w' => e = .returned (.bool true) ∧ Below w.heap.size w w' := by
  have LV := Lib.hid (live_any w hG)
  have HG := Lib.hid hG
  clear hG
  go_enter Tryd.func6, Tryd.ntmps6
  go_wp2_with fail
  refine LV.out.mono ?_
  rintro e w1 ⟨rfl, hb1⟩
  have B1 := Lib.hid hb1
  have G1 := Lib.hid (HG.out.thn hb1)
  clear hb1
  go_wp2_with fail
  refine (NA.out _ G1.out).mono ?_
  rintro e w2 ⟨rfl, hb2⟩
  have B2 := Lib.hid (Below.thn B1.out B1.out.size hb2)
  have G2 := Lib.hid (G1.out.thn hb2)
  clear hb2
  go_wp2_with fail
  refine (NU.out _ G2.out).mono ?_
  rintro e w3 ⟨rfl, hb3⟩
  have B3 := Lib.hid (Below.thn B2.out B2.out.size hb3)
  have G3 := Lib.hid (G2.out.thn hb3)
  clear hb3
  go_wp2_with fail
  refine (WO.out _ G3.out).mono ?_
  rintro e w4 ⟨rfl, hb4⟩
  have B4 := Lib.hid (Below.thn B3.out B3.out.size hb4)
  have G4 := Lib.hid (G3.out.thn hb4)
  clear hb4
  go_wp2_with fail
  refine (MU.out _ G4.out).mono ?_
  rintro e w5 ⟨rfl, hb5⟩
  have B5 := Lib.hid (Below.thn B4.out B4.out.size hb5)
  have G5 := Lib.hid (G4.out.thn hb5)
  clear hb5
  go_wp2_with fail
  refine (MA.out _ G5.out).mono ?_
  rintro e w6 ⟨rfl, hb6⟩
  have B6 := Lib.hid (Below.thn B5.out B5.out.size hb6)
  clear hb6
  go_wp2_with fail
  all_goals go_ret
  all_goals exact ⟨by simp, B6.out⟩
set_option maxRecDepth 100000 in
set_option maxHeartbeats 2000000 in
theorem way_yes_lo (n m : Int) (A D s : ByteArray) (w : World) (hG : Good w)
    (NA : Hid (∀ w : World, Good w → Calls Tryd.prog 15 #[.int .i64 2, .int .i64 n] w fun e w' => e = .returned (.tuple #[.string A, .int .i64 0]) ∧ Below w.heap.size w w'))
    (NU : Hid (∀ w : World, Good w → Calls Tryd.prog 13 #[.int .i64 2, .string A] w fun e w' => e = .returned (.tuple #[.int .i64 n, .int .i64 0]) ∧ Below w.heap.size w w'))
    (WO : Hid (∀ w : World, Good w → Calls Tryd.prog 17 #[.string A] w fun e w' => e = .returned (.bool true) ∧ Below w.heap.size w w'))
    (MU : Hid (∀ w : World, Good w → Calls Tryd.prog 13 #[.int .i64 2, .string ⟨#[108, 111]⟩] w fun e w' => e = .returned (.tuple #[.int .i64 m, .int .i64 0]) ∧ Below w.heap.size w w'))
    (MA : Hid (∀ w : World, Good w → Calls Tryd.prog 15 #[.int .i64 2, .int .i64 m] w fun e w' => e = .returned (.tuple #[.string D, .int .i64 0]) ∧ Below w.heap.size w w')) :
    Calls Tryd.prog 6 #[.int .i64 2, .string ⟨#[108, 111]⟩, .int .i64 n] w fun e w' => e = .returned (.bool true) ∧ Below w.heap.size w w' := by
  have LV := Lib.hid (live_any w hG)
  have HG := Lib.hid hG
  clear hG
  go_enter Tryd.func6, Tryd.ntmps6
  go_wp2_with fail
  refine LV.out.mono ?_
  rintro e w1 ⟨rfl, hb1⟩
  have B1 := Lib.hid hb1
  have G1 := Lib.hid (HG.out.thn hb1)
  clear hb1
  go_wp2_with fail
  refine (NA.out _ G1.out).mono ?_
  rintro e w2 ⟨rfl, hb2⟩
  have B2 := Lib.hid (Below.thn B1.out B1.out.size hb2)
  have G2 := Lib.hid (G1.out.thn hb2)
  clear hb2
  go_wp2_with fail
  refine (NU.out _ G2.out).mono ?_
  rintro e w3 ⟨rfl, hb3⟩
  have B3 := Lib.hid (Below.thn B2.out B2.out.size hb3)
  have G3 := Lib.hid (G2.out.thn hb3)
  clear hb3
  go_wp2_with fail
  refine (WO.out _ G3.out).mono ?_
  rintro e w4 ⟨rfl, hb4⟩
  have B4 := Lib.hid (Below.thn B3.out B3.out.size hb4)
  have G4 := Lib.hid (G3.out.thn hb4)
  clear hb4
  go_wp2_with fail
  refine (MU.out _ G4.out).mono ?_
  rintro e w5 ⟨rfl, hb5⟩
  have B5 := Lib.hid (Below.thn B4.out B4.out.size hb5)
  have G5 := Lib.hid (G4.out.thn hb5)
  clear hb5
  go_wp2_with fail
  refine (MA.out _ G5.out).mono ?_
  rintro e w6 ⟨rfl, hb6⟩
  have B6 := Lib.hid (Below.thn B5.out B5.out.size hb6)
  clear hb6
  go_wp2_with fail
  all_goals go_ret
  all_goals exact ⟨by simp, B6.out⟩
set_option maxRecDepth 100000 in
set_option maxHeartbeats 2000000 in
theorem way_yes_six (n m : Int) (A D s : ByteArray) (w : World) (hG : Good w)
    (NA : Hid (∀ w : World, Good w → Calls Tryd.prog 15 #[.int .i64 6, .int .i64 n] w fun e w' => e = .returned (.tuple #[.string A, .int .i64 0]) ∧ Below w.heap.size w w'))
    (NU : Hid (∀ w : World, Good w → Calls Tryd.prog 13 #[.int .i64 6, .string A] w fun e w' => e = .returned (.tuple #[.int .i64 n, .int .i64 0]) ∧ Below w.heap.size w w'))
    (WO : Hid (∀ w : World, Good w → Calls Tryd.prog 17 #[.string A] w fun e w' => e = .returned (.bool true) ∧ Below w.heap.size w w'))
    (MU : Hid (∀ w : World, Good w → Calls Tryd.prog 13 #[.int .i64 6, .string s] w fun e w' => e = .returned (.tuple #[.int .i64 m, .int .i64 0]) ∧ Below w.heap.size w w'))
    (MA : Hid (∀ w : World, Good w → Calls Tryd.prog 15 #[.int .i64 6, .int .i64 m] w fun e w' => e = .returned (.tuple #[.string D, .int .i64 0]) ∧ Below w.heap.size w w')) :
    Calls Tryd.prog 6 #[.int .i64 6, .string s, .int .i64 n] w fun e w' => e = .returned (.bool true) ∧ Below w.heap.size w w' := by
  have LV := Lib.hid (live_any w hG)
  have HG := Lib.hid hG
  clear hG
  go_enter Tryd.func6, Tryd.ntmps6
  go_wp2_with fail
  refine LV.out.mono ?_
  rintro e w1 ⟨rfl, hb1⟩
  have B1 := Lib.hid hb1
  have G1 := Lib.hid (HG.out.thn hb1)
  clear hb1
  go_wp2_with fail
  refine (NA.out _ G1.out).mono ?_
  rintro e w2 ⟨rfl, hb2⟩
  have B2 := Lib.hid (Below.thn B1.out B1.out.size hb2)
  have G2 := Lib.hid (G1.out.thn hb2)
  clear hb2
  go_wp2_with fail
  refine (NU.out _ G2.out).mono ?_
  rintro e w3 ⟨rfl, hb3⟩
  have B3 := Lib.hid (Below.thn B2.out B2.out.size hb3)
  have G3 := Lib.hid (G2.out.thn hb3)
  clear hb3
  go_wp2_with fail
  refine (WO.out _ G3.out).mono ?_
  rintro e w4 ⟨rfl, hb4⟩
  have B4 := Lib.hid (Below.thn B3.out B3.out.size hb4)
  have G4 := Lib.hid (G3.out.thn hb4)
  clear hb4
  go_wp2_with fail
  refine (MU.out _ G4.out).mono ?_
  rintro e w5 ⟨rfl, hb5⟩
  have B5 := Lib.hid (Below.thn B4.out B4.out.size hb5)
  have G5 := Lib.hid (G4.out.thn hb5)
  clear hb5
  go_wp2_with fail
  refine (MA.out _ G5.out).mono ?_
  rintro e w6 ⟨rfl, hb6⟩
  have B6 := Lib.hid (Below.thn B5.out B5.out.size hb6)
  clear hb6
  go_wp2_with fail
  all_goals go_ret
  all_goals exact ⟨by simp, B6.out⟩
set_option maxRecDepth 100000 in
set_option maxHeartbeats 2000000 in
theorem way_no_none (k n m : Int) (A D s : ByteArray) (w : World) (hG : Good w)
    (NA : Hid (∀ w : World, Good w → Calls Tryd.prog 15 #[.int .i64 k, .int .i64 n] w fun e w' => e = .returned (.tuple #[.string A, .int .i64 30]) ∧ Below w.heap.size w w'))
    (MU : Hid (∀ w : World, Good w → Calls Tryd.prog 13 #[.int .i64 k, .string s] w fun e w' => e = .returned (.tuple #[.int .i64 0, .int .i64 30]) ∧ Below w.heap.size w w')) :
    Calls Tryd.prog 6 #[.int .i64 k, .string s, .int .i64 n] w fun e w' => e = .returned (.bool true) ∧ Below w.heap.size w w' := by
  have LV := Lib.hid (live_any w hG)
  have HG := Lib.hid hG
  clear hG
  go_enter Tryd.func6, Tryd.ntmps6
  go_wp2_with fail
  refine LV.out.mono ?_
  rintro e w1 ⟨rfl, hb1⟩
  have B1 := Lib.hid hb1
  have G1 := Lib.hid (HG.out.thn hb1)
  clear hb1
  go_wp2_with fail
  refine (NA.out _ G1.out).mono ?_
  rintro e w4 ⟨rfl, hb4⟩
  have B4 := Lib.hid (Below.thn B1.out B1.out.size hb4)
  have G4 := Lib.hid (G1.out.thn hb4)
  clear hb4
  go_wp2_with fail
  refine (MU.out _ G4.out).mono ?_
  rintro e w5 ⟨rfl, hb5⟩
  have B5 := Lib.hid (Below.thn B4.out B4.out.size hb5)
  have G5 := Lib.hid (G4.out.thn hb5)
  clear hb5
  go_wp2_with fail
  go_ret
  exact ⟨rfl, B5.out⟩
set_option maxRecDepth 100000 in
set_option maxHeartbeats 2000000 in
theorem way_no_same (k n m : Int) (A D s : ByteArray) (w : World) (hG : Good w)
    (NA : Hid (∀ w : World, Good w → Calls Tryd.prog 15 #[.int .i64 k, .int .i64 n] w fun e w' => e = .returned (.tuple #[.string A, .int .i64 30]) ∧ Below w.heap.size w w'))
    (MU : Hid (∀ w : World, Good w → Calls Tryd.prog 13 #[.int .i64 k, .string s] w fun e w' => e = .returned (.tuple #[.int .i64 m, .int .i64 0]) ∧ Below w.heap.size w w'))
    (MA : Hid (∀ w : World, Good w → Calls Tryd.prog 15 #[.int .i64 k, .int .i64 m] w fun e w' => e = .returned (.tuple #[.string s, .int .i64 0]) ∧ Below w.heap.size w w')) :
    Calls Tryd.prog 6 #[.int .i64 k, .string s, .int .i64 n] w fun e w' => e = .returned (.bool true) ∧ Below w.heap.size w w' := by
  have LV := Lib.hid (live_any w hG)
  have HG := Lib.hid hG
  clear hG
  go_enter Tryd.func6, Tryd.ntmps6
  go_wp2_with fail
  refine LV.out.mono ?_
  rintro e w1 ⟨rfl, hb1⟩
  have B1 := Lib.hid hb1
  have G1 := Lib.hid (HG.out.thn hb1)
  clear hb1
  go_wp2_with fail
  refine (NA.out _ G1.out).mono ?_
  rintro e w4 ⟨rfl, hb4⟩
  have B4 := Lib.hid (Below.thn B1.out B1.out.size hb4)
  have G4 := Lib.hid (G1.out.thn hb4)
  clear hb4
  go_wp2_with fail
  refine (MU.out _ G4.out).mono ?_
  rintro e w5 ⟨rfl, hb5⟩
  have B5 := Lib.hid (Below.thn B4.out B4.out.size hb5)
  have G5 := Lib.hid (G4.out.thn hb5)
  clear hb5
  go_wp2_with fail
  refine (MA.out _ G5.out).mono ?_
  rintro e w6 ⟨rfl, hb6⟩
  have B6 := Lib.hid (Below.thn B5.out B5.out.size hb6)
  clear hb6
  go_wp2_with fail
  all_goals go_ret
  all_goals exact ⟨by simp, B6.out⟩
set_option maxRecDepth 100000 in
set_option maxHeartbeats 2000000 in
theorem way_no_hs (n m : Int) (A D s : ByteArray) (w : World) (hG : Good w)
    (NA : Hid (∀ w : World, Good w → Calls Tryd.prog 15 #[.int .i64 2, .int .i64 n] w fun e w' => e = .returned (.tuple #[.string A, .int .i64 30]) ∧ Below w.heap.size w w'))
    (MU : Hid (∀ w : World, Good w → Calls Tryd.prog 13 #[.int .i64 2, .string ⟨#[104, 115]⟩] w fun e w' => e = .returned (.tuple #[.int .i64 m, .int .i64 0]) ∧ Below w.heap.size w w'))
    (MA : Hid (∀ w : World, Good w → Calls Tryd.prog 15 #[.int .i64 2, .int .i64 m] w fun e w' => e = .returned (.tuple #[.string D, .int .i64 0]) ∧ Below w.heap.size w w')) :
    Calls Tryd.prog 6 #[.int .i64 2, .string ⟨#[104, 115]⟩, .int .i64 n] w fun e w' => e = .returned (.bool true) ∧ Below w.heap.size w w' := by
  have LV := Lib.hid (live_any w hG)
  have HG := Lib.hid hG
  clear hG
  go_enter Tryd.func6, Tryd.ntmps6
  go_wp2_with fail
  refine LV.out.mono ?_
  rintro e w1 ⟨rfl, hb1⟩
  have B1 := Lib.hid hb1
  have G1 := Lib.hid (HG.out.thn hb1)
  clear hb1
  go_wp2_with fail
  refine (NA.out _ G1.out).mono ?_
  rintro e w4 ⟨rfl, hb4⟩
  have B4 := Lib.hid (Below.thn B1.out B1.out.size hb4)
  have G4 := Lib.hid (G1.out.thn hb4)
  clear hb4
  go_wp2_with fail
  refine (MU.out _ G4.out).mono ?_
  rintro e w5 ⟨rfl, hb5⟩
  have B5 := Lib.hid (Below.thn B4.out B4.out.size hb5)
  have G5 := Lib.hid (G4.out.thn hb5)
  clear hb5
  go_wp2_with fail
  refine (MA.out _ G5.out).mono ?_
  rintro e w6 ⟨rfl, hb6⟩
  have B6 := Lib.hid (Below.thn B5.out B5.out.size hb6)
  clear hb6
  go_wp2_with fail
  all_goals go_ret
  all_goals exact ⟨by simp, B6.out⟩
set_option maxRecDepth 100000 in
set_option maxHeartbeats 2000000 in
theorem way_no_lo (n m : Int) (A D s : ByteArray) (w : World) (hG : Good w)
    (NA : Hid (∀ w : World, Good w → Calls Tryd.prog 15 #[.int .i64 2, .int .i64 n] w fun e w' => e = .returned (.tuple #[.string A, .int .i64 30]) ∧ Below w.heap.size w w'))
    (MU : Hid (∀ w : World, Good w → Calls Tryd.prog 13 #[.int .i64 2, .string ⟨#[108, 111]⟩] w fun e w' => e = .returned (.tuple #[.int .i64 m, .int .i64 0]) ∧ Below w.heap.size w w'))
    (MA : Hid (∀ w : World, Good w → Calls Tryd.prog 15 #[.int .i64 2, .int .i64 m] w fun e w' => e = .returned (.tuple #[.string D, .int .i64 0]) ∧ Below w.heap.size w w')) :
    Calls Tryd.prog 6 #[.int .i64 2, .string ⟨#[108, 111]⟩, .int .i64 n] w fun e w' => e = .returned (.bool true) ∧ Below w.heap.size w w' := by
  have LV := Lib.hid (live_any w hG)
  have HG := Lib.hid hG
  clear hG
  go_enter Tryd.func6, Tryd.ntmps6
  go_wp2_with fail
  refine LV.out.mono ?_
  rintro e w1 ⟨rfl, hb1⟩
  have B1 := Lib.hid hb1
  have G1 := Lib.hid (HG.out.thn hb1)
  clear hb1
  go_wp2_with fail
  refine (NA.out _ G1.out).mono ?_
  rintro e w4 ⟨rfl, hb4⟩
  have B4 := Lib.hid (Below.thn B1.out B1.out.size hb4)
  have G4 := Lib.hid (G1.out.thn hb4)
  clear hb4
  go_wp2_with fail
  refine (MU.out _ G4.out).mono ?_
  rintro e w5 ⟨rfl, hb5⟩
  have B5 := Lib.hid (Below.thn B4.out B4.out.size hb5)
  have G5 := Lib.hid (G4.out.thn hb5)
  clear hb5
  go_wp2_with fail
  refine (MA.out _ G5.out).mono ?_
  rintro e w6 ⟨rfl, hb6⟩
  have B6 := Lib.hid (Below.thn B5.out B5.out.size hb6)
  clear hb6
  go_wp2_with fail
  all_goals go_ret
  all_goals exact ⟨by simp, B6.out⟩
set_option maxRecDepth 100000 in
set_option maxHeartbeats 2000000 in
theorem way_no_six (n m : Int) (A D s : ByteArray) (w : World) (hG : Good w)
    (NA : Hid (∀ w : World, Good w → Calls Tryd.prog 15 #[.int .i64 6, .int .i64 n] w fun e w' => e = .returned (.tuple #[.string A, .int .i64 30]) ∧ Below w.heap.size w w'))
    (MU : Hid (∀ w : World, Good w → Calls Tryd.prog 13 #[.int .i64 6, .string s] w fun e w' => e = .returned (.tuple #[.int .i64 m, .int .i64 0]) ∧ Below w.heap.size w w'))
    (MA : Hid (∀ w : World, Good w → Calls Tryd.prog 15 #[.int .i64 6, .int .i64 m] w fun e w' => e = .returned (.tuple #[.string D, .int .i64 0]) ∧ Below w.heap.size w w')) :
    Calls Tryd.prog 6 #[.int .i64 6, .string s, .int .i64 n] w fun e w' => e = .returned (.bool true) ∧ Below w.heap.size w w' := by
  have LV := Lib.hid (live_any w hG)
  have HG := Lib.hid hG
  clear hG
  go_enter Tryd.func6, Tryd.ntmps6
  go_wp2_with fail
  refine LV.out.mono ?_
  rintro e w1 ⟨rfl, hb1⟩
  have B1 := Lib.hid hb1
  have G1 := Lib.hid (HG.out.thn hb1)
  clear hb1
  go_wp2_with fail
  refine (NA.out _ G1.out).mono ?_
  rintro e w4 ⟨rfl, hb4⟩
  have B4 := Lib.hid (Below.thn B1.out B1.out.size hb4)
  have G4 := Lib.hid (G1.out.thn hb4)
  clear hb4
  go_wp2_with fail
  refine (MU.out _ G4.out).mono ?_
  rintro e w5 ⟨rfl, hb5⟩
  have B5 := Lib.hid (Below.thn B4.out B4.out.size hb5)
  have G5 := Lib.hid (G4.out.thn hb5)
  clear hb5
  go_wp2_with fail
  refine (MA.out _ G5.out).mono ?_
  rintro e w6 ⟨rfl, hb6⟩
  have B6 := Lib.hid (Below.thn B5.out B5.out.size hb6)
  clear hb6
  go_wp2_with fail
  all_goals go_ret
  all_goals exact ⟨by simp, B6.out⟩

theorem walk (k : Int) (s : ByteArray) (n : Int) (w : World) (hG : Good w) (hs : s.size ≤ 1048576) :
    Calls Tryd.prog 6 #[.int .i64 k, .string s, .int .i64 n] w fun e w' => e = .returned (.bool true) ∧ Below w.heap.size w w' := by
  have MU0 : ∀ w : World, Good w → _ := fun w (h : Good w) => number_any k s w h (by omega)
  cases hn : nameOf k n with
  | some x =>
    obtain ⟨m0, hm0, h2, h3⟩ := back_name hn
    have hx := nameOf_len hn
    have hxz : (⟨x.toArray⟩ : ByteArray).size < 4294967281 := by
      have : (⟨x.toArray⟩ : ByteArray).size = x.length := rfl
      omega
    have NA : Hid (∀ w : World, Good w → Calls Tryd.prog 15 #[.int .i64 k, .int .i64 n] w fun e w' => e = .returned (.tuple #[.string ⟨x.toArray⟩, .int .i64 0]) ∧ Below w.heap.size w w') := Lib.hid (fun w h => by
      have := name_any k n w h; rw [strOut_yes hn] at this; exact this)
    have NU : Hid (∀ w : World, Good w → Calls Tryd.prog 13 #[.int .i64 k, .string ⟨x.toArray⟩] w fun e w' => e = .returned (.tuple #[.int .i64 n, .int .i64 0]) ∧ Below w.heap.size w w') := Lib.hid (fun w h => by
      have := number_any k ⟨x.toArray⟩ w h hxz
      rw [show (⟨x.toArray⟩ : ByteArray).data.toList = x from rfl, numOut_yes h2, hm0] at this; exact this)
    have WO : Hid (∀ w : World, Good w → Calls Tryd.prog 17 #[.string ⟨x.toArray⟩] w fun e w' => e = .returned (.bool true) ∧ Below w.heap.size w w') := Lib.hid (fun w h => by
      have := word_any ⟨x.toArray⟩ w h hxz
      rw [show (⟨x.toArray⟩ : ByteArray).data.toList = x from rfl, h3] at this; exact this)
    generalize (⟨x.toArray⟩ : ByteArray) = A at *
    cases hu : numOf k s.data.toList with
    | none =>
      exact way_yes_none k n 0 _ s s w hG NA NU WO (Lib.hid (fun w h => by have := MU0 w h; rw [numOut_no hu] at this; exact this))
    | some m =>
      obtain ⟨y, hy, hf⟩ := fin_of hu
      have MU : Hid (∀ w : World, Good w → Calls Tryd.prog 13 #[.int .i64 k, .string s] w fun e w' => e = .returned (.tuple #[.int .i64 (m : Int), .int .i64 0]) ∧ Below w.heap.size w w') := Lib.hid (fun w h => by
        have := MU0 w h; rw [numOut_yes hu] at this; exact this)
      have MA : Hid (∀ w : World, Good w → Calls Tryd.prog 15 #[.int .i64 k, .int .i64 (m : Int)] w fun e w' => e = .returned (.tuple #[.string ⟨y.toArray⟩, .int .i64 0]) ∧ Below w.heap.size w w') := Lib.hid (fun w h => by
        have := name_any k (m : Int) w h; rw [strOut_yes hy] at this; exact this)
      rcases hf with hf | ⟨rfl, rfl | rfl⟩ | rfl
      · rw [hf] at MA
        exact way_yes_same k n m _ s s w hG NA NU WO MU MA
      · exact way_yes_hs n m _ _ ⟨#[]⟩ w hG NA NU WO MU MA
      · exact way_yes_lo n m _ _ ⟨#[]⟩ w hG NA NU WO MU MA
      · exact way_yes_six n m _ _ s w hG NA NU WO MU MA
  | none =>
    have NA : Hid (∀ w : World, Good w → Calls Tryd.prog 15 #[.int .i64 k, .int .i64 n] w fun e w' => e = .returned (.tuple #[.string ⟨#[]⟩, .int .i64 30]) ∧ Below w.heap.size w w') := Lib.hid (fun w h => by
      have := name_any k n w h; rw [strOut_no hn] at this; exact this)
    cases hu : numOf k s.data.toList with
    | none =>
      exact way_no_none k n 0 _ s s w hG NA (Lib.hid (fun w h => by have := MU0 w h; rw [numOut_no hu] at this; exact this))
    | some m =>
      obtain ⟨y, hy, hf⟩ := fin_of hu
      have MU : Hid (∀ w : World, Good w → Calls Tryd.prog 13 #[.int .i64 k, .string s] w fun e w' => e = .returned (.tuple #[.int .i64 (m : Int), .int .i64 0]) ∧ Below w.heap.size w w') := Lib.hid (fun w h => by
        have := MU0 w h; rw [numOut_yes hu] at this; exact this)
      have MA : Hid (∀ w : World, Good w → Calls Tryd.prog 15 #[.int .i64 k, .int .i64 (m : Int)] w fun e w' => e = .returned (.tuple #[.string ⟨y.toArray⟩, .int .i64 0]) ∧ Below w.heap.size w w') := Lib.hid (fun w h => by
        have := name_any k (m : Int) w h; rw [strOut_yes hy] at this; exact this)
      rcases hf with hf | ⟨rfl, rfl | rfl⟩ | rfl
      · rw [hf] at MA
        exact way_no_same k n m _ s s w hG NA MU MA
      · exact way_no_hs n m _ _ ⟨#[]⟩ w hG NA MU MA
      · exact way_no_lo n m _ _ ⟨#[]⟩ w hG NA MU MA
      · exact way_no_six n m _ _ s w hG NA MU MA

theorem laidOut : laidOutB Tryd.prog = true := by kernel_rfl
theorem reads (os : Os) {H : Type} (enc : TypeId × Value → H) : ∃ places, DataW.whole enc Tryd.prog ((World.laidAll Tryd.prog os lays).forCall (fun _ _ => 0) ⟨#[], #[.int .i64 0, .string ⟨#[]⟩, .int .i64 0], []⟩).memory Tryd.f6.params.toList Rows.namesBackSpec.vars false (#[.int .i64 0, .string ⟨#[]⟩, .int .i64 0] : Array Value).toList 8 = some ([.lit (.int .i64 0), .lit (.string []), .lit (.int .i64 0)], [], places) :=
  ⟨[], by kernel_rfl⟩
set_option maxRecDepth 100000 in
theorem lifted (os : Os) (started : os.Started) (H : Type) (enc : TypeId × Value → H) (F : Stop.Interp) :
    ReturnsInHanded {} Tryd.checked os 6 .any ((Rows.OpenSpec.upto Rows.namesBackSpec).preRow enc Tryd.prog Tryd.f6 Rows.namesBackUptoRow.domain false Rows.namesBackUptoRow.laid) (((Rows.OpenSpec.upto Rows.namesBackSpec).at F).post enc Tryd.prog Tryd.f6 false true false false) := by
  obtain ⟨places, hx⟩ := reads os enc
  refine returnsInHanded_of_row (C := Tryd.checked) (s := (Rows.OpenSpec.upto Rows.namesBackSpec)) own started (by kernel_rfl) Tryd.func6
    (witness_row_atRef (enc := enc) (C := Tryd.checked) false (World.laidAll Tryd.prog os lays) #[.int .i64 0, .string ⟨#[]⟩, .int .i64 0] (World.laidAll_os _ _ _) (by kernel_rfl) (by kernel_rfl) (by kernel_rfl)
      (OpenSpec.preRow_of_cond 8 hx (by kernel_rfl) (fun k hk => by cases hk; kernel_rfl) (by kernel_rfl) (laid_met os _))) ?_
  intro W base args ds gs before hval0 hW _ hcond hsz0 hL hsh _
  have hG := good_of_laid hL hsh
  have hval : ∀ (j : Nat) t v, Tryd.f6.params[j]? = some t → args[j]? = some v → Value.okWide Tryd.prog W .any base t v := hval0
  have hW' := hW
  have hsz : (DataW.weightsEach Tryd.prog (Tryd.f6.params.toList ++ []) (ds ++ gs)).all (· ≤ reachBytes) = true := hsz0
  obtain ⟨p, q, hA0, hV, rfl, hfz, hnd⟩ := hW
  have hA : DataW.TrodAll enc Tryd.prog W 0 (fun _ => true) true Tryd.f6.params.toList args.toList ds p := hA0
  rw [Tryd.params6] at hA hval hsz
  obtain ⟨v0, vs0, d0, ds0, p0, q0, hargs, rfl, rfl, h0, r0⟩ := trodAll_cons hA
  obtain ⟨v1, vs1, d1, ds1, p1, q1, rfl, rfl, rfl, h1, r1⟩ := trodAll_cons r0
  obtain ⟨v2, vs2, d2, ds2, p2, q2, rfl, rfl, rfl, h2, r2⟩ := trodAll_cons r1
  obtain ⟨rfl, rfl, rfl⟩ := trodAll_nil r2
  obtain rfl : args = #[v0, v1, v2] := by cases args; simp_all
  obtain ⟨rfl, rfl⟩ := trodVars_none hV
  have k0 := h0
  have lt0 : ∀ x ∈ p0, x.block < W.heap.size := by obtain ⟨m, hm⟩ := k0; exact DataW.trod_lt m _ _ _ hm
  have k1 := h1
  have lt1 : ∀ x ∈ p1, x.block < W.heap.size := by obtain ⟨m, hm⟩ := k1; exact DataW.trod_lt m _ _ _ hm
  have k2 := h2
  have lt2 : ∀ x ∈ p2, x.block < W.heap.size := by obtain ⟨m, hm⟩ := k2; exact DataW.trod_lt m _ _ _ hm
  obtain ⟨a0, rfl, e0, _, w0⟩ := open_int Tryd.underlying3 (hval 0 3 v0 rfl rfl) h0
  obtain ⟨a1, rfl, e1, _, w1⟩ := Go.ChangeMaps.open_string Tryd.underlying9 (hval 1 9 v1 rfl rfl) h1
  obtain ⟨a2, rfl, e2, _, w2⟩ := open_int Tryd.underlying2 (hval 2 2 v2 rfl rfl) h2
  have hb1 : a1.size ≤ 1048576 := by
    have hc := of_decide_eq_true (hcond _ rfl)
    subst e0 e1 e2
    simp only [List.append_nil, Rows.uptoBulkAll, Rows.uptoBulk] at hc
    have e : a1.size = a1.data.toList.length := (Array.length_toList ..).symm
    omega
  clear hA0 hval0 hsz0
  refine (walk a0 a1 a2 W hG hb1).mono fun e W' ⟨he, bel⟩ => ?_
  subst he
  exact ⟨_, rfl, _, _, _, [], _, [], hW', trodAll_mk1 (shut_bool Tryd.underlying4 _), (trodAll_cons_mk (Below.trod laidOut (by kernel_rfl) (of_decide_eq_true (by kernel_rfl)) k0 bel lt0) (trodAll_cons_mk (Below.trod laidOut (by kernel_rfl) (of_decide_eq_true (by kernel_rfl)) k1 bel lt1) (trodAll_cons_mk (Below.trod laidOut (by kernel_rfl) (of_decide_eq_true (by kernel_rfl)) k2 bel lt2) trodAll_mk0))), rfl, bel.frame _, fun h => by cases h⟩

theorem over : Rows.NamesBackUptoSaid :=
  OpenClaim.holds_of_cond 6 Tryd.f6 rfl rfl rfl rfl rfl rfl rfl ⟨rfl, rfl, rfl, rfl, rfl⟩ rfl rfl rfl rfl rfl (by kernel_rfl) Tryd.func6 (by kernel_rfl)
    (of_decide_eq_true (by kernel_rfl)) (by unfold Func.isWrapper; first | (rw [if_pos (by decide +kernel)]; kernel_rfl) | (rw [if_neg (by decide +kernel)]; exact ⟨rfl, rfl⟩))
    (fun os started H enc _ F => by rw [OpenClaim.pre_eq_preRow]; exact lifted os started H enc F)
theorem plain (f : FuncId) (fn : Func) (hf : Tryd.pinned.checked.prog.funcNamed "cooper/cooperlaw03.NamesBack" = some f) (hfn : Tryd.pinned.checked.prog.funcs[f]? = some fn) :
    true = Tryd.pinned.checked.prog.looks [] ∧ ∀ (j : Nat) t, fn.params[j]? = some t → Tryd.pinned.checked.prog.wantsStandIn t = false := by
  obtain rfl : f = 6 := Option.some.inj ((show Tryd.prog.funcNamed "cooper/cooperlaw03.NamesBack" = some 6 by kernel_rfl).symm.trans hf) |>.symm
  obtain rfl : fn = Tryd.f6 := (Option.some.inj (Tryd.func6.symm.trans hfn)).symm
  refine ⟨by kernel_rfl, fun j t ht => ?_⟩
  rw [Tryd.params6] at ht
  have hm : t ∈ Tryd.f6.params.toList := by
    have := Array.mem_of_getElem? ht
    simpa [Tryd.f6] using this
  have hall : (Tryd.f6.params.toList.all fun u => !Tryd.prog.wantsStandIn u) = true := by kernel_rfl
  exact (show Tryd.prog.wantsStandIn t = false by simpa using List.all_eq_true.1 hall t hm)

/-- the given statement -/
theorem proved : Rows.NamesBackUptoCardSaid :=
  Claim7.holds_tied_plain_at .later [] _ _ _ _ over (fun _ h => by cases h) (by kernel_rfl) (fun _ h => by cases h) namesBackUpto_row_tie rfl ⟨rfl, rfl⟩ (by kernel_rfl) rfl plain (by kernel_rfl)
end Go.Proofs.YtefglodkcddgiaaDoor.namesBack
