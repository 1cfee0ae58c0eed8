/-
  What each call of the small functions on names returns: usual names, numbers of registers, numerals. No conditions beyond those that each lemma states.
-/
import Derived.Test.YtefglodkcddgiaaDoorRows
import Derived.Test.YtefglodkcddgiaaDoorNamesMath
import Derived.Test.YtefglodkcddgiaaDoorNamesShelf
import Derived.WalkKit
import Derived.ProofKit
import Derived.WalkLawsBesides
import Derived.WalkSpells
import Derived.Laws.ShiftsVar
import Derived.Deep.RegionWith
import Derived.Deep.RegionHeld3
import Derived.Deep.QuietTactic
import Derived.BigQuiet
import Derived.Lib.Hide
namespace Go.Proofs.YtefglodkcddgiaaDoor
open Go.RowKit

theorem Below.thn {B : Nat} {w W w1 : World} (h : Below B w W) (hB : B ≤ W.heap.size) (k : Below W.heap.size W w1) : Below B w w1 := h.trans (k.mono hB)
theorem bcell {W w1 : World} (hb : Below W.heap.size W w1) : (∀ b o, b < W.heap.size → w1.cell? ⟨b, o, none⟩ = W.cell? ⟨b, o, none⟩) ∧ (∀ b o, b < W.heap.size → w1.frozen? ⟨b, o, none⟩ = W.frozen? ⟨b, o, none⟩) :=
  ⟨fun b o h => hb.cell (p := ⟨b, o, none⟩) h, fun b o h => hb.frozen (p := ⟨b, o, none⟩) h⟩
theorem ret1 {k : IntKind} {a b : Int} (h : a = b) : Ending.returned (.int k a) = .returned (.int k b) := by rw [h]
theorem ret1b {a b : Bool} (h : a = b) : Ending.returned (.bool a) = .returned (.bool b) := by rw [h]
theorem ret1s {a b : ByteArray} (h : a = b) : Ending.returned (.string a) = .returned (.string b) := by rw [h]
theorem quiet_eq {P : Program} {f : FuncId} {args : Array Value} {w : World} {n : Nat} {v : Value} (h : Calls P f args (w.drewN n) fun e w' => e = .returned v ∧ w.drewN n = w') :
    Calls P f args (w.drewN n) fun e w'' => e = .returned v ∧ ∃ m, w'' = w.drewN m := Calls.quiet_of_same (h.mono fun _ _ ⟨a, b⟩ => ⟨a, b.symm⟩)
theorem below_drewN {B : Nat} {w w' : World} (h : Below B w w') (n : Nat) : Below B w (w'.drewN n) := by
  induction n with
  | zero => exact h
  | succ n ih => exact ih.drew
theorem bytes_eq {a b : ByteArray} (h : a.data.toList = b.data.toList) : a = b := by
  cases a; cases b; simp only at h; congr; exact Array.ext' h

theorem lit_no {s : ByteArray} {l : List UInt8} (h : s ≠ ⟨l.toArray⟩) : (s.toList == l) = false := by
  rw [beq_eq_false_iff_ne]
  intro e
  exact h (bytes_eq (by rw [← Lib.toList_data]; exact e))
theorem lit_yes (l : List UInt8) : ((⟨l.toArray⟩ : ByteArray).toList == l) = true := by
  rw [beq_iff_eq, Lib.toList_data]
set_option maxHeartbeats 400000 in
theorem usual_any (s : ByteArray) (w : World) :
    Calls Tryd.prog 28 #[.string s] w fun e w' => e = .returned (.string ⟨(usualS s.data.toList).toArray⟩) ∧ w = w' := by
  by_cases h1 : s = ⟨#[104, 115]⟩
  · subst h1
    go_enter Tryd.func28, Tryd.ntmps28
    go_wp2
    go_ret
    exact ⟨rfl, rfl⟩
  · by_cases h2 : s = ⟨#[108, 111]⟩
    · subst h2
      go_enter Tryd.func28, Tryd.ntmps28
      go_wp2
      go_ret
      exact ⟨rfl, rfl⟩
    · have g1 : (s.toList == [104, 115]) = false := lit_no h1
      have g2 : (s.toList == [108, 111]) = false := lit_no h2
      have g3 : usualS s.data.toList = s.data.toList := by
        unfold usualS
        rw [if_neg (fun e => h1 (bytes_eq e)), if_neg (fun e => h2 (bytes_eq e))]
      have G := Lib.hid g3
      clear h1 h2 g3
      go_enter Tryd.func28, Tryd.ntmps28
      go_wp2
      go_ret
      exact ⟨ret1s (by rw [G.out]), rfl⟩

theorem digit_lo : ∀ n : Nat, n < 10 → (ByteArray.mk #[48, 49, 50, 51, 52, 53, 54, 55, 56, 57]).extract n (n + 1) = ⟨(dd n).toArray⟩ := by decide +kernel
theorem digit_hi : ∀ n : Nat, n < 100 → 10 ≤ n → (ByteArray.mk #[48, 49, 50, 51, 52, 53, 54, 55, 56, 57]).extract (n / 10) (n / 10 + 1) ++ (ByteArray.mk #[48, 49, 50, 51, 52, 53, 54, 55, 56, 57]).extract (n % 10) (n % 10 + 1) = ⟨(dd n).toArray⟩ := by decide +kernel
set_option maxHeartbeats 400000 in
theorem text_lo (n : Nat) (w : World) (h : n < 10) :
    Calls Tryd.prog 25 #[.int .i64 (n : Int)] w fun e w' => ∃ q, e = .returned (.string ⟨(dd n).toArray⟩) ∧ w' = w.drewN q := by
  go_enter Tryd.func25, Tryd.ntmps25
  go_wp2
  go_ret
  exact ⟨0, ret1s (by rw [← digit_lo n h]), rfl⟩
set_option maxHeartbeats 400000 in
theorem text_hi (n : Nat) (w : World) (h : 10 ≤ n) (h2 : n < 100) :
    Calls Tryd.prog 25 #[.int .i64 (n : Int)] w fun e w' => ∃ q, e = .returned (.string ⟨(dd n).toArray⟩) ∧ w' = w.drewN q := by
  have m1 : (n : Int) / 10 < 10 := by omega
  have m2 : (n : Int) % 10 < 10 := by omega
  have m3 : 0 ≤ (n : Int) / 10 := by omega
  have m4 : 0 ≤ (n : Int) % 10 := by omega
  go_enter Tryd.func25, Tryd.ntmps25
  go_wp2
  go_quiet (fail)
  go_wp2
  go_ret
  exact ⟨_, ret1s (by rw [← digit_hi n h2 h]), rfl⟩
theorem text_any (n : Nat) (w : World) (h : n < 100) :
    Calls Tryd.prog 25 #[.int .i64 (n : Int)] w fun e w' => ∃ q, e = .returned (.string ⟨(dd n).toArray⟩) ∧ w' = w.drewN q := by
  rcases Nat.lt_or_ge n 10 with g | g
  · exact text_lo n w g
  · exact text_hi n w g h

/-! ### numbers of registers -/
set_option maxHeartbeats 400000 in
theorem regNumber_any (n : Int) (x p : Bool) (w : World) (h1 : 0 ≤ n) (h2 : n ≤ 1000) :
    Calls Tryd.prog 26 #[.agg #[.int .i64 n, .bool x, .bool p]] w fun e w' => e = .returned (.int .i64 (n + (if x = true then 32 else 0) + (if p = true then 64 else 0))) ∧ Below w.heap.size w w' := by
  cases x <;> cases p
  all_goals
    go_enter Tryd.func26, Tryd.ntmps26
    go_wp2
    go_ret
    exact ⟨ret1 (by simp), (Below.refl _ _).alloc (Nat.le_refl _) _⟩
set_option maxHeartbeats 400000 in
theorem rregNumber_any (n : Int) (x p : Bool) (w : World) (h1 : 0 ≤ n) (h2 : n ≤ 1000) :
    Calls Tryd.prog 30 #[.agg #[.int .i64 n, .bool x, .bool p]] w fun e w' => e = .returned (.int .i64 (n + (if x = true then 32 else 0) + (if p = true then 64 else 0))) ∧ Below w.heap.size w w' := by
  cases x <;> cases p
  all_goals
    go_enter Tryd.func30, Tryd.ntmps30
    go_wp2
    go_ret
    exact ⟨ret1 (by simp), (Below.refl _ _).alloc (Nat.le_refl _) _⟩
end Go.Proofs.YtefglodkcddgiaaDoor
