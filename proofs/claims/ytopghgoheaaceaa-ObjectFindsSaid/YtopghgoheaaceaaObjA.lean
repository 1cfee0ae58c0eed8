/-
  What each call of the small functions on names, kinds, widths and alignments returns, the program's and the document's. No conditions beyond the sizes that each lemma states.
-/
import Derived.Test.YtopghgoheaaceaaRows
import Derived.WalkKit
import Derived.ProofKit
import Derived.WalkLawsBesides
import Derived.WalkSpells
import Derived.Laws.ShiftsVar
import Derived.Laws.BitsAllLaws
import Derived.Laws.BitsLemmas
import Derived.Deep.RegionWith
import Derived.Deep.RegionHeld3
import Derived.Deep.QuietTactic
import Derived.BigQuiet
import Derived.Lib.Hide
namespace Go.Proofs.Ytopghgoheaaceaa
open Go.RowKit
set_option linter.unusedVariables false
set_option linter.unusedSimpArgs false
abbrev BA := ByteArray
theorem Below.thn {B : Nat} {w W w1 : World} (h : Below B w W) (hB : B ≤ W.heap.size) (k : Below W.heap.size W w1) : Below B w w1 := h.trans (k.mono hB)
theorem bcell {W w1 : World} (hb : Below W.heap.size W w1) : (∀ b o, b < W.heap.size → w1.cell? ⟨b, o, none⟩ = W.cell? ⟨b, o, none⟩) ∧ (∀ b o, b < W.heap.size → w1.frozen? ⟨b, o, none⟩ = W.frozen? ⟨b, o, none⟩) :=
  ⟨fun b o h => hb.cell (p := ⟨b, o, none⟩) h, fun b o h => hb.frozen (p := ⟨b, o, none⟩) h⟩
theorem ret1 {k : IntKind} {a b : Int} (h : a = b) : Ending.returned (.int k a) = .returned (.int k b) := by rw [h]
theorem ret1b {a b : Bool} (h : a = b) : Ending.returned (.bool a) = .returned (.bool b) := by rw [h]
theorem ret1s {a b : ByteArray} (h : a = b) : Ending.returned (.string a) = .returned (.string b) := by rw [h]
theorem quiet_eq {P : Program} {f : FuncId} {args : Array Value} {w : World} {n : Nat} {v : Value} (h : Calls P f args (w.drewN n) fun e w' => e = .returned v ∧ w.drewN n = w') :
    Calls P f args (w.drewN n) fun e w'' => e = .returned v ∧ ∃ m, w'' = w.drewN m := Calls.quiet_of_same (h.mono fun _ _ ⟨a, b⟩ => ⟨a, b.symm⟩)
theorem below_drewN {B : Nat} {w w' : World} (h : Below B w w') (n : Nat) : Below B w (w'.drewN n) := by
  induction n with
  | zero => exact h
  | succ n ih => exact ih.drew
theorem below1 (w : World) (o : Obj) : Below w.heap.size w (w.alloc o) := (Below.refl _ w).alloc (Nat.le_refl _) o
theorem bytes_eq {a b : ByteArray} (h : a.data.toList = b.data.toList) : a = b := by
  cases a; cases b; simp only at h; congr; exact Array.ext' h
theorem size_list (s : ByteArray) : s.size = s.data.toList.length := (Array.length_toList ..).symm
theorem str_yes (s : ByteArray) : (s.toList == s.toList) = true := by simp
theorem str_no {s t : ByteArray} (h : s ≠ t) : (s.toList == t.toList) = false := by
  rw [beq_eq_false_iff_ne]
  intro e
  exact h (bytes_eq (by rw [ByteArray.toList_eq, ByteArray.toList_eq] at e; exact e))
theorem str_dec (s t : ByteArray) : (s.toList == t.toList) = decide (s = t) := by
  by_cases h : s = t
  · subst h; rw [str_yes]; simp
  · rw [str_no h, decide_eq_false h]

theorem lpre_any (s p : BA) (w : World) (hs : s.size ≤ 281474976710656) (hp : p.size ≤ 1000) :
    Calls Try.prog 80 #[.string s, .string p] w fun e w' => e = .returned (.bool (decide (p.size ≤ s.size) && ((s.extract 0 p.size).toList == p.toList))) ∧ w = w' := by
  by_cases h : p.size ≤ s.size
  · have h' : (p.size : Int) ≤ (s.size : Int) := by omega
    rw [decide_eq_true h, Bool.true_and]
    go_enter Try.func80, Try.ntmps80
    go_wp2_with fail
    go_ret
    exact ⟨rfl, rfl⟩
  · have h' : ¬ (p.size : Int) ≤ (s.size : Int) := by omega
    rw [decide_eq_false h, Bool.false_and]
    go_enter Try.func80, Try.ntmps80
    go_wp2_with fail
    go_ret
    exact ⟨rfl, rfl⟩
theorem pre_any (s p : BA) (w : World) (hs : s.size ≤ 281474976710656) (hp : p.size ≤ 1000) :
    Calls Try.prog 59 #[.string s, .string p] w fun e w' => e = .returned (.bool (decide (p.size ≤ s.size) && ((s.extract 0 p.size).toList == p.toList))) ∧ w = w' := by
  have H := Lib.hid (lpre_any s p w hs hp)
  generalize (decide (p.size ≤ s.size) && ((s.extract 0 p.size).toList == p.toList)) = R at *
  clear hs hp
  go_enter Try.func59, Try.ntmps59
  go_wp2_with fail
  refine H.out.mono ?_
  rintro e w1 ⟨rfl, rfl⟩
  go_wp2_with fail
  go_ret
  exact ⟨rfl, rfl⟩
/-- a name is a family's, or one of it -/
def begB (n F : BA) : Bool := (n.toList == F.toList) || (decide (F.size + 1 ≤ n.size) && ((n.extract 0 (F.size + 1)).toList == (F ++ ⟨#[46]⟩ : BA).toList))
theorem within_any (n F : BA) (w : World) (hn : n.size ≤ 281474976710656) (hF : F.size ≤ 900) :
    Calls Try.prog 34 #[.string n, .string F] w fun e w' => e = .returned (.bool (begB n F)) ∧ w = w' := by
  have H := Lib.hid (pre_any n (F ++ ⟨#[46]⟩) w hn (by rw [ByteArray.size_append]; show F.size + 1 ≤ 1000; omega))
  have hs : (F ++ ⟨#[46]⟩ : BA).size = F.size + 1 := by rw [ByteArray.size_append]; rfl
  unfold begB
  rw [hs] at H
  generalize hR : (decide (F.size + 1 ≤ n.size) && ((n.extract 0 (F.size + 1)).toList == (F ++ ⟨#[46]⟩ : BA).toList)) = R at *
  have hF2 : ¬ (9223372036854775807 < F.size + 1) := by omega
  clear hR hs hn hF
  cases hE : (n.toList == F.toList) with
  | true =>
    go_enter Try.func34, Try.ntmps34
    go_wp2_with fail
    go_ret
    exact ⟨rfl, rfl⟩
  | false =>
    go_enter Try.func34, Try.ntmps34
    go_wp2_with fail
    refine H.out.mono ?_
    rintro e w1 ⟨rfl, rfl⟩
    go_wp2_with fail
    go_ret
    exact ⟨rfl, rfl⟩
theorem rbegins_any (n F : BA) (w : World) (hn : n.size ≤ 281474976710656) (hF : F.size ≤ 900) :
    Calls Try.prog 35 #[.string n, .string F] w fun e w' => e = .returned (.bool (begB n F)) ∧ w = w' := by
  unfold begB
  have hF2 : ¬ (9223372036854775807 < F.size + 1) := by omega
  have w9 : IntKind.i64.wrap ((F.size : Int) + 1) = ((F.size + 1 : Nat) : Int) := by rw [IntWalk.i64_in _ (by omega)]; omega
  cases hE : (n.toList == F.toList) with
  | true =>
    go_enter Try.func35, Try.ntmps35
    go_wp2_with fail
    go_ret
    exact ⟨rfl, rfl⟩
  | false =>
    by_cases h : F.size + 1 ≤ n.size
    · have h' : (F.size : Int) < (n.size : Int) := by omega
      have h2 : ((F.size + 1 : Nat) : Int) ≤ (n.size : Int) := by omega
      rw [decide_eq_true h]
      go_enter Try.func35, Try.ntmps35
      go_wp2_with fail
      go_ret
      exact ⟨rfl, rfl⟩
    · have h' : ¬ (F.size : Int) < (n.size : Int) := by omega
      rw [decide_eq_false h]
      go_enter Try.func35, Try.ntmps35
      go_wp2_with fail
      go_ret
      exact ⟨rfl, rfl⟩
def textB : BA := ⟨#[46, 116, 101, 120, 116]⟩
def rodB : BA := ⟨#[46, 114, 111, 100, 97, 116, 97]⟩
def bssB : BA := ⟨#[46, 98, 115, 115]⟩
def kindB (n : BA) : Int := if begB n textB = true then 1 else if begB n rodB = true then 3 else if begB n bssB = true then 4 else 2
theorem kind_any (n : BA) (w : World) (hn : n.size ≤ 281474976710656) :
    Calls Try.prog 9 #[.string n] w fun e w' => e = .returned (.int .i64 (kindB n)) ∧ w = w' := by
  have H1 := Lib.hid (within_any n textB w hn (by decide))
  have H2 := Lib.hid (within_any n rodB w hn (by decide))
  have H3 := Lib.hid (within_any n bssB w hn (by decide))
  unfold kindB
  clear hn
  generalize begB n textB = b1 at *
  generalize begB n rodB = b2 at *
  generalize begB n bssB = b3 at *
  cases b1 with
  | true =>
    go_enter Try.func9, Try.ntmps9
    go_wp2_with fail
    refine H1.out.mono ?_
    rintro e w1 ⟨rfl, rfl⟩
    go_wp2_with fail
    go_ret
    exact ⟨rfl, rfl⟩
  | false =>
  cases b2 with
  | true =>
    go_enter Try.func9, Try.ntmps9
    go_wp2_with fail
    refine H1.out.mono ?_
    rintro e w1 ⟨rfl, rfl⟩
    go_wp2_with fail
    refine H2.out.mono ?_
    rintro e w1 ⟨rfl, rfl⟩
    go_wp2_with fail
    go_ret
    exact ⟨rfl, rfl⟩
  | false =>
  cases b3 with
  | true =>
    go_enter Try.func9, Try.ntmps9
    go_wp2_with fail
    refine H1.out.mono ?_
    rintro e w1 ⟨rfl, rfl⟩
    go_wp2_with fail
    refine H2.out.mono ?_
    rintro e w1 ⟨rfl, rfl⟩
    go_wp2_with fail
    refine H3.out.mono ?_
    rintro e w1 ⟨rfl, rfl⟩
    go_wp2_with fail
    go_ret
    exact ⟨rfl, rfl⟩
  | false =>
    go_enter Try.func9, Try.ntmps9
    go_wp2_with fail
    refine H1.out.mono ?_
    rintro e w1 ⟨rfl, rfl⟩
    go_wp2_with fail
    refine H2.out.mono ?_
    rintro e w1 ⟨rfl, rfl⟩
    go_wp2_with fail
    refine H3.out.mono ?_
    rintro e w1 ⟨rfl, rfl⟩
    go_wp2_with fail
    go_ret
    exact ⟨rfl, rfl⟩
theorem rkind_any (n : BA) (w : World) (hn : n.size ≤ 281474976710656) :
    Calls Try.prog 10 #[.string n] w fun e w' => e = .returned (.int .i64 (kindB n)) ∧ w = w' := by
  have H1 := Lib.hid (rbegins_any n textB w hn (by decide))
  have H2 := Lib.hid (rbegins_any n rodB w hn (by decide))
  have H3 := Lib.hid (rbegins_any n bssB w hn (by decide))
  unfold kindB
  clear hn
  generalize begB n textB = b1 at *
  generalize begB n rodB = b2 at *
  generalize begB n bssB = b3 at *
  cases b1 with
  | true =>
    go_enter Try.func10, Try.ntmps10
    go_wp2_with fail
    refine H1.out.mono ?_
    rintro e w1 ⟨rfl, rfl⟩
    go_wp2_with fail
    go_ret
    exact ⟨rfl, rfl⟩
  | false =>
  cases b2 with
  | true =>
    go_enter Try.func10, Try.ntmps10
    go_wp2_with fail
    refine H1.out.mono ?_
    rintro e w1 ⟨rfl, rfl⟩
    go_wp2_with fail
    refine H2.out.mono ?_
    rintro e w1 ⟨rfl, rfl⟩
    go_wp2_with fail
    go_ret
    exact ⟨rfl, rfl⟩
  | false =>
  cases b3 with
  | true =>
    go_enter Try.func10, Try.ntmps10
    go_wp2_with fail
    refine H1.out.mono ?_
    rintro e w1 ⟨rfl, rfl⟩
    go_wp2_with fail
    refine H2.out.mono ?_
    rintro e w1 ⟨rfl, rfl⟩
    go_wp2_with fail
    refine H3.out.mono ?_
    rintro e w1 ⟨rfl, rfl⟩
    go_wp2_with fail
    go_ret
    exact ⟨rfl, rfl⟩
  | false =>
    go_enter Try.func10, Try.ntmps10
    go_wp2_with fail
    refine H1.out.mono ?_
    rintro e w1 ⟨rfl, rfl⟩
    go_wp2_with fail
    refine H2.out.mono ?_
    rintro e w1 ⟨rfl, rfl⟩
    go_wp2_with fail
    refine H3.out.mono ?_
    rintro e w1 ⟨rfl, rfl⟩
    go_wp2_with fail
    go_ret
    exact ⟨rfl, rfl⟩
end Go.Proofs.Ytopghgoheaaceaa
