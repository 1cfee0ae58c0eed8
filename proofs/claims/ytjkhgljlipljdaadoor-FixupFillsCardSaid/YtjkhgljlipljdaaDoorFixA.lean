/-
  Holes: how they read, which there are, what the tables of the program hold; what each call of the small functions on kinds returns. No conditions beyond those that each lemma states.
-/
import Derived.Test.YtjkhgljlipljdaaDoorRows
import Derived.WalkKit
import Derived.ProofKit
import Derived.WalkLawsBesides
import Derived.WalkSpells
import Derived.Laws.ShiftsVar
import Derived.Laws.BitsAllLaws
import Derived.Laws.BitsLemmas
import Derived.Deep.RegionWith
import Derived.Deep.RegionHeld3
import Derived.Deep.QuietTactic
import Derived.BigQuiet
import Derived.Lib.Hide
namespace Go.Proofs.YtjkhgljlipljdaaDoor
open Go.RowKit
set_option linter.unusedVariables false
set_option linter.unusedSimpArgs false
abbrev BA := ByteArray
theorem Below.thn {B : Nat} {w W w1 : World} (h : Below B w W) (hB : B ≤ W.heap.size) (k : Below W.heap.size W w1) : Below B w w1 := h.trans (k.mono hB)
theorem bcell {W w1 : World} (hb : Below W.heap.size W w1) : (∀ b o, b < W.heap.size → w1.cell? ⟨b, o, none⟩ = W.cell? ⟨b, o, none⟩) ∧ (∀ b o, b < W.heap.size → w1.frozen? ⟨b, o, none⟩ = W.frozen? ⟨b, o, none⟩) :=
  ⟨fun b o h => hb.cell (p := ⟨b, o, none⟩) h, fun b o h => hb.frozen (p := ⟨b, o, none⟩) h⟩
theorem ret1 {k : IntKind} {a b : Int} (h : a = b) : Ending.returned (.int k a) = .returned (.int k b) := by rw [h]
theorem ret1b {a b : Bool} (h : a = b) : Ending.returned (.bool a) = .returned (.bool b) := by rw [h]
theorem quiet_eq {P : Program} {f : FuncId} {args : Array Value} {w : World} {n : Nat} {v : Value} (h : Calls P f args (w.drewN n) fun e w' => e = .returned v ∧ w.drewN n = w') :
    Calls P f args (w.drewN n) fun e w'' => e = .returned v ∧ ∃ m, w'' = w.drewN m := Calls.quiet_of_same (h.mono fun _ _ ⟨a, b⟩ => ⟨a, b.symm⟩)
theorem below_drewN {B : Nat} {w w' : World} (h : Below B w w') (n : Nat) : Below B w (w'.drewN n) := by
  induction n with
  | zero => exact h
  | succ n ih => exact ih.drew
theorem below1 (w : World) (o : Obj) : Below w.heap.size w (w.alloc o) := (Below.refl _ w).alloc (Nat.le_refl _) o
theorem below2 (w : World) (o o2 : Obj) : Below w.heap.size w ((w.alloc o).alloc o2) := (below1 w o).alloc (by simp) o2
theorem cells_new (w : World) (cs : Array Value) (T : TypeId) (j : Nat) (v : Value) (h : cs[j]? = some v) : (w.alloc (.cells cs T)).cell? ⟨w.heap.size, j, none⟩ = some v := by
  rw [World.cell?_alloc_new]; exact h
theorem cell_kept {W W' : World} (hb : Below W.heap.size W W') {b j : Nat} {v : Value} (h : W.cell? ⟨b, j, none⟩ = some v) : W'.cell? ⟨b, j, none⟩ = some v :=
  (hb.cell (p := ⟨b, j, none⟩) (World.block_lt_of_cell? W _ h)).trans h
theorem bytes_eq {a b : ByteArray} (h : a.data.toList = b.data.toList) : a = b := by
  cases a; cases b; simp only at h; congr; exact Array.ext' h
theorem str_yes (s : ByteArray) : (s.toList == s.toList) = true := by simp
theorem str_no {s t : ByteArray} (h : s ≠ t) : (s.toList == t.toList) = false := by
  rw [beq_eq_false_iff_ne]
  intro e
  exact h (bytes_eq (by rw [ByteArray.toList_eq, ByteArray.toList_eq] at e; exact e))
theorem str_dec (s t : ByteArray) : (s.toList == t.toList) = decide (s = t) := by
  by_cases h : s = t
  · subst h; rw [str_yes]; simp
  · rw [str_no h, decide_eq_false h]
theorem not_beq {a b : Int} (h : ¬ a = b) : (a == b) = false := by simp [h]

/-- a hole -/
structure Hl where
  k : Int
  s : Int
  a : Int
  p : BA
  m : BA
def hlV (h : Hl) : Value := .agg #[.int .i64 h.k, .int .i64 h.s, .int .i64 h.a, .string h.p, .string h.m]
/-- there is such a hole -/
def holeOk (k s : Int) : Bool := decide (1 ≤ k) && (decide (k ≤ 12) && (decide (s = 0) || (decide (k = 9) && (decide (0 ≤ s) && decide (s ≤ 3)))))
def chkI (k s : Int) : Int := if holeOk k s = true then 0 else 1
/-- what is to be known of a hole but for its value -/
structure Sh where
  w : Int
  p : Int
  f : Int
  o : Int
  l : Int
  m : Int
  t : Int
deriving DecidableEq
def shV (h : Sh) : Value := .agg #[.int .i64 h.w, .int .i64 h.p, .int .i64 h.f, .int .i64 h.o, .int .i64 h.l, .int .i64 h.m, .int .i64 h.t]
def shC (h : Sh) : List Value := [.int .i64 h.w, .int .i64 h.p, .int .i64 h.f, .int .i64 h.o, .int .i64 h.l, .int .i64 h.m, .int .i64 h.t]
def sh0 : Sh := ⟨0, 0, 0, 0, 0, 0, 0⟩
/-- the table by kinds -/
def tabL : List Sh := [sh0, ⟨4, 282, 0, 8, -134217728, 134217724, 4⟩, ⟨4, 283, 0, 8, -134217728, 134217724, 4⟩, ⟨4, 280, 0, 7, -1048576, 1048572, 4⟩, ⟨4, 279, 0, 10, -32768, 32764, 4⟩, ⟨4, 273, 0, 18, -1048576, 1048572, 4⟩,
  ⟨4, 274, 0, 1, -1048576, 1048575, 1⟩, ⟨4, 275, 0, 0, 0, 0, 0⟩, ⟨4, 277, 0, 0, 0, 0, 0⟩, ⟨4, 0, 0, 0, 0, 0, 0⟩, ⟨1, 0, 0, 0, -128, 255, 1⟩, ⟨4, 258, 261, 0, -2147483648, 4294967295, 1⟩, ⟨8, 257, 260, 0, -9223372036854775808, 9223372036854775807, 1⟩]
def loadsL : List Int := [278, 284, 285, 286]
/-- a hole's shape, if there is such a one -/
def shOf (k s : Int) : Sh :=
  if k = 9 then { tabL.getD 9 sh0 with p := loadsL.getD s.toNat 0 } else tabL.getD k.toNat sh0
/-- what the start left in the two tables -/
structure Gd (W : World) : Prop where
  sh : ∀ (k : Nat) (x : Sh), tabL[k]? = some x → ∀ (j : Nat) v, (shC x)[j]? = some v → W.cell? ⟨0, k * 7 + j, none⟩ = some v
  ld : ∀ (k : Nat) (x : Int), loadsL[k]? = some x → W.cell? ⟨1, k, none⟩ = some (.int .i64 x)
theorem Gd.keep {W W' : World} (h : Gd W) (hb : Below W.heap.size W W') : Gd W' :=
  ⟨fun k x hx j v hv => cell_kept hb (h.sh k x hx j v hv), fun k x hx => cell_kept hb (h.ld k x hx)⟩

/-! ### all holes, in their order -/
def nS (k : Nat) : Nat := if k = 9 then 4 else 1
def idx (k s : Nat) : Nat := (if k ≤ 9 then k - 1 else k + 2) + s
def holesL : List (Nat × Nat) := [(1, 0), (2, 0), (3, 0), (4, 0), (5, 0), (6, 0), (7, 0), (8, 0), (9, 0), (9, 1), (9, 2), (9, 3), (10, 0), (11, 0), (12, 0)]
theorem idx_get (k : Nat) (hk : k < 13) (s : Nat) (hs : s < 4) (h1 : 1 ≤ k) (h2 : s < nS k) : holesL[idx k s]? = some (k, s) :=
  (show ∀ (k : Fin 13) (s : Fin 4), 1 ≤ k.1 → s.1 < nS k.1 → holesL[idx k.1 s.1]? = some (k.1, s.1) by decide) ⟨k, hk⟩ ⟨s, hs⟩ h1 h2
theorem idx_end (k : Nat) (hk : k < 13) (h1 : 1 ≤ k) : idx k (nS k) = idx (k + 1) 0 :=
  (show ∀ (k : Fin 13), 1 ≤ k.1 → idx k.1 (nS k.1) = idx (k.1 + 1) 0 by decide) ⟨k, hk⟩ h1
theorem idx_take {k s : Nat} (h1 : k < 13) (h2 : 1 ≤ k) (h3 : s < nS k) : holesL.take (idx k s) ++ [(k, s)] = holesL.take (idx k (s + 1)) := by
  have h4 : s < 4 := by unfold nS at h3; split at h3 <;> omega
  rw [show idx k (s + 1) = idx k s + 1 from rfl, List.take_add_one, idx_get k h1 s h4 h2 h3]; rfl
theorem idx_lt (k : Nat) (hk : k < 13) (s : Nat) (hs : s < 4) (h1 : 1 ≤ k) (h2 : s < nS k) : idx k s < 15 :=
  (show ∀ (k : Fin 13) (s : Fin 4), 1 ≤ k.1 → s.1 < nS k.1 → idx k.1 s.1 < 15 by decide) ⟨k, hk⟩ ⟨s, hs⟩ h1 h2
theorem holes_ok : ∀ x ∈ holesL, holeOk x.1 x.2 = true := by decide
theorem holes_all {k s : Int} (h : holeOk k s = true) : ∃ x ∈ holesL, (x.1 : Int) = k ∧ (x.2 : Int) = s := by
  simp only [holeOk, Bool.and_eq_true, Bool.or_eq_true, decide_eq_true_eq] at h
  obtain ⟨h1, h2, h3⟩ := h
  have hk : k = 1 ∨ k = 2 ∨ k = 3 ∨ k = 4 ∨ k = 5 ∨ k = 6 ∨ k = 7 ∨ k = 8 ∨ k = 9 ∨ k = 10 ∨ k = 11 ∨ k = 12 := by omega
  have hs : s = 0 ∨ (k = 9 ∧ (s = 1 ∨ s = 2 ∨ s = 3)) := by omega
  rcases hs with rfl | ⟨rfl, hs⟩
  · rcases hk with rfl | rfl | rfl | rfl | rfl | rfl | rfl | rfl | rfl | rfl | rfl | rfl
    · exact ⟨(1, 0), by decide, rfl, rfl⟩
    · exact ⟨(2, 0), by decide, rfl, rfl⟩
    · exact ⟨(3, 0), by decide, rfl, rfl⟩
    · exact ⟨(4, 0), by decide, rfl, rfl⟩
    · exact ⟨(5, 0), by decide, rfl, rfl⟩
    · exact ⟨(6, 0), by decide, rfl, rfl⟩
    · exact ⟨(7, 0), by decide, rfl, rfl⟩
    · exact ⟨(8, 0), by decide, rfl, rfl⟩
    · exact ⟨(9, 0), by decide, rfl, rfl⟩
    · exact ⟨(10, 0), by decide, rfl, rfl⟩
    · exact ⟨(11, 0), by decide, rfl, rfl⟩
    · exact ⟨(12, 0), by decide, rfl, rfl⟩
  · rcases hs with rfl | rfl | rfl
    · exact ⟨(9, 1), by decide, rfl, rfl⟩
    · exact ⟨(9, 2), by decide, rfl, rfl⟩
    · exact ⟨(9, 3), by decide, rfl, rfl⟩

theorem sizes_any (k : Nat) (w : World) :
    Calls Tryd.prog 36 #[.int .i64 (k : Int)] w fun e w' => e = .returned (.int .i64 (nS k : Int)) ∧ w = w' := by
  unfold nS
  by_cases h : k = 9
  · subst h
    go_enter Tryd.func36, Tryd.ntmps36
    go_wp2
    go_ret
    exact ⟨rfl, rfl⟩
  · have b : ((k : Int) == 9) = false := not_beq (by omega)
    rw [if_neg h]
    go_enter Tryd.func36, Tryd.ntmps36
    go_wp2
    go_ret
    exact ⟨rfl, rfl⟩
theorem holes_any (w : World) :
    Calls Tryd.prog 14 #[] w fun e w' => e = .returned (.func (.func 35) #[] #[]) ∧ w = w' := by
  go_enter Tryd.func14, Tryd.ntmps14
  go_wp2
  go_ret
  exact ⟨rfl, rfl⟩
end Go.Proofs.YtjkhgljlipljdaaDoor
