/-
  How items lie in memory, and what each call of the small functions on one item returns. No conditions beyond those that each lemma states.
-/
import Derived.Test.YtccmfhhdpdbabaaRows
import Derived.WalkKit
import Derived.ProofKit
import Derived.WalkLawsBesides
import Derived.WalkSpells
import Derived.Laws.ShiftsVar
import Derived.Laws.BitsAllLaws
import Derived.Laws.BitsLemmas
import Derived.Deep.RegionWith
import Derived.Deep.RegionHeld3
import Derived.Deep.QuietTactic
import Derived.BigQuiet
import Derived.Lib.Hide
namespace Go.Proofs.Ytccmfhhdpdbabaa
open Go.RowKit
set_option linter.unusedVariables false
set_option linter.unusedSimpArgs false
theorem Below.thn {B : Nat} {w W w1 : World} (h : Below B w W) (hB : B ≤ W.heap.size) (k : Below W.heap.size W w1) : Below B w w1 := h.trans (k.mono hB)
theorem bcell {W w1 : World} (hb : Below W.heap.size W w1) : (∀ b o, b < W.heap.size → w1.cell? ⟨b, o, none⟩ = W.cell? ⟨b, o, none⟩) ∧ (∀ b o, b < W.heap.size → w1.frozen? ⟨b, o, none⟩ = W.frozen? ⟨b, o, none⟩) :=
  ⟨fun b o h => hb.cell (p := ⟨b, o, none⟩) h, fun b o h => hb.frozen (p := ⟨b, o, none⟩) h⟩
theorem ret1 {k : IntKind} {a b : Int} (h : a = b) : Ending.returned (.int k a) = .returned (.int k b) := by rw [h]
theorem ret1b {a b : Bool} (h : a = b) : Ending.returned (.bool a) = .returned (.bool b) := by rw [h]
theorem quiet_eq {P : Program} {f : FuncId} {args : Array Value} {w : World} {n : Nat} {v : Value} (h : Calls P f args (w.drewN n) fun e w' => e = .returned v ∧ w.drewN n = w') :
    Calls P f args (w.drewN n) fun e w'' => e = .returned v ∧ ∃ m, w'' = w.drewN m := Calls.quiet_of_same (h.mono fun _ _ ⟨a, b⟩ => ⟨a, b.symm⟩)
theorem below_drewN {B : Nat} {w w' : World} (h : Below B w w') (n : Nat) : Below B w (w'.drewN n) := by
  induction n with
  | zero => exact h
  | succ n ih => exact ih.drew
theorem below1 (w : World) (o : Obj) : Below w.heap.size w (w.alloc o) := (Below.refl _ w).alloc (Nat.le_refl _) o
theorem cells_new (w : World) (cs : Array Value) (T : TypeId) (j : Nat) (v : Value) (h : cs[j]? = some v) : (w.alloc (.cells cs T)).cell? ⟨w.heap.size, j, none⟩ = some v := by
  rw [World.cell?_alloc_new]; exact h

/-- a slice reads as rows of n cells each, wherever it lies -/
def RowsO (n : Nat) (W : World) (v : Value) (C : List (List Value)) : Prop :=
  ((v = .slice none 0 0 ∨ ∃ a c, v = .slice (some a) 0 c) ∧ C = []) ∨ ∃ g off cap, v = .slice (some ⟨g, off, none⟩) C.length cap ∧ C.length ≤ cap ∧ cap ≤ maxLen ∧ g < W.heap.size ∧
    ∀ (k : Nat) x, C[k]? = some x → ∀ (j : Nat) y, x[j]? = some y → W.cell? ⟨g, off + k * n + j, none⟩ = some y
theorem RowsO.keep {n : Nat} {W W' : World} {v : Value} {C : List (List Value)} (h : RowsO n W v C) (hb : Below W.heap.size W W') : RowsO n W' v C := by
  rcases h with h | ⟨g, off, cap, h1, hc, hcm, h2, h3⟩
  · exact .inl h
  · exact .inr ⟨g, off, cap, h1, hc, hcm, Nat.lt_of_lt_of_le h2 hb.size, fun k x hx j y hy => (hb.cell (p := ⟨g, off + k * n + j, none⟩) h2).trans (h3 k x hx j y hy)⟩
theorem RowsO.slice {n : Nat} {W : World} {v : Value} {C : List (List Value)} (h : RowsO n W v C) : ∃ a c, v = .slice a C.length c := by
  rcases h with ⟨h | ⟨a, c, h⟩, h0⟩ | ⟨g, off, cap, h, _⟩
  · exact ⟨_, _, by rw [h0]; exact h⟩
  · exact ⟨_, _, by rw [h0]; exact h⟩
  · exact ⟨_, _, h⟩
theorem RowsO.len {n : Nat} {W : World} {v : Value} {C : List (List Value)} (h : RowsO n W v C) : C.length ≤ maxLen := by
  rcases h with ⟨_, h0⟩ | ⟨g, off, cap, _, h1, h2, _⟩
  · rw [h0]; exact Nat.zero_le _
  · omega
theorem RowsO.at {n : Nat} {W : World} {v : Value} {C : List (List Value)} (h : RowsO n W v C) {k : Nat} {x : List Value} (hx : C[k]? = some x) :
    ∃ g off cap, v = .slice (some ⟨g, off, none⟩) C.length cap ∧ g < W.heap.size ∧ ∀ (j : Nat) y, x[j]? = some y → W.cell? ⟨g, off + k * n + j, none⟩ = some y := by
  rcases h with ⟨_, h0⟩ | ⟨g, off, cap, h, _, _, hg, hc⟩
  · rw [h0] at hx; cases hx
  · exact ⟨g, off, cap, h, hg, hc k x hx⟩

/-- an item -/
structure It where
  k : Int
  s : Int
  a : Int
  t : Int
  d : Int
  lo : Int
  hi : Int
deriving DecidableEq
instance : Inhabited It := ⟨⟨0, 0, 0, 0, 0, 0, 0⟩⟩
def itC (x : It) : List Value := [.int .i64 x.k, .int .i64 x.s, .int .i64 x.a, .int .i64 x.t, .int .i64 x.d, .int .i64 x.lo, .int .i64 x.hi]
def itV (x : It) : Value := .agg #[.int .i64 x.k, .int .i64 x.s, .int .i64 x.a, .int .i64 x.t, .int .i64 x.d, .int .i64 x.lo, .int .i64 x.hi]
def boC (b : Bool) : List Value := [.bool b]
def nuC (b : Int) : List Value := [.int .i64 b]
def ItsO (W : World) (v : Value) (L : List It) : Prop := RowsO 7 W v (L.map itC)
def BosO (W : World) (v : Value) (L : List Bool) : Prop := RowsO 1 W v (L.map boC)
def NusO (W : World) (v : Value) (L : List Int) : Prop := RowsO 1 W v (L.map nuC)
theorem ItsO.keep {W W' : World} {v : Value} {L : List It} (h : ItsO W v L) (hb : Below W.heap.size W W') : ItsO W' v L := RowsO.keep h hb
theorem BosO.keep {W W' : World} {v : Value} {L : List Bool} (h : BosO W v L) (hb : Below W.heap.size W W') : BosO W' v L := RowsO.keep h hb
theorem NusO.keep {W W' : World} {v : Value} {L : List Int} (h : NusO W v L) (hb : Below W.heap.size W W') : NusO W' v L := RowsO.keep h hb
theorem ItsO.slice {W : World} {v : Value} {L : List It} (h : ItsO W v L) : ∃ a c, v = .slice a L.length c := by
  obtain ⟨a, c, e⟩ := RowsO.slice h; exact ⟨a, c, by rw [e, List.length_map]⟩
theorem BosO.slice {W : World} {v : Value} {L : List Bool} (h : BosO W v L) : ∃ a c, v = .slice a L.length c := by
  obtain ⟨a, c, e⟩ := RowsO.slice h; exact ⟨a, c, by rw [e, List.length_map]⟩
theorem NusO.slice {W : World} {v : Value} {L : List Int} (h : NusO W v L) : ∃ a c, v = .slice a L.length c := by
  obtain ⟨a, c, e⟩ := RowsO.slice h; exact ⟨a, c, by rw [e, List.length_map]⟩
theorem ItsO.len {W : World} {v : Value} {L : List It} (h : ItsO W v L) : L.length ≤ maxLen := by have := RowsO.len h; rwa [List.length_map] at this
theorem BosO.len {W : World} {v : Value} {L : List Bool} (h : BosO W v L) : L.length ≤ maxLen := by have := RowsO.len h; rwa [List.length_map] at this
theorem NusO.len {W : World} {v : Value} {L : List Int} (h : NusO W v L) : L.length ≤ maxLen := by have := RowsO.len h; rwa [List.length_map] at this
theorem ItsO.at {W : World} {v : Value} {L : List It} (h : ItsO W v L) {k : Nat} (hk : k < L.length) : ∃ g off cap x, L[k]? = some x ∧ v = .slice (some ⟨g, off, none⟩) L.length cap ∧ g < W.heap.size ∧
    W.cell? ⟨g, off + k * 7, none⟩ = some (.int .i64 x.k) ∧ W.cell? ⟨g, off + k * 7 + 1, none⟩ = some (.int .i64 x.s) ∧ W.cell? ⟨g, off + k * 7 + 2, none⟩ = some (.int .i64 x.a) ∧ W.cell? ⟨g, off + k * 7 + 3, none⟩ = some (.int .i64 x.t) ∧ W.cell? ⟨g, off + k * 7 + 4, none⟩ = some (.int .i64 x.d) ∧ W.cell? ⟨g, off + k * 7 + 5, none⟩ = some (.int .i64 x.lo) ∧ W.cell? ⟨g, off + k * 7 + 6, none⟩ = some (.int .i64 x.hi) := by
  obtain ⟨s, hs⟩ : ∃ s, L[k]? = some s := ⟨_, List.getElem?_eq_getElem hk⟩
  obtain ⟨g, off, cap, e, hg, hc⟩ := RowsO.at h (k := k) (x := itC s) (by rw [List.getElem?_map, hs]; rfl)
  exact ⟨g, off, cap, s, hs, by rw [e, List.length_map], hg, hc 0 _ rfl, hc 1 _ rfl, hc 2 _ rfl, hc 3 _ rfl, hc 4 _ rfl, hc 5 _ rfl, hc 6 _ rfl⟩
theorem BosO.at {W : World} {v : Value} {L : List Bool} (h : BosO W v L) {k : Nat} (hk : k < L.length) : ∃ g off cap x, L[k]? = some x ∧ v = .slice (some ⟨g, off, none⟩) L.length cap ∧ g < W.heap.size ∧
    W.cell? ⟨g, off + k, none⟩ = some (.bool x) := by
  obtain ⟨s, hs⟩ : ∃ s, L[k]? = some s := ⟨_, List.getElem?_eq_getElem hk⟩
  obtain ⟨g, off, cap, e, hg, hc⟩ := RowsO.at h (k := k) (x := boC s) (by rw [List.getElem?_map, hs]; rfl)
  exact ⟨g, off, cap, s, hs, by rw [e, List.length_map], hg, by have := hc 0 _ rfl; rwa [Nat.mul_one, Nat.add_zero] at this⟩
theorem NusO.at {W : World} {v : Value} {L : List Int} (h : NusO W v L) {k : Nat} (hk : k < L.length) : ∃ g off cap x, L[k]? = some x ∧ v = .slice (some ⟨g, off, none⟩) L.length cap ∧ g < W.heap.size ∧
    W.cell? ⟨g, off + k, none⟩ = some (.int .i64 x) := by
  obtain ⟨s, hs⟩ : ∃ s, L[k]? = some s := ⟨_, List.getElem?_eq_getElem hk⟩
  obtain ⟨g, off, cap, e, hg, hc⟩ := RowsO.at h (k := k) (x := nuC s) (by rw [List.getElem?_map, hs]; rfl)
  exact ⟨g, off, cap, s, hs, by rw [e, List.length_map], hg, by have := hc 0 _ rfl; rwa [Nat.mul_one, Nat.add_zero] at this⟩

def farB (n : Int) : Bool := decide (-1073741824 ≤ n) && decide (n ≤ 1073741824)
/-- an item may be one of so many -/
def okIt (x : It) (m : Int) : Bool :=
  if x.k = 1 then decide (x.a = 0 ∧ x.t = 0 ∧ x.d = 0 ∧ x.lo = 0 ∧ x.hi = 0) && (decide (0 ≤ x.s) && decide (x.s ≤ 67108864)) else
  if x.k = 2 then decide (x.s = 0 ∧ x.t = 0 ∧ x.d = 0 ∧ x.lo = 0 ∧ x.hi = 0) && (decide (0 ≤ x.a) && decide (x.a ≤ 12)) else
  if x.k = 3 then decide (x.s = 0 ∧ x.a = 0) && (decide (0 ≤ x.t) && (decide (x.t ≤ m) && (farB x.d && (farB x.lo && farB x.hi)))) else false
/-- two to the power of n -/
def powB (n : Int) : Int := 2 ^ n.toNat
/-- how many bytes an item has at most -/
def mostB (x : It) : Int := if x.k = 2 then powB x.a - 1 else if x.k = 3 then 8 else x.s
/-- how many bytes an item has that begins at a place -/
def sizeB (x : It) (at' : Int) (l : Bool) : Int := if x.k = 2 then (-at').emod (powB x.a) else if x.k = 3 then (if l = true then 8 else 4) else x.s

theorem isFar_any (n : Int) (w : World) :
    Calls Try.prog 45 #[.int .i64 n] w fun e w' => e = .returned (.bool (farB n)) ∧ w = w' := by
  unfold farB
  by_cases h : -1073741824 ≤ n
  · rw [decide_eq_true h, Bool.true_and]
    go_enter Try.func45, Try.ntmps45
    go_wp2
    go_ret
    exact ⟨rfl, rfl⟩
  · rw [decide_eq_false h, Bool.false_and]
    go_enter Try.func45, Try.ntmps45
    go_wp2
    go_ret
    exact ⟨rfl, rfl⟩
theorem rwithin_any (n : Int) (w : World) :
    Calls Try.prog 46 #[.int .i64 n] w fun e w' => e = .returned (.bool (farB n)) ∧ w = w' := by
  unfold farB
  by_cases h : -1073741824 ≤ n
  · rw [decide_eq_true h, Bool.true_and]
    go_enter Try.func46, Try.ntmps46
    go_wp2
    go_ret
    exact ⟨rfl, rfl⟩
  · rw [decide_eq_false h, Bool.false_and]
    go_enter Try.func46, Try.ntmps46
    go_wp2
    go_ret
    exact ⟨rfl, rfl⟩
theorem isBranch_any (x : It) (w : World) :
    Calls Try.prog 35 #[itV x] w fun e w' => e = .returned (.bool (x.k == 3)) ∧ Below w.heap.size w w' := by
  unfold itV
  go_enter Try.func35, Try.ntmps35
  go_wp2
  go_ret
  exact ⟨rfl, below1 w _⟩
end Go.Proofs.Ytccmfhhdpdbabaa
