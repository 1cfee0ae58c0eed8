/-
  Symbols as they lie in memory; what each call of the program's find and of the document's find returns. Conditions: how the symbols lie, how many there are.
-/
import Derived.Test.YtjkhgljlipljdaaDoorFixE
namespace Go.Proofs.YtjkhgljlipljdaaDoor
open Go.RowKit
set_option linter.unusedVariables false
set_option linter.unusedSimpArgs false

/-- a slice reads as rows of n cells each, wherever it lies -/
def RowsO (n : Nat) (W : World) (v : Value) (C : List (List Value)) : Prop :=
  ((v = .slice none 0 0 ∨ ∃ a c, v = .slice (some a) 0 c) ∧ C = []) ∨ ∃ g off cap, v = .slice (some ⟨g, off, none⟩) C.length cap ∧ C.length ≤ cap ∧ cap ≤ maxLen ∧ g < W.heap.size ∧
    ∀ (k : Nat) x, C[k]? = some x → ∀ (j : Nat) y, x[j]? = some y → W.cell? ⟨g, off + k * n + j, none⟩ = some y
theorem RowsO.keep {n : Nat} {W W' : World} {v : Value} {C : List (List Value)} (h : RowsO n W v C) (hb : Below W.heap.size W W') : RowsO n W' v C := by
  rcases h with h | ⟨g, off, cap, h1, hc, hcm, h2, h3⟩
  · exact .inl h
  · exact .inr ⟨g, off, cap, h1, hc, hcm, Nat.lt_of_lt_of_le h2 hb.size, fun k x hx j y hy => (hb.cell (p := ⟨g, off + k * n + j, none⟩) h2).trans (h3 k x hx j y hy)⟩
theorem RowsO.slice {n : Nat} {W : World} {v : Value} {C : List (List Value)} (h : RowsO n W v C) : ∃ a c, v = .slice a C.length c := by
  rcases h with ⟨h | ⟨a, c, h⟩, h0⟩ | ⟨g, off, cap, h, _⟩
  · exact ⟨_, _, by rw [h0]; exact h⟩
  · exact ⟨_, _, by rw [h0]; exact h⟩
  · exact ⟨_, _, h⟩
theorem RowsO.len {n : Nat} {W : World} {v : Value} {C : List (List Value)} (h : RowsO n W v C) : C.length ≤ maxLen := by
  rcases h with ⟨_, h0⟩ | ⟨g, off, cap, _, h1, h2, _⟩
  · rw [h0]; exact Nat.zero_le _
  · omega
theorem RowsO.at {n : Nat} {W : World} {v : Value} {C : List (List Value)} (h : RowsO n W v C) {k : Nat} {x : List Value} (hx : C[k]? = some x) :
    ∃ g off cap, v = .slice (some ⟨g, off, none⟩) C.length cap ∧ g < W.heap.size ∧ ∀ (j : Nat) y, x[j]? = some y → W.cell? ⟨g, off + k * n + j, none⟩ = some y := by
  rcases h with ⟨_, h0⟩ | ⟨g, off, cap, h, _, _, hg, hc⟩
  · rw [h0] at hx; cases hx
  · exact ⟨g, off, cap, h, hg, hc k x hx⟩
/-- a symbol -/
structure Sy where
  name : BA
  sec : Int
  val : Int
  gl : Bool
def syC (y : Sy) : List Value := [.string y.name, .int .i64 y.sec, .int .i64 y.val, .bool y.gl]
def SymsO (W : World) (v : Value) (L : List Sy) : Prop := RowsO 4 W v (L.map syC)
theorem SymsO.keep {W W' : World} {v : Value} {L : List Sy} (h : SymsO W v L) (hb : Below W.heap.size W W') : SymsO W' v L := RowsO.keep h hb
theorem SymsO.slice {W : World} {v : Value} {L : List Sy} (h : SymsO W v L) : ∃ a c, v = .slice a L.length c := by
  obtain ⟨a, c, e⟩ := RowsO.slice h; exact ⟨a, c, by rw [e, List.length_map]⟩
theorem SymsO.len {W : World} {v : Value} {L : List Sy} (h : SymsO W v L) : L.length ≤ maxLen := by have := RowsO.len h; rwa [List.length_map] at this
theorem SymsO.at {W : World} {v : Value} {L : List Sy} (h : SymsO W v L) {k : Nat} (hk : k < L.length) : ∃ g off cap y, L[k]? = some y ∧ v = .slice (some ⟨g, off, none⟩) L.length cap ∧ g < W.heap.size ∧
    W.cell? ⟨g, off + k * 4, none⟩ = some (.string y.name) ∧ W.cell? ⟨g, off + k * 4 + 1, none⟩ = some (.int .i64 y.sec) ∧ W.cell? ⟨g, off + k * 4 + 2, none⟩ = some (.int .i64 y.val) ∧ W.cell? ⟨g, off + k * 4 + 3, none⟩ = some (.bool y.gl) := by
  obtain ⟨s, hs⟩ : ∃ s, L[k]? = some s := ⟨_, List.getElem?_eq_getElem hk⟩
  obtain ⟨g, off, cap, e, hg, hc⟩ := RowsO.at h (k := k) (x := syC s) (by rw [List.getElem?_map, hs]; rfl)
  exact ⟨g, off, cap, s, hs, by rw [e, List.length_map], hg, hc 0 _ rfl, hc 1 _ rfl, hc 2 _ rfl, hc 3 _ rfl⟩

/-- what a name in a value is -/
structure Pt where
  is : Bool
  sec : Int
  val : Int
  num : Int
deriving DecidableEq
def pt0 : Pt := ⟨false, 0, 0, 0⟩
def ptV (p : Pt) : Value := .agg #[.bool p.is, .int .i64 p.sec, .int .i64 p.val, .int .i64 p.num]
/-- the document's order of a name's parts -/
def teV (p : Pt) : Value := .agg #[.bool p.is, .int .i64 p.num, .int .i64 p.sec, .int .i64 p.val]
/-- the first symbol that has a name, from a number on -/
def lookF (nm : BA) : Nat → List Sy → Option (Nat × Sy)
  | _, [] => none
  | i, y :: L => if y.name = nm then some (i, y) else lookF nm (i + 1) L
def dotB : BA := ⟨#[46]⟩
def hitP : Option (Nat × Sy) → Option Pt
  | some (i, y) => some ⟨true, y.sec, y.val, (i : Int)⟩
  | none => none
def findP (sec off : Int) (L : List Sy) (nm : BA) : Option Pt :=
  if nm = ⟨#[]⟩ then some pt0 else if nm = dotB then some ⟨true, sec, off, -1⟩ else hitP (lookF nm 0 L)
def foundP (o : Option Pt) : Pt := o.getD pt0
def foundE (o : Option Pt) : Int := if o.isSome = true then 0 else 4
theorem lookF_step {nm : BA} {L : List Sy} {k : Nat} {y : Sy} (hk : L[k]? = some y) (hn : y.name ≠ nm) (h : lookF nm k (L.drop k) = lookF nm 0 L) : lookF nm (k + 1) (L.drop (k + 1)) = lookF nm 0 L := by
  have hlt : k < L.length := (List.getElem?_eq_some_iff.1 hk).1
  have e : L.drop k = y :: L.drop (k + 1) := by
    rw [List.drop_eq_getElem_cons hlt]
    congr 1
    rw [List.getElem?_eq_getElem hlt] at hk
    exact Option.some.inj hk
  rw [e, lookF, if_neg hn] at h
  exact h
theorem lookF_hit {nm : BA} {L : List Sy} {k : Nat} {y : Sy} (hk : L[k]? = some y) (hn : y.name = nm) (h : lookF nm k (L.drop k) = lookF nm 0 L) : lookF nm 0 L = some (k, y) := by
  have hlt : k < L.length := (List.getElem?_eq_some_iff.1 hk).1
  have e : L.drop k = y :: L.drop (k + 1) := by
    rw [List.drop_eq_getElem_cons hlt]
    congr 1
    rw [List.getElem?_eq_getElem hlt] at hk
    exact Option.some.inj hk
  rw [e, lookF, if_pos hn] at h
  exact h.symm
theorem four {W : World} {B : Nat} {T : TypeId} {v0 v1 v2 v3 : Value} (h : W.heap[B]? = some (.cells #[v0, v1, v2, v3] T (0, 0))) :
    (∀ o, W.frozen? ⟨B, o, none⟩ = false) ∧ W.cell? ⟨B, 0, none⟩ = some v0 ∧ W.cell? ⟨B, 1, none⟩ = some v1 ∧ W.cell? ⟨B, 2, none⟩ = some v2 ∧ W.cell? ⟨B, 3, none⟩ = some v3 :=
  ⟨fun o => Lib.frozen_of_heap h o, Lib.cell_of_heap h 0, Lib.cell_of_heap h 1, Lib.cell_of_heap h 2, Lib.cell_of_heap h 3⟩
theorem three {W : World} {B : Nat} {T : TypeId} {v0 v1 v2 : Value} (h : W.heap[B]? = some (.cells #[v0, v1, v2] T (0, 0))) :
    (∀ o, W.frozen? ⟨B, o, none⟩ = false) ∧ W.cell? ⟨B, 0, none⟩ = some v0 ∧ W.cell? ⟨B, 1, none⟩ = some v1 ∧ W.cell? ⟨B, 2, none⟩ = some v2 :=
  ⟨fun o => Lib.frozen_of_heap h o, Lib.cell_of_heap h 0, Lib.cell_of_heap h 1, Lib.cell_of_heap h 2⟩

set_option maxHeartbeats 4000000 in
theorem find_any (sec off : Int) (sv : Value) (L : List Sy) (nm : BA) (w : World) (hS : SymsO w sv L) :
    Calls Tryd.prog 39 #[.agg #[.int .i64 sec, .int .i64 off, sv], .string nm] w fun e w' => e = .returned (.tuple #[ptV (foundP (findP sec off L nm)), .int .i64 (foundE (findP sec off L nm))]) ∧ Below w.heap.size w w' := by
  obtain ⟨sa, sc, rfl⟩ := hS.slice
  have hlm := hS.len
  unfold maxLen at hlm
  unfold findP
  by_cases h0 : nm = ⟨#[]⟩
  · subst h0
    rw [if_pos rfl]
    unfold foundP foundE ptV pt0
    simp only [Option.getD_some, Option.isSome_some, if_true]
    clear hS
    go_enter Tryd.func39, Tryd.ntmps39
    go_wp2_with fail
    go_returns
    exact ⟨rfl, below2 w _ _⟩
  rw [if_neg h0]
  by_cases h1 : nm = dotB
  · subst h1
    rw [if_pos rfl]
    unfold foundP foundE ptV
    simp only [Option.getD_some, Option.isSome_some, if_true]
    clear hS
    unfold dotB at *
    go_enter Tryd.func39, Tryd.ntmps39
    go_wp2_with fail
    go_returns
    exact ⟨rfl, below2 w _ _⟩
  rw [if_neg h1]
  have b0 : (nm.toList == []) = false := by have := str_no (t := ⟨#[]⟩) h0; rw [ByteArray.toList_eq ⟨#[]⟩] at this; exact this
  have b1 : (nm.toList == [46]) = false := by have := str_no (t := ⟨#[46]⟩) h1; rw [ByteArray.toList_eq ⟨#[46]⟩] at this; exact this
  obtain ⟨R, hR⟩ : ∃ R, hitP (lookF nm 0 L) = R := ⟨_, rfl⟩
  rw [hR]
  have HRR := Lib.hid hR
  clear hR
  have HS := Lib.hid (fun W (hb : Below w.heap.size w W) => hS.keep hb)
  clear h0 h1 hS
  go_enter Tryd.func39, Tryd.ntmps39
  go_wp2_with fail
  have hB0 := below2 w (.cells #[.int .i64 sec, .int .i64 off, .slice sa L.length sc] 78) (.cells #[.bool false, .int .i64 0, .int .i64 0, .int .i64 0] 80)
  have g1 := heap_new21 w (.cells #[.int .i64 sec, .int .i64 off, .slice sa L.length sc] 78) (.cells #[.bool false, .int .i64 0, .int .i64 0, .int .i64 0] 80)
  have g2 := heap_new2 w (.cells #[.int .i64 sec, .int .i64 off, .slice sa L.length sc] 78) (.cells #[.bool false, .int .i64 0, .int .i64 0, .int .i64 0] 80)
  generalize ((w.alloc (.cells #[.int .i64 sec, .int .i64 off, .slice sa L.length sc] 78)).alloc (.cells #[.bool false, .int .i64 0, .int .i64 0, .int .i64 0] 80)) = W0 at *
  obtain ⟨_, c0, c1, c2⟩ := three g1
  obtain ⟨f0, d0, d1, d2, d3⟩ := four g2
  have HB := Lib.hid hB0
  have hz := heap_lt g2
  clear hB0 g1 g2
  go_wp2_with fail
  go_loopw [22] (fun iv wr => ∃ k : Nat, k ≤ L.length ∧ iv = .int .i64 (k : Int) ∧ wr = W0 ∧ Hid (lookF nm k (L.drop k) = lookF nm 0 L)) (fun iv _ => L.length - (intOf iv).toNat)
  case atStart => exact ⟨0, Nat.zero_le _, rfl, rfl, Lib.hid rfl⟩
  case round =>
    obtain ⟨k, hk, rfl, rfl, HK⟩ := hrel
    by_cases hlt : (k : Int) < (L.length : Int)
    · have hlt' : k < L.length := by omega
      obtain ⟨g, off2, cap, y, hy, hv, hg, x0, x1, x2, x3⟩ := (HS.out _ HB.out).at hlt'
      cases hv
      have w9 : IntKind.i64.wrap ((k : Int) + 1) = ((k + 1 : Nat) : Int) := by rw [IntWalk.i64_in _ (by omega)]; omega
      have q0 : (0 : Int) ≤ (k : Int) := by omega
      by_cases hn : y.name = nm
      · have e : (y.name.toList == nm.toList) = true := by rw [hn]; exact str_yes nm
        have HIT := Lib.hid (show R = some (Pt.mk true y.sec y.val (k : Int)) by rw [← HRR.out, lookF_hit hy hn HK.out]; rfl)
        clear hn hy
        obtain ⟨yn, ys, yv, yg⟩ := y
        simp only at x0 x1 x2 x3 e HIT
        go_wp2_with fail
        go_region
        all_goals
          go_wp2_with fail
          refine bodyPost_ret (by simp [results, Tryd.results39, go_sem, d0, d1, d2, d3]; try rfl) rfl ?_
          refine ⟨by rw [HIT.out]; rfl, ?_⟩
          have hw := HB.out
          refine Below.drew ?_
          iterate 4 (refine Below.setCell ?_ (by dsimp only; omega) _)
          exact hw
      · have e := str_no hn
        have HN := Lib.hid (lookF_step hy hn HK.out)
        obtain ⟨yn, ys, yv, yg⟩ := y
        simp only at x0 x1 x2 x3 e
        clear hn hy
        go_wp2_with fail
        go_roundw
        case rel => exact ⟨k + 1, by omega, by first | rfl | rw [← w9], by trivial, HN⟩
        case measure => simp [intOf]; omega
    · have hN := Lib.hid (show R = none by rw [← HRR.out, ← HK.out, List.drop_eq_nil_of_le (by omega)]; rfl)
      go_wp2_with fail
      refine bodyPost_ret (by simp [results, Tryd.results39, go_sem, d0, d1, d2, d3]; try rfl) rfl ?_
      refine ⟨by rw [hN.out]; rfl, ?_⟩
      have hw := HB.out
      iterate 4 (refine Below.setCell ?_ (by dsimp only; omega) _)
      exact hw
end Go.Proofs.YtjkhgljlipljdaaDoor
