/-
  Clone, copied, negative, Neg, IsSym: what each call returns. Conditions: the sizes that each lemma states.
-/
import Derived.Test.YtdkflmpdelfgoaaGreatDoorLexL
import Derived.Test.YtdkflmpdelfgoaaGreatDoorLexA
import Derived.Deep.RegionHeld3
import Derived.IntWalk
namespace Go.Proofs.YtdkflmpdelfgoaaGreatDoor
open Go.RowKit Go.Shelf
set_option linter.unusedVariables false
attribute [local go_sem] Oper.semAt_some

theorem e_clone_any (s : ByteArray) (w : World) (hs : s.size ≤ 281474976710656) :
    Calls Tryz.prog 45 #[.string s] w fun e w' => e = .returned (.string s) ∧ Below w.heap.size w w' := by
  have C := Lib.hid (Tryz.stringslite_Clone s w hs)
  clear hs
  go_enter Tryz.func45, Tryz.ntmps45
  go_wp2_with fail
  refine C.out.mono ?_
  rintro e w1 ⟨rfl, hb⟩
  have HB := Lib.hid hb
  clear hb
  go_wp2_with fail
  go_ret
  exact ⟨rfl, HB.out⟩
theorem cell_kept {W W' : World} (hb : Below W.heap.size W W') {a : Addr} {v : Value} (h : W.cell? a = some v) : W'.cell? a = some v := (hb.cell (World.block_lt_of_cell? W a h)).trans h
/-- the cells of a block of three just made -/
theorem cell_three_new (w : World) (t : TypeId) (x y z : Value) : ((w.alloc (.cells #[x, y, z] t)).cell? ⟨w.heap.size, 0, none⟩ = some x ∧ (w.alloc (.cells #[x, y, z] t)).cell? ⟨w.heap.size, 1, none⟩ = some y ∧ (w.alloc (.cells #[x, y, z] t)).cell? ⟨w.heap.size, 2, none⟩ = some z) := by
  refine ⟨?_, ?_, ?_⟩ <;> (rw [World.cell?_alloc_new]; rfl)
theorem val_set {W : World} {B : Nat} {T : TypeId} {z : Nat × Nat} {a b c : Value} (h : W.heap[B]? = some (.cells #[a, b, c] T z)) (x0 x1 x2 : Value) :
    (((W.setCell ⟨B, 0, none⟩ x0).setCell ⟨B, 1, none⟩ x1).setCell ⟨B, 2, none⟩ x2).heap[B]? = some (.cells #[x0, x1, x2] T z) := by
  simp only [World.setCell, Array.getElem?_modify, if_true, h, Option.map_some]
  rfl
theorem val_cells {W : World} {B : Nat} {T : TypeId} {z : Nat × Nat} {x0 x1 x2 : Value} (h : W.heap[B]? = some (.cells #[x0, x1, x2] T z)) :
    W.cell? ⟨B, 0, none⟩ = some x0 ∧ W.cell? ⟨B, 1, none⟩ = some x1 ∧ W.cell? ⟨B, 2, none⟩ = some x2 :=
  ⟨by rw [Lib.cell_of_heap h]; rfl, by rw [Lib.cell_of_heap h]; rfl, by rw [Lib.cell_of_heap h]; rfl⟩
theorem below_val {n B : Nat} {w W : World} (h : Below n w W) (hB : n ≤ B) (x0 x1 x2 : Value) : Below n w (((W.setCell ⟨B, 0, none⟩ x0).setCell ⟨B, 1, none⟩ x1).setCell ⟨B, 2, none⟩ x2) :=
  ((h.setCell (p := ⟨B, 0, none⟩) hB x0).setCell (p := ⟨B, 1, none⟩) hB x1).setCell (p := ⟨B, 2, none⟩) hB x2
theorem block_kept {W W' : World} (hb : Below W.heap.size W W') {b : Nat} {o : Obj} (h : W.heap[b]? = some o) : W'.heap[b]? = some o := (hb.block b (Array.getElem?_eq_some_iff.1 h).1).trans h
/-- two new blocks, one behind the other -/
theorem two_new (w : World) (o1 o2 : Obj) : ((w.alloc o1).alloc o2).heap[w.heap.size]? = some o1 ∧ ((w.alloc o1).alloc o2).heap[w.heap.size + 1]? = some o2 ∧ Below w.heap.size w ((w.alloc o1).alloc o2) ∧ ((w.alloc o1).alloc o2).heap.size = w.heap.size + 2 := by
  have hz : (w.alloc o1).heap.size = w.heap.size + 1 := by simp
  refine ⟨?_, ?_, ((Below.refl _ w).alloc (Nat.le_refl _) _).alloc (by simp) _, by simp⟩
  · rw [Below.heap_alloc _ _ _ (by omega)]; exact heap_alloc_new w _
  · rw [← hz]; exact heap_alloc_new _ _
theorem far3 {W : World} {B b : Nat} (hne : B ≠ b) {x0 x1 x2 v0 v1 v2 : Value} (h : W.cell? ⟨b, 0, none⟩ = some v0 ∧ W.cell? ⟨b, 1, none⟩ = some v1 ∧ W.cell? ⟨b, 2, none⟩ = some v2) :
    (((W.setCell ⟨B, 0, none⟩ x0).setCell ⟨B, 1, none⟩ x1).setCell ⟨B, 2, none⟩ x2).cell? ⟨b, 0, none⟩ = some v0 ∧ (((W.setCell ⟨B, 0, none⟩ x0).setCell ⟨B, 1, none⟩ x1).setCell ⟨B, 2, none⟩ x2).cell? ⟨b, 1, none⟩ = some v1 ∧ (((W.setCell ⟨B, 0, none⟩ x0).setCell ⟨B, 1, none⟩ x1).setCell ⟨B, 2, none⟩ x2).cell? ⟨b, 2, none⟩ = some v2 := by
  have k : ∀ (V : World) (o j : Nat) (x : Value), (V.setCell ⟨B, o, none⟩ x).cell? ⟨b, j, none⟩ = V.cell? ⟨b, j, none⟩ := fun V o j x => World.cell?_setCell_far _ _ _ _ hne
  simp only [k]
  exact h
theorem fz_of {W : World} {B : Nat} {cs : Array Value} {T : TypeId} (h : W.heap[B]? = some (.cells cs T (0, 0))) (j : Nat) : W.frozen? ⟨B, j, none⟩ = false := Lib.frozen_of_heap h j
set_option maxRecDepth 100000 in
set_option maxHeartbeats 8000000 in
theorem e_copied_any (n : Int) (p m : ByteArray) (w : World) (hp : p.size ≤ 281474976710656) (hm : m.size ≤ 281474976710656) :
    Calls Tryz.prog 27 #[.agg #[.int .i64 n, .string p, .string m]] w fun e w' => e = .returned (.agg #[.int .i64 n, .string p, .string m]) ∧ Below w.heap.size w w' := by
  have CP := Lib.hid (fun V => e_clone_any p V hp)
  have CM := Lib.hid (fun V => e_clone_any m V hm)
  clear hp hm
  go_enter Tryz.func27, Tryz.ntmps27
  go_wp2_with fail
  obtain ⟨n1, n2, n3, n4⟩ := two_new w (.cells #[.int .i64 n, .string p, .string m] 36) (.cells #[.int .i64 0, .string ⟨#[]⟩, .string ⟨#[]⟩] 36)
  generalize (w.alloc (.cells #[.int .i64 n, .string p, .string m] 36)).alloc (.cells #[.int .i64 0, .string ⟨#[]⟩, .string ⟨#[]⟩] 36) = W0 at *
  have S0 := val_cells n1
  have HN2 := Lib.hid n2
  have HB0 := Lib.hid n3
  have hne : w.heap.size + 1 ≠ w.heap.size := by omega
  clear n1 n2 n3 n4
  go_region_held3 (fun w' => w'.cell? ⟨w.heap.size, 0, none⟩ = some (.int .i64 n) ∧ w'.cell? ⟨w.heap.size, 1, none⟩ = some (.string p) ∧ w'.cell? ⟨w.heap.size, 2, none⟩ = some (.string m)) (first | exact S0 | exact S1 | exact S2 | exact far3 hne S2) (first
    | (go_at_call_of 45 (Value.string p); refine (CP.out _).mono ?_; rintro e w1 ⟨rfl, hb1⟩; have HB1 := Lib.hid (Below.thn HB0.out.drew HB0.out.size hb1); have HN1 := Lib.hid (block_kept hb1 (show W0.drew.heap[_]? = _ from HN2.out)); have S1 := (show w1.cell? _ = _ ∧ w1.cell? _ = _ ∧ w1.cell? _ = _ from ⟨cell_kept hb1 S0.1, cell_kept hb1 S0.2.1, cell_kept hb1 S0.2.2⟩); clear hb1)
    | (go_at_call_of 45 (Value.string m); refine (CM.out _).mono ?_; rintro e w2 ⟨rfl, hb2⟩; have HB2 := Lib.hid (Below.thn HB1.out HB1.out.size hb2); have n2 := block_kept hb2 HN1.out; have HN := Lib.hid n2; obtain ⟨z0, z1, z2⟩ := val_cells n2; have fz := fz_of n2; have S2 := (show w2.cell? _ = _ ∧ w2.cell? _ = _ ∧ w2.cell? _ = _ from ⟨cell_kept hb2 S1.1, cell_kept hb2 S1.2.1, cell_kept hb2 S1.2.2⟩); clear hb2 n2))
  all_goals
    go_wp2_with fail
    obtain ⟨e0, e1, e2⟩ := val_cells (val_set HN.out (.int .i64 n) (.string p) (.string m))
    exact bodyPost_ret (v := .agg #[.int .i64 n, .string p, .string m]) (by simp [results, Tryz.results27, go_sem, e0, e1, e2]) rfl ⟨rfl, below_val HB2.out (by omega) _ _ _⟩
set_option maxRecDepth 100000 in
set_option maxHeartbeats 4000000 in
theorem negative_any (n : Int) (p m : ByteArray) (w : World) :
    Calls Tryz.prog 41 #[.agg #[.int .i64 n, .string p, .string m]] w fun e w' => e = .returned (.agg #[.int .i64 (wrap64 (-n)), .string m, .string p]) ∧ Below w.heap.size w w' := by
  go_enter Tryz.func41, Tryz.ntmps41
  go_wp2_with fail
  obtain ⟨n1, n2, n3, n4⟩ := two_new w (.cells #[.int .i64 n, .string p, .string m] 36) (.cells #[.int .i64 (wrap64 (-n)), .string m, .string p] 36)
  obtain ⟨e0, e1, e2⟩ := val_cells n2
  exact bodyPost_ret (v := .agg #[.int .i64 (wrap64 (-n)), .string m, .string p]) (by simp [results, Tryz.results41, go_sem, e0, e1, e2]) rfl ⟨rfl, n3⟩
def symB (s : Bs) : Bool := decide (s.length ≤ 512) && nameB s
set_option maxHeartbeats 2000000 in
theorem isSym_any (s : ByteArray) (w : World) (hs : s.size ≤ maxLen) :
    Calls Tryz.prog 38 #[.string s] w fun e w' => e = .returned (.bool (symB s.data.toList)) ∧ w = w' := by
  have N := Lib.hid (fun V => name_any s V hs)
  unfold symB
  rw [← size_list]
  by_cases h : s.size ≤ 512
  · have h' : (s.size : Int) ≤ 512 := by omega
    rw [decide_eq_true h]
    generalize nameB s.data.toList = z at *
    clear hs
    go_enter Tryz.func38, Tryz.ntmps38
    go_wp2_with fail
    refine (N.out _).mono ?_
    rintro e w1 ⟨rfl, rfl⟩
    cases z
    all_goals
      go_wp2_with fail
      go_ret
      exact ⟨rfl, rfl⟩
  · have h' : ¬ ((s.size : Int) ≤ 512) := by omega
    rw [decide_eq_false h]
    clear hs
    go_enter Tryz.func38, Tryz.ntmps38
    go_wp2_with fail
    go_ret
    exact ⟨rfl, rfl⟩
end Go.Proofs.YtdkflmpdelfgoaaGreatDoor
