/-
  What each call of the program's shapeOf returns, and of the small methods of a shape. Conditions: what the start left in the two tables (Gd).
-/
import Derived.Test.YtjkhgljlipljdaaDoorFixB
import Derived.Handy
import Derived.Deep.CutRange
import Derived.Deep.DeepCutAuto
namespace Go.Proofs.YtjkhgljlipljdaaDoor
open Go.RowKit
set_option linter.unusedVariables false
set_option linter.unusedSimpArgs false

/-- what shapeOf answers -/
def shR (k s : Int) : Sh := if holeOk k s = true then shOf k s else sh0
theorem kept1 {w w1 : World} {X : Obj} (hb : Below (w.alloc X).heap.size (w.alloc X) w1) : w1.heap[w.heap.size]? = some X ∧ Below w.heap.size w w1 ∧ w.heap.size + 1 ≤ w1.heap.size :=
  ⟨(hb.block w.heap.size (by simp)).trans (heap_alloc_new w X), Below.thn (below1 w _) (by simp) hb, by have := hb.size; simpa using this⟩
theorem heap_new2 (w : World) (X Y : Obj) : ((w.alloc X).alloc Y).heap[w.heap.size + 1]? = some Y := by have := heap_alloc_new (w.alloc X) Y; rwa [show (w.alloc X).heap.size = w.heap.size + 1 by simp] at this
theorem heap_new21 (w : World) (X Y : Obj) : ((w.alloc X).alloc Y).heap[w.heap.size]? = some X := ((below1 (w.alloc X) Y).block _ (by simp)).trans (heap_alloc_new w X)
theorem kept2 {w w1 : World} {X Y : Obj} (hb : Below ((w.alloc X).alloc Y).heap.size ((w.alloc X).alloc Y) w1) : w1.heap[w.heap.size]? = some X ∧ w1.heap[w.heap.size + 1]? = some Y ∧ Below w.heap.size w w1 ∧ w.heap.size + 2 ≤ w1.heap.size :=
  ⟨(hb.block w.heap.size (by simp; omega)).trans (heap_new21 w X Y), (hb.block (w.heap.size + 1) (by simp)).trans (heap_new2 w X Y), Below.thn (below2 w _ _) (by simp; omega) hb, by have := hb.size; simpa using this⟩
theorem five {W : World} {B : Nat} {T : TypeId} {v0 v1 v2 v3 v4 : Value} (h : W.heap[B]? = some (.cells #[v0, v1, v2, v3, v4] T (0, 0))) :
    W.cell? ⟨B, 0, none⟩ = some v0 ∧ W.cell? ⟨B, 1, none⟩ = some v1 ∧ W.cell? ⟨B, 2, none⟩ = some v2 ∧ W.cell? ⟨B, 3, none⟩ = some v3 ∧ W.cell? ⟨B, 4, none⟩ = some v4 :=
  ⟨Lib.cell_of_heap h 0, Lib.cell_of_heap h 1, Lib.cell_of_heap h 2, Lib.cell_of_heap h 3, Lib.cell_of_heap h 4⟩
theorem seven {W : World} {B : Nat} {T : TypeId} {v0 v1 v2 v3 v4 v5 v6 : Value} (h : W.heap[B]? = some (.cells #[v0, v1, v2, v3, v4, v5, v6] T (0, 0))) :
    (∀ o, W.frozen? ⟨B, o, none⟩ = false) ∧ W.cell? ⟨B, 0, none⟩ = some v0 ∧ W.cell? ⟨B, 1, none⟩ = some v1 ∧ W.cell? ⟨B, 2, none⟩ = some v2 ∧ W.cell? ⟨B, 3, none⟩ = some v3 ∧ W.cell? ⟨B, 4, none⟩ = some v4 ∧ W.cell? ⟨B, 5, none⟩ = some v5 ∧ W.cell? ⟨B, 6, none⟩ = some v6 :=
  ⟨fun o => Lib.frozen_of_heap h o, Lib.cell_of_heap h 0, Lib.cell_of_heap h 1, Lib.cell_of_heap h 2, Lib.cell_of_heap h 3, Lib.cell_of_heap h 4, Lib.cell_of_heap h 5, Lib.cell_of_heap h 6⟩
theorem tab_at {W : World} (hG : Gd W) {k : Nat} {y : Sh} (hy : tabL[k]? = some y) :
    W.cell? ⟨0, k * 7, none⟩ = some (.int .i64 y.w) ∧ W.cell? ⟨0, k * 7 + 1, none⟩ = some (.int .i64 y.p) ∧ W.cell? ⟨0, k * 7 + 2, none⟩ = some (.int .i64 y.f) ∧ W.cell? ⟨0, k * 7 + 3, none⟩ = some (.int .i64 y.o) ∧
    W.cell? ⟨0, k * 7 + 4, none⟩ = some (.int .i64 y.l) ∧ W.cell? ⟨0, k * 7 + 5, none⟩ = some (.int .i64 y.m) ∧ W.cell? ⟨0, k * 7 + 6, none⟩ = some (.int .i64 y.t) :=
  ⟨hG.sh k y hy 0 _ rfl, hG.sh k y hy 1 _ rfl, hG.sh k y hy 2 _ rfl, hG.sh k y hy 3 _ rfl, hG.sh k y hy 4 _ rfl, hG.sh k y hy 5 _ rfl, hG.sh k y hy 6 _ rfl⟩
set_option maxRecDepth 100000 in
set_option maxHeartbeats 8000000 in
theorem shapeOf_any (h : Hl) (w : World) (hG : Gd w) :
    Calls Tryd.prog 32 #[hlV h] w fun e w' => e = .returned (.tuple #[shV (shR h.k h.s), .int .i64 (chkI h.k h.s)]) ∧ Below w.heap.size w w' := by
  have CK := Lib.hid (fun W => check_any h W)
  obtain ⟨k, s, a, p, m⟩ := h
  unfold hlV at *
  simp only at CK ⊢
  cases hok : holeOk k s with
  | false =>
    have e1 : chkI k s = 1 := by simp [chkI, hok]
    have e2 : shR k s = sh0 := by simp [shR, hok]
    rw [e1] at CK
    rw [e1, e2]
    unfold shV sh0
    clear e1 e2 hok
    go_enter Tryd.func32, Tryd.ntmps32
    go_wp2_with fail
    refine (CK.out _).mono ?_
    rintro e w1 ⟨rfl, hb1⟩
    obtain ⟨g1, g2, hbw, hz⟩ := kept2 hb1
    obtain ⟨c0, c1, c2, c3, c4⟩ := five g1
    obtain ⟨f0, d0, d1, d2, d3, d4, d5, d6⟩ := seven g2
    have HB1 := Lib.hid hbw
    have HZ := Lib.hid hz
    clear hb1 g1 g2 hbw hz
    go_wp2_with fail
    refine bodyPost_ret (by simp [results, Tryd.results32, go_sem, d0, d1, d2, d3, d4, d5, d6]; try rfl) rfl ?_
    refine ⟨rfl, ?_⟩
    have hw := HB1.out
    iterate 7 (refine Below.setCell ?_ (by dsimp only; omega) _)
    exact hw
  | true =>
    have e1 : chkI k s = 0 := by simp [chkI, hok]
    have e2 : shR k s = shOf k s := by simp [shR, hok]
    rw [e1] at CK
    rw [e1, e2]
    obtain ⟨⟨K, S⟩, hx, rfl, rfl⟩ := holes_all hok
    obtain ⟨y, hy⟩ : ∃ y, tabL[K]? = some y := by
      have : ∀ x ∈ holesL, x.1 < 13 := by decide
      exact ⟨_, List.getElem?_eq_getElem (this _ hx)⟩
    have hk : K < 13 := (show ∀ x ∈ holesL, x.1 < 13 by decide) _ hx
    have hk0 : (0 : Int) ≤ (K : Int) := by omega
    have hk1 : (K : Int) < 13 := by omega
    have HG := Lib.hid (fun W (hb : Below w.heap.size w W) => tab_at (hG.keep hb) hy)
    by_cases h9 : K = 9
    · subst h9
      have hs : S < 4 := (show ∀ x ∈ holesL, x.2 < 4 by decide) _ hx
      have hs0 : (0 : Int) ≤ (S : Int) := by omega
      have hs1 : (S : Int) < 4 := by omega
      obtain ⟨z, hz⟩ : ∃ z, loadsL[S]? = some z := ⟨_, List.getElem?_eq_getElem hs⟩
      have e : shOf ((9 : Nat) : Int) (S : Int) = ⟨y.w, z, y.f, y.o, y.l, y.m, y.t⟩ := by
        have h1 : tabL.getD 9 sh0 = y := by rw [List.getD_eq_getElem?_getD, hy]; rfl
        have h2 : loadsL.getD (S : Int).toNat 0 = z := by rw [Int.toNat_natCast, List.getD_eq_getElem?_getD, hz]; rfl
        unfold shOf
        rw [if_pos (by rfl), h1, h2]
      have HL := Lib.hid (fun W (hb : Below w.heap.size w W) => (hG.keep hb).ld S z hz)
      rw [e]
      clear e1 e2 hok hG e hx hy hz hk hs
      obtain ⟨y0, y1, y2, y3, y4, y5, y6⟩ := y
      unfold shV
      simp only at HG ⊢
      go_enter Tryd.func32, Tryd.ntmps32
      go_wp2_with fail
      refine (CK.out _).mono ?_
      rintro e w1 ⟨rfl, hb1⟩
      obtain ⟨g1, g2, hbw, hz⟩ := kept2 hb1
      obtain ⟨c0, c1, c2, c3, c4⟩ := five g1
      obtain ⟨s0, s1, s2, s3, s4, s5, s6⟩ := HG.out w1 hbw
      have l0 := HL.out w1 hbw
      have zg : 1 < w1.heap.size := World.block_lt_of_cell? w1 _ l0
      have HB1 := Lib.hid hbw
      have HG2 := Lib.hid g2
      have z0 : w.heap.size < w1.heap.size := by omega
      have z1 : w.heap.size + 1 < w1.heap.size := by omega
      have n1 : w1.heap.size ≠ w.heap.size := by omega
      clear hb1 g1 g2 hbw hz
      go_upto_region 7 with fail
      have HW := Lib.hid (show (w1.alloc (.cells #[.int .i64 y0, .int .i64 z, .int .i64 y2, .int .i64 y3, .int .i64 y4, .int .i64 y5, .int .i64 y6] 71)).heap[w.heap.size + 1]? = _ ∧ Below w.heap.size w (w1.alloc (.cells #[.int .i64 y0, .int .i64 z, .int .i64 y2, .int .i64 y3, .int .i64 y4, .int .i64 y5, .int .i64 y6] 71)) ∧ _ from
        ⟨((below1 w1 _).block _ z1).trans HG2.out, HB1.out.alloc HB1.out.size _, heap_alloc_new w1 (.cells #[.int .i64 y0, .int .i64 z, .int .i64 y2, .int .i64 y3, .int .i64 y4, .int .i64 y5, .int .i64 y6] 71)⟩)
      generalize (w1.alloc (.cells #[.int .i64 y0, .int .i64 z, .int .i64 y2, .int .i64 y3, .int .i64 y4, .int .i64 y5, .int .i64 y6] 71)) = W2 at *
      obtain ⟨f0, d0, d1, d2, d3, d4, d5, d6⟩ := seven HW.out.1
      obtain ⟨_, b0, b1, b2, b3, b4, b5, b6⟩ := seven HW.out.2.2
      go_wp2_with fail
      refine bodyPost_ret (by simp [results, Tryd.results32, go_sem, d0, d1, d2, d3, d4, d5, d6]; try rfl) rfl ?_
      refine ⟨rfl, ?_⟩
      have hw := HW.out.2.1
      iterate 7 (refine Below.setCell ?_ (by dsimp only; omega) _)
      exact hw
    · have e : shOf (K : Int) (S : Int) = y := by
        unfold shOf
        rw [if_neg (by omega), Int.toNat_natCast, List.getD_eq_getElem?_getD, hy]; rfl
      have b9 : ((K : Int) == 9) = false := not_beq (by omega)
      rw [e]
      clear e1 e2 hok hG e hx hy hk h9
      obtain ⟨y0, y1, y2, y3, y4, y5, y6⟩ := y
      unfold shV
      simp only at HG ⊢
      go_enter Tryd.func32, Tryd.ntmps32
      go_wp2_with fail
      refine (CK.out _).mono ?_
      rintro e w1 ⟨rfl, hb1⟩
      obtain ⟨g1, g2, hbw, hz⟩ := kept2 hb1
      obtain ⟨c0, c1, c2, c3, c4⟩ := five g1
      obtain ⟨s0, s1, s2, s3, s4, s5, s6⟩ := HG.out w1 hbw
      have HB1 := Lib.hid hbw
      have HG2 := Lib.hid g2
      have z0 : w.heap.size < w1.heap.size := by omega
      have z1 : w.heap.size + 1 < w1.heap.size := by omega
      have n1 : w1.heap.size ≠ w.heap.size := by omega
      clear hb1 g1 g2 hbw hz
      go_upto_region 7 with fail
      have HW := Lib.hid (show (w1.alloc (.cells #[.int .i64 y0, .int .i64 y1, .int .i64 y2, .int .i64 y3, .int .i64 y4, .int .i64 y5, .int .i64 y6] 71)).heap[w.heap.size + 1]? = _ ∧ Below w.heap.size w (w1.alloc (.cells #[.int .i64 y0, .int .i64 y1, .int .i64 y2, .int .i64 y3, .int .i64 y4, .int .i64 y5, .int .i64 y6] 71)) ∧ _ from
        ⟨((below1 w1 _).block _ z1).trans HG2.out, HB1.out.alloc HB1.out.size _, heap_alloc_new w1 (.cells #[.int .i64 y0, .int .i64 y1, .int .i64 y2, .int .i64 y3, .int .i64 y4, .int .i64 y5, .int .i64 y6] 71)⟩)
      generalize (w1.alloc (.cells #[.int .i64 y0, .int .i64 y1, .int .i64 y2, .int .i64 y3, .int .i64 y4, .int .i64 y5, .int .i64 y6] 71)) = W2 at *
      obtain ⟨f0, d0, d1, d2, d3, d4, d5, d6⟩ := seven HW.out.1
      obtain ⟨_, b0, b1, b2, b3, b4, b5, b6⟩ := seven HW.out.2.2
      go_wp2_with fail
      refine bodyPost_ret (by simp [results, Tryd.results32, go_sem, d0, d1, d2, d3, d4, d5, d6]; try rfl) rfl ?_
      refine ⟨rfl, ?_⟩
      have hw := HW.out.2.1
      iterate 7 (refine Below.setCell ?_ (by dsimp only; omega) _)
      exact hw
end Go.Proofs.YtjkhgljlipljdaaDoor
