/-
  What each call of the program's isNumber, isIn and reckoned returns. No conditions.
-/
import Derived.Test.YtjkhgljlipljdaaDoorFixG
namespace Go.Proofs.YtjkhgljlipljdaaDoor
open Go.RowKit
set_option linter.unusedVariables false
set_option linter.unusedSimpArgs false

def numB (p : Pt) : Bool := p.is && (p.sec == -2)
def inB (p : Pt) (s : Int) : Bool := p.is && ((p.sec == s) && (s != -1))
theorem isNumber_any (p : Pt) (w : World) :
    Calls Tryd.prog 78 #[ptV p] w fun e w' => e = .returned (.bool (numB p)) ∧ Below w.heap.size w w' := by
  obtain ⟨i, s, v, n⟩ := p
  unfold ptV numB
  simp only
  cases i
  all_goals
    go_enter Tryd.func78, Tryd.ntmps78
    go_wp2_with fail
    go_ret
    exact ⟨rfl, below1 w _⟩
theorem isIn_any (p : Pt) (s : Int) (w : World) :
    Calls Tryd.prog 63 #[ptV p, .int .i64 s] w fun e w' => e = .returned (.bool (inB p s)) ∧ Below w.heap.size w w' := by
  obtain ⟨i, s', v, n⟩ := p
  unfold ptV inB
  simp only
  cases i with
  | false =>
    go_enter Tryd.func63, Tryd.ntmps63
    go_wp2_with fail
    go_ret
    exact ⟨rfl, below1 w _⟩
  | true =>
    cases hs : (s' == s)
    all_goals
      go_enter Tryd.func63, Tryd.ntmps63
      go_wp2_with fail
      go_ret
      exact ⟨rfl, below1 w _⟩
/-- a sum -/
structure Sm where
  n : Int
  p : Pt
  m : Pt
def smV (s : Sm) : Value := .agg #[.int .i64 s.n, .bool s.p.is, .int .i64 s.p.sec, .int .i64 s.p.val, .int .i64 s.p.num, .bool s.m.is, .int .i64 s.m.sec, .int .i64 s.m.val, .int .i64 s.m.num]
def rk1 (s : Sm) : Sm := if numB s.p = true then ⟨wrap64 (s.n + s.p.val), pt0, s.m⟩ else s
def rk2 (s : Sm) : Sm := if numB s.m = true then ⟨wrap64 (s.n - s.m.val), s.p, pt0⟩ else s
def canc (s : Sm) : Bool := s.m.is && inB s.p s.m.sec
def rk3 (s : Sm) : Sm := if canc s = true then ⟨wrap64 (wrap64 (s.n + s.p.val) - s.m.val), pt0, pt0⟩ else s
def reck (s : Sm) : Sm := rk3 (rk2 (rk1 s))
theorem nine {W : World} {B : Nat} {T : TypeId} {v0 v1 v2 v3 v4 v5 v6 v7 v8 : Value} (h : W.heap[B]? = some (.cells #[v0, v1, v2, v3, v4, v5, v6, v7, v8] T (0, 0))) :
    (∀ o, W.frozen? ⟨B, o, none⟩ = false) ∧ W.cell? ⟨B, 0, none⟩ = some v0 ∧ W.cell? ⟨B, 1, none⟩ = some v1 ∧ W.cell? ⟨B, 2, none⟩ = some v2 ∧ W.cell? ⟨B, 3, none⟩ = some v3 ∧ W.cell? ⟨B, 4, none⟩ = some v4 ∧ W.cell? ⟨B, 5, none⟩ = some v5 ∧ W.cell? ⟨B, 6, none⟩ = some v6 ∧ W.cell? ⟨B, 7, none⟩ = some v7 ∧ W.cell? ⟨B, 8, none⟩ = some v8 :=
  ⟨fun o => Lib.frozen_of_heap h o, Lib.cell_of_heap h 0, Lib.cell_of_heap h 1, Lib.cell_of_heap h 2, Lib.cell_of_heap h 3, Lib.cell_of_heap h 4, Lib.cell_of_heap h 5, Lib.cell_of_heap h 6, Lib.cell_of_heap h 7, Lib.cell_of_heap h 8⟩
theorem ch_p {w w1 w2 : World} {B B2 : Nat} {T : TypeId} {o2 : Obj} {a0 a1 a2 a3 a4 a5 a6 a7 a8 v0 v1 v2 v3 v4 : Value}
    (hb : Below (((((w1.setCell ⟨B, 0, none⟩ v0).setCell ⟨B, 1, none⟩ v1).setCell ⟨B, 2, none⟩ v2).setCell ⟨B, 3, none⟩ v3).setCell ⟨B, 4, none⟩ v4).heap.size (((((w1.setCell ⟨B, 0, none⟩ v0).setCell ⟨B, 1, none⟩ v1).setCell ⟨B, 2, none⟩ v2).setCell ⟨B, 3, none⟩ v3).setCell ⟨B, 4, none⟩ v4) w2) (g1 : w1.heap[B]? = some (.cells #[a0, a1, a2, a3, a4, a5, a6, a7, a8] T (0, 0))) (g2 : w1.heap[B2]? = some o2) (hne : B2 ≠ B) (hw : Below w.heap.size w w1) (hB : w.heap.size ≤ B) :
    w2.heap[B]? = some (.cells #[v0, v1, v2, v3, v4, a5, a6, a7, a8] T (0, 0)) ∧ w2.heap[B2]? = some o2 ∧ Below w.heap.size w w2 := by
  have h1 : (((((w1.setCell ⟨B, 0, none⟩ v0).setCell ⟨B, 1, none⟩ v1).setCell ⟨B, 2, none⟩ v2).setCell ⟨B, 3, none⟩ v3).setCell ⟨B, 4, none⟩ v4).heap[B]? = some (.cells #[v0, v1, v2, v3, v4, a5, a6, a7, a8] T (0, 0)) := (heap_setCell_same _ B 4 _ T _ (heap_setCell_same _ B 3 _ T _ (heap_setCell_same _ B 2 _ T _ (heap_setCell_same _ B 1 _ T _ (heap_setCell_same _ B 0 _ T _ g1)))))
  have h2 : (((((w1.setCell ⟨B, 0, none⟩ v0).setCell ⟨B, 1, none⟩ v1).setCell ⟨B, 2, none⟩ v2).setCell ⟨B, 3, none⟩ v3).setCell ⟨B, 4, none⟩ v4).heap[B2]? = some o2 := ((heap_setCell_other _ _ _ _ (by exact hne)).trans ((heap_setCell_other _ _ _ _ (by exact hne)).trans ((heap_setCell_other _ _ _ _ (by exact hne)).trans ((heap_setCell_other _ _ _ _ (by exact hne)).trans ((heap_setCell_other _ _ _ _ (by exact hne)).trans g2)))))
  have h3 : Below w.heap.size w (((((w1.setCell ⟨B, 0, none⟩ v0).setCell ⟨B, 1, none⟩ v1).setCell ⟨B, 2, none⟩ v2).setCell ⟨B, 3, none⟩ v3).setCell ⟨B, 4, none⟩ v4) := (((((hw.setCell (p := ⟨B, 0, none⟩) hB _).setCell (p := ⟨B, 1, none⟩) hB _).setCell (p := ⟨B, 2, none⟩) hB _).setCell (p := ⟨B, 3, none⟩) hB _).setCell (p := ⟨B, 4, none⟩) hB _)
  exact ⟨(hb.block _ (heap_lt h1)).trans h1, (hb.block _ (heap_lt h2)).trans h2, Below.thn h3 h3.size hb⟩
theorem ch_m {w w1 w2 : World} {B B2 : Nat} {T : TypeId} {o2 : Obj} {a0 a1 a2 a3 a4 a5 a6 a7 a8 v0 v1 v2 v3 v4 : Value}
    (hb : Below (((((w1.setCell ⟨B, 0, none⟩ v0).setCell ⟨B, 5, none⟩ v1).setCell ⟨B, 6, none⟩ v2).setCell ⟨B, 7, none⟩ v3).setCell ⟨B, 8, none⟩ v4).heap.size (((((w1.setCell ⟨B, 0, none⟩ v0).setCell ⟨B, 5, none⟩ v1).setCell ⟨B, 6, none⟩ v2).setCell ⟨B, 7, none⟩ v3).setCell ⟨B, 8, none⟩ v4) w2) (g1 : w1.heap[B]? = some (.cells #[a0, a1, a2, a3, a4, a5, a6, a7, a8] T (0, 0))) (g2 : w1.heap[B2]? = some o2) (hne : B2 ≠ B) (hw : Below w.heap.size w w1) (hB : w.heap.size ≤ B) :
    w2.heap[B]? = some (.cells #[v0, a1, a2, a3, a4, v1, v2, v3, v4] T (0, 0)) ∧ w2.heap[B2]? = some o2 ∧ Below w.heap.size w w2 := by
  have h1 : (((((w1.setCell ⟨B, 0, none⟩ v0).setCell ⟨B, 5, none⟩ v1).setCell ⟨B, 6, none⟩ v2).setCell ⟨B, 7, none⟩ v3).setCell ⟨B, 8, none⟩ v4).heap[B]? = some (.cells #[v0, a1, a2, a3, a4, v1, v2, v3, v4] T (0, 0)) := (heap_setCell_same _ B 8 _ T _ (heap_setCell_same _ B 7 _ T _ (heap_setCell_same _ B 6 _ T _ (heap_setCell_same _ B 5 _ T _ (heap_setCell_same _ B 0 _ T _ g1)))))
  have h2 : (((((w1.setCell ⟨B, 0, none⟩ v0).setCell ⟨B, 5, none⟩ v1).setCell ⟨B, 6, none⟩ v2).setCell ⟨B, 7, none⟩ v3).setCell ⟨B, 8, none⟩ v4).heap[B2]? = some o2 := ((heap_setCell_other _ _ _ _ (by exact hne)).trans ((heap_setCell_other _ _ _ _ (by exact hne)).trans ((heap_setCell_other _ _ _ _ (by exact hne)).trans ((heap_setCell_other _ _ _ _ (by exact hne)).trans ((heap_setCell_other _ _ _ _ (by exact hne)).trans g2)))))
  have h3 : Below w.heap.size w (((((w1.setCell ⟨B, 0, none⟩ v0).setCell ⟨B, 5, none⟩ v1).setCell ⟨B, 6, none⟩ v2).setCell ⟨B, 7, none⟩ v3).setCell ⟨B, 8, none⟩ v4) := (((((hw.setCell (p := ⟨B, 0, none⟩) hB _).setCell (p := ⟨B, 5, none⟩) hB _).setCell (p := ⟨B, 6, none⟩) hB _).setCell (p := ⟨B, 7, none⟩) hB _).setCell (p := ⟨B, 8, none⟩) hB _)
  exact ⟨(hb.block _ (heap_lt h1)).trans h1, (hb.block _ (heap_lt h2)).trans h2, Below.thn h3 h3.size hb⟩
theorem keep2 {w w1 w2 : World} {B B2 : Nat} {o1 o2 : Obj} (hb : Below w1.heap.size w1 w2) (g1 : w1.heap[B]? = some o1) (g2 : w1.heap[B2]? = some o2) (hw : Below w.heap.size w w1) :
    w2.heap[B]? = some o1 ∧ w2.heap[B2]? = some o2 ∧ Below w.heap.size w w2 :=
  ⟨(hb.block _ (heap_lt g1)).trans g1, (hb.block _ (heap_lt g2)).trans g2, Below.thn hw hw.size hb⟩
set_option maxHeartbeats 4000000 in
theorem rk_nn (s : Sm) (w : World) (h1 : numB s.p = true) (h2 : numB s.m = true) :
    Calls Tryd.prog 62 #[smV s] w fun e w' => e = .returned (smV (reck s)) ∧ Below w.heap.size w w' := by
  have N1 := Lib.hid (fun W => isNumber_any s.p W)
  have N2 := Lib.hid (fun W => isNumber_any s.m W)
  obtain ⟨n, ⟨pi, ps, pv, pn⟩, ⟨mi, ms, mv, mn⟩⟩ := s
  simp only at h1 h2
  have e1 : rk1 ⟨n, ⟨pi, ps, pv, pn⟩, ⟨mi, ms, mv, mn⟩⟩ = ⟨wrap64 (n + pv), pt0, ⟨mi, ms, mv, mn⟩⟩ := by unfold rk1; rw [if_pos h1]
  have e2 : rk2 ⟨wrap64 (n + pv), pt0, ⟨mi, ms, mv, mn⟩⟩ = ⟨wrap64 (wrap64 (n + pv) - mv), pt0, pt0⟩ := by unfold rk2; rw [if_pos h2]
  have e3 : rk3 ⟨wrap64 (wrap64 (n + pv) - mv), pt0, pt0⟩ = ⟨wrap64 (wrap64 (n + pv) - mv), pt0, pt0⟩ := by unfold rk3 canc; rw [if_neg (by simp [pt0, inB])]
  unfold reck
  rw [e1, e2, e3]
  rw [h1] at N1
  rw [h2] at N2
  unfold smV ptV at *
  try unfold pt0 at *
  simp only at *
  clear h1 h2 e1 e2 e3
  go_enter Tryd.func62, Tryd.ntmps62
  go_wp2_with fail
  refine (N1.out _).mono ?_
  rintro e w1 ⟨rfl, hb1⟩
  obtain ⟨g1, g2, hbw, hz⟩ := kept2 hb1
  obtain ⟨f0, c0, c1, c2, c3, c4, c5, c6, c7, c8⟩ := nine g1
  have hne : w.heap.size + 1 ≠ w.heap.size := by omega
  have HB1 := Lib.hid hbw
  have G1 := Lib.hid g1
  have G2 := Lib.hid g2
  clear hb1 g1 g2 hbw hz
  go_wp2_with fail
  refine (N2.out _).mono ?_
  rintro e w2 ⟨rfl, hb2⟩
  obtain ⟨g1, g2, hbw⟩ := ch_p hb2 G1.out G2.out hne HB1.out (Nat.le_refl _)
  clear f0 c0 c1 c2 c3 c4 c5 c6 c7 c8
  obtain ⟨f0, c0, c1, c2, c3, c4, c5, c6, c7, c8⟩ := nine g1
  obtain ⟨f1, d0, d1, d2, d3, d4, d5, d6, d7, d8⟩ := nine g2
  have HB2 := Lib.hid hbw
  have G1 := Lib.hid g1
  have G2 := Lib.hid g2
  clear hb2 g1 g2 hbw
  go_upto_region 7 with fail
  obtain ⟨W3, hW3⟩ : ∃ W3, (((((w2.setCell ⟨w.heap.size, 0, none⟩ (.int .i64 (wrap64 (wrap64 (n + pv) - mv)))).setCell ⟨w.heap.size, 5, none⟩ (.bool false)).setCell ⟨w.heap.size, 6, none⟩ (.int .i64 0)).setCell ⟨w.heap.size, 7, none⟩ (.int .i64 0)).setCell ⟨w.heap.size, 8, none⟩ (.int .i64 0)) = W3 := ⟨_, rfl⟩
  obtain ⟨g1, g2, hbw⟩ := ch_m (Below.refl (((((w2.setCell ⟨w.heap.size, 0, none⟩ (.int .i64 (wrap64 (wrap64 (n + pv) - mv)))).setCell ⟨w.heap.size, 5, none⟩ (.bool false)).setCell ⟨w.heap.size, 6, none⟩ (.int .i64 0)).setCell ⟨w.heap.size, 7, none⟩ (.int .i64 0)).setCell ⟨w.heap.size, 8, none⟩ (.int .i64 0)).heap.size _) G1.out G2.out hne HB2.out (Nat.le_refl _)
  rw [hW3] at g1 g2 hbw ⊢
  clear f0 c0 c1 c2 c3 c4 c5 c6 c7 c8 f1 d0 d1 d2 d3 d4 d5 d6 d7 d8
  obtain ⟨f0, c0, c1, c2, c3, c4, c5, c6, c7, c8⟩ := nine g1
  obtain ⟨f1, d0, d1, d2, d3, d4, d5, d6, d7, d8⟩ := nine g2
  have HB4 := Lib.hid hbw
  clear g1 g2 hbw hW3 G1 G2
  go_wp2_with fail
  refine bodyPost_ret (by simp [results, Tryd.results62, go_sem, d0, d1, d2, d3, d4, d5, d6, d7, d8]; try rfl) rfl ?_
  refine ⟨rfl, ?_⟩
  have hw := HB4.out
  iterate 9 (refine Below.setCell ?_ (by dsimp only; omega) _)
  exact hw
set_option maxHeartbeats 4000000 in
theorem rk_ni (s : Sm) (w : World) (h1 : numB s.p = true) (h2 : numB s.m = false) (h3 : s.m.is = true) :
    Calls Tryd.prog 62 #[smV s] w fun e w' => e = .returned (smV (reck s)) ∧ Below w.heap.size w w' := by
  have N1 := Lib.hid (fun W => isNumber_any s.p W)
  have N2 := Lib.hid (fun W => isNumber_any s.m W)
  have N3 := Lib.hid (fun W => isIn_any pt0 s.m.sec W)
  obtain ⟨n, ⟨pi, ps, pv, pn⟩, ⟨mi, ms, mv, mn⟩⟩ := s
  simp only at h1 h2 h3
  have e1 : rk1 ⟨n, ⟨pi, ps, pv, pn⟩, ⟨mi, ms, mv, mn⟩⟩ = ⟨wrap64 (n + pv), pt0, ⟨mi, ms, mv, mn⟩⟩ := by unfold rk1; rw [if_pos h1]
  have e2 : rk2 ⟨wrap64 (n + pv), pt0, ⟨mi, ms, mv, mn⟩⟩ = ⟨wrap64 (n + pv), pt0, ⟨mi, ms, mv, mn⟩⟩ := by unfold rk2; rw [if_neg (by simp [h2])]
  have e3 : rk3 ⟨wrap64 (n + pv), pt0, ⟨mi, ms, mv, mn⟩⟩ = ⟨wrap64 (n + pv), pt0, ⟨mi, ms, mv, mn⟩⟩ := by unfold rk3 canc; rw [if_neg (by simp [pt0, inB, h3])]
  unfold reck
  rw [e1, e2, e3]
  rw [h1] at N1
  rw [h2] at N2
  subst h3
  have N3 := Lib.hid (fun W => (show inB pt0 ms = false from rfl) ▸ N3.out W)
  unfold smV ptV at *
  try unfold pt0 at *
  simp only at *
  clear h1 h2 e1 e2 e3
  go_enter Tryd.func62, Tryd.ntmps62
  go_wp2_with fail
  refine (N1.out _).mono ?_
  rintro e w1 ⟨rfl, hb1⟩
  obtain ⟨g1, g2, hbw, hz⟩ := kept2 hb1
  obtain ⟨f0, c0, c1, c2, c3, c4, c5, c6, c7, c8⟩ := nine g1
  have hne : w.heap.size + 1 ≠ w.heap.size := by omega
  have HB1 := Lib.hid hbw
  have G1 := Lib.hid g1
  have G2 := Lib.hid g2
  clear hb1 g1 g2 hbw hz
  go_wp2_with fail
  refine (N2.out _).mono ?_
  rintro e w2 ⟨rfl, hb2⟩
  obtain ⟨g1, g2, hbw⟩ := ch_p hb2 G1.out G2.out hne HB1.out (Nat.le_refl _)
  clear f0 c0 c1 c2 c3 c4 c5 c6 c7 c8
  obtain ⟨f0, c0, c1, c2, c3, c4, c5, c6, c7, c8⟩ := nine g1
  obtain ⟨f1, d0, d1, d2, d3, d4, d5, d6, d7, d8⟩ := nine g2
  have HB2 := Lib.hid hbw
  have G1 := Lib.hid g1
  have G2 := Lib.hid g2
  clear hb2 g1 g2 hbw
  go_wp2_with fail
  refine (N3.out _).mono ?_
  rintro e w3 ⟨rfl, hb3⟩
  obtain ⟨g1, g2, hbw⟩ := keep2 hb3 G1.out G2.out HB2.out
  clear f0 c0 c1 c2 c3 c4 c5 c6 c7 c8 f1 d0 d1 d2 d3 d4 d5 d6 d7 d8
  obtain ⟨f0, c0, c1, c2, c3, c4, c5, c6, c7, c8⟩ := nine g1
  obtain ⟨f1, d0, d1, d2, d3, d4, d5, d6, d7, d8⟩ := nine g2
  have HB3 := Lib.hid hbw
  clear hb3 g1 g2 hbw
  go_wp2_with fail
  refine bodyPost_ret (by simp [results, Tryd.results62, go_sem, d0, d1, d2, d3, d4, d5, d6, d7, d8]; try rfl) rfl ?_
  refine ⟨rfl, ?_⟩
  have hw := HB3.out
  iterate 9 (refine Below.setCell ?_ (by dsimp only; omega) _)
  exact hw
set_option maxHeartbeats 4000000 in
theorem rk_no (s : Sm) (w : World) (h1 : numB s.p = true) (h2 : numB s.m = false) (h3 : s.m.is = false) :
    Calls Tryd.prog 62 #[smV s] w fun e w' => e = .returned (smV (reck s)) ∧ Below w.heap.size w w' := by
  have N1 := Lib.hid (fun W => isNumber_any s.p W)
  have N2 := Lib.hid (fun W => isNumber_any s.m W)
  obtain ⟨n, ⟨pi, ps, pv, pn⟩, ⟨mi, ms, mv, mn⟩⟩ := s
  simp only at h1 h2 h3
  have e1 : rk1 ⟨n, ⟨pi, ps, pv, pn⟩, ⟨mi, ms, mv, mn⟩⟩ = ⟨wrap64 (n + pv), pt0, ⟨mi, ms, mv, mn⟩⟩ := by unfold rk1; rw [if_pos h1]
  have e2 : rk2 ⟨wrap64 (n + pv), pt0, ⟨mi, ms, mv, mn⟩⟩ = ⟨wrap64 (n + pv), pt0, ⟨mi, ms, mv, mn⟩⟩ := by unfold rk2; rw [if_neg (by simp [h2])]
  have e3 : rk3 ⟨wrap64 (n + pv), pt0, ⟨mi, ms, mv, mn⟩⟩ = ⟨wrap64 (n + pv), pt0, ⟨mi, ms, mv, mn⟩⟩ := by unfold rk3 canc; rw [if_neg (by simp [pt0, inB, h3])]
  unfold reck
  rw [e1, e2, e3]
  rw [h1] at N1
  rw [h2] at N2
  subst h3
  unfold smV ptV at *
  try unfold pt0 at *
  simp only at *
  clear h1 h2 e1 e2 e3
  go_enter Tryd.func62, Tryd.ntmps62
  go_wp2_with fail
  refine (N1.out _).mono ?_
  rintro e w1 ⟨rfl, hb1⟩
  obtain ⟨g1, g2, hbw, hz⟩ := kept2 hb1
  obtain ⟨f0, c0, c1, c2, c3, c4, c5, c6, c7, c8⟩ := nine g1
  have hne : w.heap.size + 1 ≠ w.heap.size := by omega
  have HB1 := Lib.hid hbw
  have G1 := Lib.hid g1
  have G2 := Lib.hid g2
  clear hb1 g1 g2 hbw hz
  go_wp2_with fail
  refine (N2.out _).mono ?_
  rintro e w2 ⟨rfl, hb2⟩
  obtain ⟨g1, g2, hbw⟩ := ch_p hb2 G1.out G2.out hne HB1.out (Nat.le_refl _)
  clear f0 c0 c1 c2 c3 c4 c5 c6 c7 c8
  obtain ⟨f0, c0, c1, c2, c3, c4, c5, c6, c7, c8⟩ := nine g1
  obtain ⟨f1, d0, d1, d2, d3, d4, d5, d6, d7, d8⟩ := nine g2
  have HB2 := Lib.hid hbw
  have G1 := Lib.hid g1
  have G2 := Lib.hid g2
  clear hb2 g1 g2 hbw
  go_wp2_with fail
  refine bodyPost_ret (by simp [results, Tryd.results62, go_sem, d0, d1, d2, d3, d4, d5, d6, d7, d8]; try rfl) rfl ?_
  refine ⟨rfl, ?_⟩
  have hw := HB2.out
  iterate 9 (refine Below.setCell ?_ (by dsimp only; omega) _)
  exact hw
set_option maxHeartbeats 4000000 in
theorem rk_pn (s : Sm) (w : World) (h1 : numB s.p = false) (h2 : numB s.m = true) :
    Calls Tryd.prog 62 #[smV s] w fun e w' => e = .returned (smV (reck s)) ∧ Below w.heap.size w w' := by
  have N1 := Lib.hid (fun W => isNumber_any s.p W)
  have N2 := Lib.hid (fun W => isNumber_any s.m W)
  obtain ⟨n, ⟨pi, ps, pv, pn⟩, ⟨mi, ms, mv, mn⟩⟩ := s
  simp only at h1 h2
  have e1 : rk1 ⟨n, ⟨pi, ps, pv, pn⟩, ⟨mi, ms, mv, mn⟩⟩ = ⟨n, ⟨pi, ps, pv, pn⟩, ⟨mi, ms, mv, mn⟩⟩ := by unfold rk1; rw [if_neg (by simp [h1])]
  have e2 : rk2 ⟨n, ⟨pi, ps, pv, pn⟩, ⟨mi, ms, mv, mn⟩⟩ = ⟨wrap64 (n - mv), ⟨pi, ps, pv, pn⟩, pt0⟩ := by unfold rk2; rw [if_pos h2]
  have e3 : rk3 ⟨wrap64 (n - mv), ⟨pi, ps, pv, pn⟩, pt0⟩ = ⟨wrap64 (n - mv), ⟨pi, ps, pv, pn⟩, pt0⟩ := by unfold rk3 canc; rw [if_neg (by simp [pt0, inB])]
  unfold reck
  rw [e1, e2, e3]
  rw [h1] at N1
  rw [h2] at N2
  unfold smV ptV at *
  try unfold pt0 at *
  simp only at *
  clear h1 h2 e1 e2 e3
  go_enter Tryd.func62, Tryd.ntmps62
  go_wp2_with fail
  refine (N1.out _).mono ?_
  rintro e w1 ⟨rfl, hb1⟩
  obtain ⟨g1, g2, hbw, hz⟩ := kept2 hb1
  obtain ⟨f0, c0, c1, c2, c3, c4, c5, c6, c7, c8⟩ := nine g1
  have hne : w.heap.size + 1 ≠ w.heap.size := by omega
  have HB1 := Lib.hid hbw
  have G1 := Lib.hid g1
  have G2 := Lib.hid g2
  clear hb1 g1 g2 hbw hz
  go_wp2_with fail
  refine (N2.out _).mono ?_
  rintro e w2 ⟨rfl, hb2⟩
  obtain ⟨g1, g2, hbw⟩ := keep2 hb2 G1.out G2.out HB1.out
  clear f0 c0 c1 c2 c3 c4 c5 c6 c7 c8
  obtain ⟨f0, c0, c1, c2, c3, c4, c5, c6, c7, c8⟩ := nine g1
  obtain ⟨f1, d0, d1, d2, d3, d4, d5, d6, d7, d8⟩ := nine g2
  have HB2 := Lib.hid hbw
  have G1 := Lib.hid g1
  have G2 := Lib.hid g2
  clear hb2 g1 g2 hbw
  go_upto_region 7 with fail
  obtain ⟨W3, hW3⟩ : ∃ W3, (((((w2.setCell ⟨w.heap.size, 0, none⟩ (.int .i64 (wrap64 (n - mv)))).setCell ⟨w.heap.size, 5, none⟩ (.bool false)).setCell ⟨w.heap.size, 6, none⟩ (.int .i64 0)).setCell ⟨w.heap.size, 7, none⟩ (.int .i64 0)).setCell ⟨w.heap.size, 8, none⟩ (.int .i64 0)) = W3 := ⟨_, rfl⟩
  obtain ⟨g1, g2, hbw⟩ := ch_m (Below.refl (((((w2.setCell ⟨w.heap.size, 0, none⟩ (.int .i64 (wrap64 (n - mv)))).setCell ⟨w.heap.size, 5, none⟩ (.bool false)).setCell ⟨w.heap.size, 6, none⟩ (.int .i64 0)).setCell ⟨w.heap.size, 7, none⟩ (.int .i64 0)).setCell ⟨w.heap.size, 8, none⟩ (.int .i64 0)).heap.size _) G1.out G2.out hne HB2.out (Nat.le_refl _)
  rw [hW3] at g1 g2 hbw ⊢
  clear f0 c0 c1 c2 c3 c4 c5 c6 c7 c8 f1 d0 d1 d2 d3 d4 d5 d6 d7 d8
  obtain ⟨f0, c0, c1, c2, c3, c4, c5, c6, c7, c8⟩ := nine g1
  obtain ⟨f1, d0, d1, d2, d3, d4, d5, d6, d7, d8⟩ := nine g2
  have HB4 := Lib.hid hbw
  clear g1 g2 hbw hW3 G1 G2
  go_wp2_with fail
  refine bodyPost_ret (by simp [results, Tryd.results62, go_sem, d0, d1, d2, d3, d4, d5, d6, d7, d8]; try rfl) rfl ?_
  refine ⟨rfl, ?_⟩
  have hw := HB4.out
  iterate 9 (refine Below.setCell ?_ (by dsimp only; omega) _)
  exact hw
set_option maxHeartbeats 4000000 in
theorem rk_po (s : Sm) (w : World) (h1 : numB s.p = false) (h2 : numB s.m = false) (h3 : s.m.is = false) :
    Calls Tryd.prog 62 #[smV s] w fun e w' => e = .returned (smV (reck s)) ∧ Below w.heap.size w w' := by
  have N1 := Lib.hid (fun W => isNumber_any s.p W)
  have N2 := Lib.hid (fun W => isNumber_any s.m W)
  obtain ⟨n, ⟨pi, ps, pv, pn⟩, ⟨mi, ms, mv, mn⟩⟩ := s
  simp only at h1 h2 h3
  have e1 : rk1 ⟨n, ⟨pi, ps, pv, pn⟩, ⟨mi, ms, mv, mn⟩⟩ = ⟨n, ⟨pi, ps, pv, pn⟩, ⟨mi, ms, mv, mn⟩⟩ := by unfold rk1; rw [if_neg (by simp [h1])]
  have e2 : rk2 ⟨n, ⟨pi, ps, pv, pn⟩, ⟨mi, ms, mv, mn⟩⟩ = ⟨n, ⟨pi, ps, pv, pn⟩, ⟨mi, ms, mv, mn⟩⟩ := by unfold rk2; rw [if_neg (by simp [h2])]
  have e3 : rk3 ⟨n, ⟨pi, ps, pv, pn⟩, ⟨mi, ms, mv, mn⟩⟩ = ⟨n, ⟨pi, ps, pv, pn⟩, ⟨mi, ms, mv, mn⟩⟩ := by unfold rk3 canc; rw [if_neg (by simp [pt0, inB, h3])]
  unfold reck
  rw [e1, e2, e3]
  rw [h1] at N1
  rw [h2] at N2
  subst h3
  unfold smV ptV at *
  try unfold pt0 at *
  simp only at *
  clear h1 h2 e1 e2 e3
  go_enter Tryd.func62, Tryd.ntmps62
  go_wp2_with fail
  refine (N1.out _).mono ?_
  rintro e w1 ⟨rfl, hb1⟩
  obtain ⟨g1, g2, hbw, hz⟩ := kept2 hb1
  obtain ⟨f0, c0, c1, c2, c3, c4, c5, c6, c7, c8⟩ := nine g1
  have hne : w.heap.size + 1 ≠ w.heap.size := by omega
  have HB1 := Lib.hid hbw
  have G1 := Lib.hid g1
  have G2 := Lib.hid g2
  clear hb1 g1 g2 hbw hz
  go_wp2_with fail
  refine (N2.out _).mono ?_
  rintro e w2 ⟨rfl, hb2⟩
  obtain ⟨g1, g2, hbw⟩ := keep2 hb2 G1.out G2.out HB1.out
  clear f0 c0 c1 c2 c3 c4 c5 c6 c7 c8
  obtain ⟨f0, c0, c1, c2, c3, c4, c5, c6, c7, c8⟩ := nine g1
  obtain ⟨f1, d0, d1, d2, d3, d4, d5, d6, d7, d8⟩ := nine g2
  have HB2 := Lib.hid hbw
  have G1 := Lib.hid g1
  have G2 := Lib.hid g2
  clear hb2 g1 g2 hbw
  go_wp2_with fail
  refine bodyPost_ret (by simp [results, Tryd.results62, go_sem, d0, d1, d2, d3, d4, d5, d6, d7, d8]; try rfl) rfl ?_
  refine ⟨rfl, ?_⟩
  have hw := HB2.out
  iterate 9 (refine Below.setCell ?_ (by dsimp only; omega) _)
  exact hw
set_option maxHeartbeats 4000000 in
theorem rk_pic (s : Sm) (w : World) (h1 : numB s.p = false) (h2 : numB s.m = false) (h3 : s.m.is = true) (h4 : inB s.p s.m.sec = true) :
    Calls Tryd.prog 62 #[smV s] w fun e w' => e = .returned (smV (reck s)) ∧ Below w.heap.size w w' := by
  have N1 := Lib.hid (fun W => isNumber_any s.p W)
  have N2 := Lib.hid (fun W => isNumber_any s.m W)
  have N3 := Lib.hid (fun W => isIn_any s.p s.m.sec W)
  obtain ⟨n, ⟨pi, ps, pv, pn⟩, ⟨mi, ms, mv, mn⟩⟩ := s
  simp only at h1 h2 h3 h4
  have e1 : rk1 ⟨n, ⟨pi, ps, pv, pn⟩, ⟨mi, ms, mv, mn⟩⟩ = ⟨n, ⟨pi, ps, pv, pn⟩, ⟨mi, ms, mv, mn⟩⟩ := by unfold rk1; rw [if_neg (by simp [h1])]
  have e2 : rk2 ⟨n, ⟨pi, ps, pv, pn⟩, ⟨mi, ms, mv, mn⟩⟩ = ⟨n, ⟨pi, ps, pv, pn⟩, ⟨mi, ms, mv, mn⟩⟩ := by unfold rk2; rw [if_neg (by simp [h2])]
  have e3 : rk3 ⟨n, ⟨pi, ps, pv, pn⟩, ⟨mi, ms, mv, mn⟩⟩ = ⟨wrap64 (wrap64 (n + pv) - mv), pt0, pt0⟩ := by unfold rk3 canc; rw [if_pos (by simp only [h3, h4]; rfl)]
  unfold reck
  rw [e1, e2, e3]
  rw [h1] at N1
  rw [h2] at N2
  rw [h4] at N3
  subst h3
  unfold smV ptV at *
  try unfold pt0 at *
  simp only at *
  clear h1 h2 e1 e2 e3 h4
  go_enter Tryd.func62, Tryd.ntmps62
  go_wp2_with fail
  refine (N1.out _).mono ?_
  rintro e w1 ⟨rfl, hb1⟩
  obtain ⟨g1, g2, hbw, hz⟩ := kept2 hb1
  obtain ⟨f0, c0, c1, c2, c3, c4, c5, c6, c7, c8⟩ := nine g1
  have hne : w.heap.size + 1 ≠ w.heap.size := by omega
  have HB1 := Lib.hid hbw
  have G1 := Lib.hid g1
  have G2 := Lib.hid g2
  clear hb1 g1 g2 hbw hz
  go_wp2_with fail
  refine (N2.out _).mono ?_
  rintro e w2 ⟨rfl, hb2⟩
  obtain ⟨g1, g2, hbw⟩ := keep2 hb2 G1.out G2.out HB1.out
  clear f0 c0 c1 c2 c3 c4 c5 c6 c7 c8
  obtain ⟨f0, c0, c1, c2, c3, c4, c5, c6, c7, c8⟩ := nine g1
  obtain ⟨f1, d0, d1, d2, d3, d4, d5, d6, d7, d8⟩ := nine g2
  have HB2 := Lib.hid hbw
  have G1 := Lib.hid g1
  have G2 := Lib.hid g2
  clear hb2 g1 g2 hbw
  go_wp2_with fail
  refine (N3.out _).mono ?_
  rintro e w3 ⟨rfl, hb3⟩
  obtain ⟨g1, g2, hbw⟩ := keep2 hb3 G1.out G2.out HB2.out
  clear f0 c0 c1 c2 c3 c4 c5 c6 c7 c8 f1 d0 d1 d2 d3 d4 d5 d6 d7 d8
  obtain ⟨f0, c0, c1, c2, c3, c4, c5, c6, c7, c8⟩ := nine g1
  obtain ⟨f1, d0, d1, d2, d3, d4, d5, d6, d7, d8⟩ := nine g2
  have HB3 := Lib.hid hbw
  clear hb3 g1 g2 hbw
  go_wp2_with fail
  refine bodyPost_ret (by simp [results, Tryd.results62, go_sem, d0, d1, d2, d3, d4, d5, d6, d7, d8]; try rfl) rfl ?_
  refine ⟨rfl, ?_⟩
  have hw := HB3.out
  iterate 9 (refine Below.setCell ?_ (by dsimp only; omega) _)
  exact hw
set_option maxHeartbeats 4000000 in
theorem rk_pix (s : Sm) (w : World) (h1 : numB s.p = false) (h2 : numB s.m = false) (h3 : s.m.is = true) (h4 : inB s.p s.m.sec = false) :
    Calls Tryd.prog 62 #[smV s] w fun e w' => e = .returned (smV (reck s)) ∧ Below w.heap.size w w' := by
  have N1 := Lib.hid (fun W => isNumber_any s.p W)
  have N2 := Lib.hid (fun W => isNumber_any s.m W)
  have N3 := Lib.hid (fun W => isIn_any s.p s.m.sec W)
  obtain ⟨n, ⟨pi, ps, pv, pn⟩, ⟨mi, ms, mv, mn⟩⟩ := s
  simp only at h1 h2 h3 h4
  have e1 : rk1 ⟨n, ⟨pi, ps, pv, pn⟩, ⟨mi, ms, mv, mn⟩⟩ = ⟨n, ⟨pi, ps, pv, pn⟩, ⟨mi, ms, mv, mn⟩⟩ := by unfold rk1; rw [if_neg (by simp [h1])]
  have e2 : rk2 ⟨n, ⟨pi, ps, pv, pn⟩, ⟨mi, ms, mv, mn⟩⟩ = ⟨n, ⟨pi, ps, pv, pn⟩, ⟨mi, ms, mv, mn⟩⟩ := by unfold rk2; rw [if_neg (by simp [h2])]
  have e3 : rk3 ⟨n, ⟨pi, ps, pv, pn⟩, ⟨mi, ms, mv, mn⟩⟩ = ⟨n, ⟨pi, ps, pv, pn⟩, ⟨mi, ms, mv, mn⟩⟩ := by unfold rk3 canc; rw [if_neg (by simp [h3, h4])]
  unfold reck
  rw [e1, e2, e3]
  rw [h1] at N1
  rw [h2] at N2
  rw [h4] at N3
  subst h3
  unfold smV ptV at *
  try unfold pt0 at *
  simp only at *
  clear h1 h2 e1 e2 e3 h4
  go_enter Tryd.func62, Tryd.ntmps62
  go_wp2_with fail
  refine (N1.out _).mono ?_
  rintro e w1 ⟨rfl, hb1⟩
  obtain ⟨g1, g2, hbw, hz⟩ := kept2 hb1
  obtain ⟨f0, c0, c1, c2, c3, c4, c5, c6, c7, c8⟩ := nine g1
  have hne : w.heap.size + 1 ≠ w.heap.size := by omega
  have HB1 := Lib.hid hbw
  have G1 := Lib.hid g1
  have G2 := Lib.hid g2
  clear hb1 g1 g2 hbw hz
  go_wp2_with fail
  refine (N2.out _).mono ?_
  rintro e w2 ⟨rfl, hb2⟩
  obtain ⟨g1, g2, hbw⟩ := keep2 hb2 G1.out G2.out HB1.out
  clear f0 c0 c1 c2 c3 c4 c5 c6 c7 c8
  obtain ⟨f0, c0, c1, c2, c3, c4, c5, c6, c7, c8⟩ := nine g1
  obtain ⟨f1, d0, d1, d2, d3, d4, d5, d6, d7, d8⟩ := nine g2
  have HB2 := Lib.hid hbw
  have G1 := Lib.hid g1
  have G2 := Lib.hid g2
  clear hb2 g1 g2 hbw
  go_wp2_with fail
  refine (N3.out _).mono ?_
  rintro e w3 ⟨rfl, hb3⟩
  obtain ⟨g1, g2, hbw⟩ := keep2 hb3 G1.out G2.out HB2.out
  clear f0 c0 c1 c2 c3 c4 c5 c6 c7 c8 f1 d0 d1 d2 d3 d4 d5 d6 d7 d8
  obtain ⟨f0, c0, c1, c2, c3, c4, c5, c6, c7, c8⟩ := nine g1
  obtain ⟨f1, d0, d1, d2, d3, d4, d5, d6, d7, d8⟩ := nine g2
  have HB3 := Lib.hid hbw
  clear hb3 g1 g2 hbw
  go_wp2_with fail
  refine bodyPost_ret (by simp [results, Tryd.results62, go_sem, d0, d1, d2, d3, d4, d5, d6, d7, d8]; try rfl) rfl ?_
  refine ⟨rfl, ?_⟩
  have hw := HB3.out
  iterate 9 (refine Below.setCell ?_ (by dsimp only; omega) _)
  exact hw
theorem reckoned_any (s : Sm) (w : World) :
    Calls Tryd.prog 62 #[smV s] w fun e w' => e = .returned (smV (reck s)) ∧ Below w.heap.size w w' := by
  cases h1 : numB s.p with
  | true =>
    cases h2 : numB s.m with
    | true => exact rk_nn s w h1 h2
    | false =>
      cases h3 : s.m.is with
      | true => exact rk_ni s w h1 h2 h3
      | false => exact rk_no s w h1 h2 h3
  | false =>
    cases h2 : numB s.m with
    | true => exact rk_pn s w h1 h2
    | false =>
      cases h3 : s.m.is with
      | true =>
        cases h4 : inB s.p s.m.sec with
        | true => exact rk_pic s w h1 h2 h3 h4
        | false => exact rk_pix s w h1 h2 h3 h4
      | false => exact rk_po s w h1 h2 h3
end Go.Proofs.YtjkhgljlipljdaaDoor
