/-
  reckon: what each call returns. Conditions: as many values as the term takes, texts of at most 2^48 bytes.
-/
import Derived.Test.YtdkflmpdelfgoaaGreatDoorExprE
import Derived.Deep.RegionHeld3
namespace Go.Proofs.YtdkflmpdelfgoaaGreatDoor
open Go.RowKit Go.Shelf
set_option linter.unusedVariables false
attribute [local go_sem] Oper.semAt_some

def takesN (k : Int) : Nat := if 5 ≤ k ∧ k ≤ 14 then 2 else if 3 ≤ k ∧ k ≤ 4 then 1 else 0
abbrev Z3 : V3 := (0, E0, E0)
def negV (v : V3) : V3 := (wrap64 (-v.1), v.2.2, v.2.1)
def sumR (x y : V3) : V3 × Int := match sumV x.1 y.1 x.2.1 x.2.2 y.2.1 y.2.2 with
  | some (n, p, m) => ((n, p, m), 0)
  | none => (Z3, 91)
/-- what an operator makes of values; of numbers and symbols likewise -/
def reckonT (t : Tm) (T : List V3) : V3 × Int :=
  if t.k = 1 then ((t.n, E0, E0), 0)
  else if t.k = 2 then ((0, t.s, E0), 0)
  else if t.k = 3 then (negV (T.getD 0 Z3), 0)
  else if t.k = 8 then sumR (T.getD 0 Z3) (T.getD 1 Z3)
  else if t.k = 9 then sumR (T.getD 0 Z3) (negV (T.getD 1 Z3))
  else if T.any hasS = true then (Z3, 91)
  else if t.k = 4 then ((bits BinOp.xor IntKind.i64 (-1) (T.getD 0 Z3).1, E0, E0), 0)
  else (((numZ t.k (T.getD 0 Z3).1 (T.getD 1 Z3).1).1, E0, E0), (numZ t.k (T.getD 0 Z3).1 (T.getD 1 Z3).1).2)
def RV (r : V3 × Int) : Value := .tuple #[vlV r.1, .int .i64 r.2]
theorem sumV_R (x y : V3) : SumV (sumV x.1 y.1 x.2.1 x.2.2 y.2.1 y.2.2) = RV (sumR x y) := by
  unfold sumR
  cases sumV x.1 y.1 x.2.1 x.2.2 y.2.1 y.2.2 with
  | none => rfl
  | some z => rfl
theorem tri_one {W : World} {v : Value} {x : V3} (h : TriO vlF W v [x]) : ∃ g o cap, v = .slice (some ⟨g, o, none⟩) 1 cap ∧ 1 ≤ cap ∧ g < W.heap.size ∧ W.cell? ⟨g, o, none⟩ = some (.int .i64 x.1) ∧ W.cell? ⟨g, o + 1, none⟩ = some (.string x.2.1) ∧ W.cell? ⟨g, o + 2, none⟩ = some (.string x.2.2) := by
  rcases h with ⟨_, h⟩ | ⟨g, o, cap, h1, h2, _, h3, h4⟩
  · cases h
  · obtain ⟨a, b, c⟩ := h4 0 x rfl
    exact ⟨g, o, cap, h1, h2, h3, a, b, c⟩
theorem tri_two {W : World} {v : Value} {x y : V3} (h : TriO vlF W v [x, y]) : ∃ g o cap, v = .slice (some ⟨g, o, none⟩) 2 cap ∧ 2 ≤ cap ∧ g < W.heap.size ∧ (W.cell? ⟨g, o, none⟩ = some (.int .i64 x.1) ∧ W.cell? ⟨g, o + 1, none⟩ = some (.string x.2.1) ∧ W.cell? ⟨g, o + 2, none⟩ = some (.string x.2.2)) ∧
    W.cell? ⟨g, o + 3, none⟩ = some (.int .i64 y.1) ∧ W.cell? ⟨g, o + 3 + 1, none⟩ = some (.string y.2.1) ∧ W.cell? ⟨g, o + 3 + 2, none⟩ = some (.string y.2.2) := by
  rcases h with ⟨_, h⟩ | ⟨g, o, cap, h1, h2, _, h3, h4⟩
  · cases h
  · obtain ⟨a, b, c⟩ := h4 0 x rfl
    obtain ⟨a', b', c'⟩ := h4 1 y rfl
    exact ⟨g, o, cap, h1, h2, h3, ⟨a, b, c⟩, a', b', c'⟩
set_option maxRecDepth 100000 in
set_option maxHeartbeats 8000000 in
theorem reckon_num (n : Int) (s : BA) (A : Option Addr) (l c : Nat) (w : World) :
    Calls Tryz.prog 26 #[tmV ⟨1, n, s⟩, .slice A l c] w fun e w' => e = .returned (RV ((n, E0, E0), 0)) ∧ Below w.heap.size w w' := by
  unfold tmV
  simp only
  go_enter Tryz.func26, Tryz.ntmps26
  go_wp2_with fail
  obtain ⟨n1, n2, n3, n4⟩ := two_new w (.cells #[.int .i64 1, .int .i64 n, .string s] 42) (.cells #[.int .i64 n, .string ⟨#[]⟩, .string ⟨#[]⟩] 36)
  obtain ⟨e0, e1, e2⟩ := val_cells n2
  exact bodyPost_ret (v := RV ((n, E0, E0), 0)) (by simp [RV, vlV, results, Tryz.results26, go_sem, e0, e1, e2]) rfl ⟨rfl, n3⟩
set_option maxRecDepth 100000 in
set_option maxHeartbeats 8000000 in
theorem reckon_sym (n : Int) (s : BA) (A : Option Addr) (l c : Nat) (w : World) :
    Calls Tryz.prog 26 #[tmV ⟨2, n, s⟩, .slice A l c] w fun e w' => e = .returned (RV ((0, s, E0), 0)) ∧ Below w.heap.size w w' := by
  unfold tmV
  simp only
  go_enter Tryz.func26, Tryz.ntmps26
  go_wp2_with fail
  obtain ⟨n1, n2, n3, n4⟩ := two_new w (.cells #[.int .i64 2, .int .i64 n, .string s] 42) (.cells #[.int .i64 0, .string s, .string ⟨#[]⟩] 36)
  obtain ⟨e0, e1, e2⟩ := val_cells n2
  exact bodyPost_ret (v := RV ((0, s, E0), 0)) (by simp [RV, vlV, results, Tryz.results26, go_sem, e0, e1, e2]) rfl ⟨rfl, n3⟩
set_option maxRecDepth 100000 in
set_option maxHeartbeats 8000000 in
theorem reckon_neg (n : Int) (s : BA) (v : Value) (x : V3) (w : World) (h : TriO vlF w v [x]) :
    Calls Tryz.prog 26 #[tmV ⟨3, n, s⟩, v] w fun e w' => e = .returned (RV (negV x, 0)) ∧ Below w.heap.size w w' := by
  obtain ⟨g, o, cap, rfl, hcap, hg, x0, x1, x2⟩ := tri_one h
  obtain ⟨xn, xp, xm⟩ := x
  simp only at x0 x1 x2
  clear h
  have NG := Lib.hid (fun V => negative_any xn xp xm V)
  unfold tmV negV
  simp only
  generalize wrap64 (-xn) = r at *
  go_enter Tryz.func26, Tryz.ntmps26
  go_wp2_with fail
  obtain ⟨n1, n2, n3, n4⟩ := two_new w (.cells #[.int .i64 3, .int .i64 n, .string s] 42) (.cells #[.int .i64 0, .string ⟨#[]⟩, .string ⟨#[]⟩] 36)
  have x0 := cell_kept n3 x0
  have x1 := cell_kept n3 x1
  have x2 := cell_kept n3 x2
  generalize (w.alloc (.cells #[.int .i64 3, .int .i64 n, .string s] 42)).alloc (.cells #[.int .i64 0, .string ⟨#[]⟩, .string ⟨#[]⟩] 36) = W0 at *
  have HB := Lib.hid n3
  have HN := Lib.hid n2
  clear n1 n2 n3 n4
  go_wp2_with fail
  refine (NG.out _).mono ?_
  rintro e w1 ⟨rfl, hb1⟩
  have n2 := block_kept hb1 HN.out
  have HB1 := Lib.hid (Below.thn HB.out HB.out.size hb1)
  have HN1 := Lib.hid n2
  obtain ⟨z0, z1, z2⟩ := val_cells n2
  have fz := fz_of n2
  clear hb1 n2
  go_wp2_with fail
  obtain ⟨e0, e1, e2⟩ := val_cells (val_set HN1.out (.int .i64 r) (.string xm) (.string xp))
  exact bodyPost_ret (v := RV ((r, xm, xp), 0)) (by simp [RV, vlV, results, Tryz.results26, go_sem, e0, e1, e2]) rfl ⟨rfl, below_val HB1.out (by omega) _ _ _⟩
/-- six cells stand behind what was made later -/
theorem six_kept {W W' : World} (hb : Below W.heap.size W W') {g o : Nat} {a b c d e f : Value} (h : (W.cell? ⟨g, o, none⟩ = some a ∧ W.cell? ⟨g, o + 1, none⟩ = some b ∧ W.cell? ⟨g, o + 2, none⟩ = some c) ∧ W.cell? ⟨g, o + 3, none⟩ = some d ∧ W.cell? ⟨g, o + 3 + 1, none⟩ = some e ∧ W.cell? ⟨g, o + 3 + 2, none⟩ = some f) :
    (W'.cell? ⟨g, o, none⟩ = some a ∧ W'.cell? ⟨g, o + 1, none⟩ = some b ∧ W'.cell? ⟨g, o + 2, none⟩ = some c) ∧ W'.cell? ⟨g, o + 3, none⟩ = some d ∧ W'.cell? ⟨g, o + 3 + 1, none⟩ = some e ∧ W'.cell? ⟨g, o + 3 + 2, none⟩ = some f :=
  ⟨⟨cell_kept hb h.1.1, cell_kept hb h.1.2.1, cell_kept hb h.1.2.2⟩, cell_kept hb h.2.1, cell_kept hb h.2.2.1, cell_kept hb h.2.2.2⟩
theorem six_far {W : World} {B g : Nat} (hne : B ≠ g) {x0 x1 x2 : Value} {o : Nat} {a b c d e f : Value} (h : (W.cell? ⟨g, o, none⟩ = some a ∧ W.cell? ⟨g, o + 1, none⟩ = some b ∧ W.cell? ⟨g, o + 2, none⟩ = some c) ∧ W.cell? ⟨g, o + 3, none⟩ = some d ∧ W.cell? ⟨g, o + 3 + 1, none⟩ = some e ∧ W.cell? ⟨g, o + 3 + 2, none⟩ = some f) :
    ((((W.setCell ⟨B, 0, none⟩ x0).setCell ⟨B, 1, none⟩ x1).setCell ⟨B, 2, none⟩ x2).cell? ⟨g, o, none⟩ = some a ∧ (((W.setCell ⟨B, 0, none⟩ x0).setCell ⟨B, 1, none⟩ x1).setCell ⟨B, 2, none⟩ x2).cell? ⟨g, o + 1, none⟩ = some b ∧ (((W.setCell ⟨B, 0, none⟩ x0).setCell ⟨B, 1, none⟩ x1).setCell ⟨B, 2, none⟩ x2).cell? ⟨g, o + 2, none⟩ = some c) ∧ (((W.setCell ⟨B, 0, none⟩ x0).setCell ⟨B, 1, none⟩ x1).setCell ⟨B, 2, none⟩ x2).cell? ⟨g, o + 3, none⟩ = some d ∧ (((W.setCell ⟨B, 0, none⟩ x0).setCell ⟨B, 1, none⟩ x1).setCell ⟨B, 2, none⟩ x2).cell? ⟨g, o + 3 + 1, none⟩ = some e ∧ (((W.setCell ⟨B, 0, none⟩ x0).setCell ⟨B, 1, none⟩ x1).setCell ⟨B, 2, none⟩ x2).cell? ⟨g, o + 3 + 2, none⟩ = some f := by
  have k : ∀ (V : World) (o' j : Nat) (x : Value), (V.setCell ⟨B, o', none⟩ x).cell? ⟨g, j, none⟩ = V.cell? ⟨g, j, none⟩ := fun V o' j x => World.cell?_setCell_far _ _ _ _ hne
  simp only [k]
  exact h
def Six (W : World) (g o : Nat) (x y : V3) : Prop := (W.cell? ⟨g, o, none⟩ = some (.int .i64 x.1) ∧ W.cell? ⟨g, o + 1, none⟩ = some (.string x.2.1) ∧ W.cell? ⟨g, o + 2, none⟩ = some (.string x.2.2)) ∧
    W.cell? ⟨g, o + 3, none⟩ = some (.int .i64 y.1) ∧ W.cell? ⟨g, o + 3 + 1, none⟩ = some (.string y.2.1) ∧ W.cell? ⟨g, o + 3 + 2, none⟩ = some (.string y.2.2)
set_option maxRecDepth 100000 in
set_option maxHeartbeats 8000000 in
theorem reckon_add (n : Int) (s : BA) (v : Value) (x y : V3) (w : World) (h : TriO vlF w v [x, y]) (hx1 : x.2.1.size ≤ 281474976710656) (hx2 : x.2.2.size ≤ 281474976710656) (hy1 : y.2.1.size ≤ 281474976710656) (hy2 : y.2.2.size ≤ 281474976710656) :
    Calls Tryz.prog 26 #[tmV ⟨8, n, s⟩, v] w fun e w' => e = .returned (RV (sumR x y)) ∧ Below w.heap.size w w' := by
  obtain ⟨g, o, cap, rfl, hcap, hg, hx⟩ := tri_two h
  clear h
  have SM := Lib.hid (fun V => sum_any x.1 y.1 x.2.1 x.2.2 y.2.1 y.2.2 V hx1 hx2 hy1 hy2)
  rw [sumV_R] at SM
  clear hx1 hx2 hy1 hy2
  generalize sumR x y = r at *
  obtain ⟨xn, xp, xm⟩ := x
  obtain ⟨yn, yp, ym⟩ := y
  simp only at hx SM
  unfold RV vlV at SM
  unfold tmV
  simp only
  obtain ⟨⟨rn, rp, rm⟩, re⟩ := r
  simp only at SM
  go_enter Tryz.func26, Tryz.ntmps26
  go_wp2_with fail
  obtain ⟨n1, n2, n3, n4⟩ := two_new w (.cells #[.int .i64 8, .int .i64 n, .string s] 42) (.cells #[.int .i64 0, .string ⟨#[]⟩, .string ⟨#[]⟩] 36)
  have S0 := six_kept n3 hx
  generalize (w.alloc (.cells #[.int .i64 8, .int .i64 n, .string s] 42)).alloc (.cells #[.int .i64 0, .string ⟨#[]⟩, .string ⟨#[]⟩] 36) = W0 at *
  have HB := Lib.hid n3
  have HN := Lib.hid n2
  have hne : w.heap.size + 1 ≠ g := by omega
  clear n1 n2 n3 n4 hx
  go_region_held3 (fun w' => (w'.cell? ⟨g, o, none⟩ = some (.int .i64 xn) ∧ w'.cell? ⟨g, o + 1, none⟩ = some (.string xp) ∧ w'.cell? ⟨g, o + 2, none⟩ = some (.string xm)) ∧
    w'.cell? ⟨g, o + 3, none⟩ = some (.int .i64 yn) ∧ w'.cell? ⟨g, o + 3 + 1, none⟩ = some (.string yp) ∧ w'.cell? ⟨g, o + 3 + 2, none⟩ = some (.string ym)) (first | exact S0 | exact S1 | exact six_far hne S1) (first
    | (go_at_call 42; refine (SM.out _).mono ?_; rintro e w1 ⟨rfl, hb1⟩; have n2 := block_kept hb1 (show W0.drew.heap[_]? = _ from HN.out); have HB1 := Lib.hid (Below.thn HB.out.drew HB.out.size hb1); have HN1 := Lib.hid n2; obtain ⟨z0, z1, z2⟩ := val_cells n2; have fz := fz_of n2; have S1 := six_kept hb1 S0; clear hb1 n2))
  all_goals
    go_wp2_with fail
    obtain ⟨e0, e1, e2⟩ := val_cells (val_set HN1.out (.int .i64 rn) (.string rp) (.string rm))
    exact bodyPost_ret (v := RV ((rn, rp, rm), re)) (by simp [RV, vlV, results, Tryz.results26, go_sem, e0, e1, e2]) rfl ⟨rfl, below_val HB1.out (by omega) _ _ _⟩
set_option maxRecDepth 100000 in
set_option maxHeartbeats 8000000 in
theorem reckon_sub (n : Int) (s : BA) (v : Value) (x y : V3) (w : World) (h : TriO vlF w v [x, y]) (hx1 : x.2.1.size ≤ 281474976710656) (hx2 : x.2.2.size ≤ 281474976710656) (hy1 : y.2.1.size ≤ 281474976710656) (hy2 : y.2.2.size ≤ 281474976710656) :
    Calls Tryz.prog 26 #[tmV ⟨9, n, s⟩, v] w fun e w' => e = .returned (RV (sumR x (negV y))) ∧ Below w.heap.size w w' := by
  obtain ⟨g, o, cap, rfl, hcap, hg, hx⟩ := tri_two h
  clear h
  have SM := Lib.hid (fun V => sum_any x.1 (negV y).1 x.2.1 x.2.2 (negV y).2.1 (negV y).2.2 V hx1 hx2 hy2 hy1)
  rw [sumV_R] at SM
  clear hx1 hx2 hy1 hy2
  generalize sumR x (negV y) = r at *
  obtain ⟨xn, xp, xm⟩ := x
  obtain ⟨yn, yp, ym⟩ := y
  simp only [negV] at hx SM
  have NG := Lib.hid (fun V => negative_any yn yp ym V)
  generalize wrap64 (-yn) = u at *
  unfold RV vlV at SM
  unfold tmV
  simp only
  obtain ⟨⟨rn, rp, rm⟩, re⟩ := r
  simp only at SM
  go_enter Tryz.func26, Tryz.ntmps26
  go_wp2_with fail
  obtain ⟨n1, n2, n3, n4⟩ := two_new w (.cells #[.int .i64 9, .int .i64 n, .string s] 42) (.cells #[.int .i64 0, .string ⟨#[]⟩, .string ⟨#[]⟩] 36)
  have S0 := six_kept n3 hx
  generalize (w.alloc (.cells #[.int .i64 9, .int .i64 n, .string s] 42)).alloc (.cells #[.int .i64 0, .string ⟨#[]⟩, .string ⟨#[]⟩] 36) = W0 at *
  have HB := Lib.hid n3
  have HN := Lib.hid n2
  have hne : w.heap.size + 1 ≠ g := by omega
  clear n1 n2 n3 n4 hx
  go_region_held3 (fun w' => (w'.cell? ⟨g, o, none⟩ = some (.int .i64 xn) ∧ w'.cell? ⟨g, o + 1, none⟩ = some (.string xp) ∧ w'.cell? ⟨g, o + 2, none⟩ = some (.string xm)) ∧
    w'.cell? ⟨g, o + 3, none⟩ = some (.int .i64 yn) ∧ w'.cell? ⟨g, o + 3 + 1, none⟩ = some (.string yp) ∧ w'.cell? ⟨g, o + 3 + 2, none⟩ = some (.string ym)) (first | exact S0 | exact S1 | exact S2 | exact six_far hne S2) (first
    | (go_at_call 41; refine (NG.out _).mono ?_; rintro e w1 ⟨rfl, hb1⟩; have HN1 := Lib.hid (block_kept hb1 (show W0.drew.heap[_]? = _ from HN.out)); have HB1 := Lib.hid (Below.thn HB.out.drew HB.out.size hb1); have S1 := six_kept hb1 S0; clear hb1)
    | (go_at_call 42; refine (SM.out _).mono ?_; rintro e w2 ⟨rfl, hb2⟩; have n2 := block_kept hb2 HN1.out; have HB2 := Lib.hid (Below.thn HB1.out HB1.out.size hb2); have HN2 := Lib.hid n2; obtain ⟨z0, z1, z2⟩ := val_cells n2; have fz := fz_of n2; have S2 := six_kept hb2 S1; clear hb2 n2))
  all_goals
    go_wp2_with fail
    obtain ⟨e0, e1, e2⟩ := val_cells (val_set HN2.out (.int .i64 rn) (.string rp) (.string rm))
    exact bodyPost_ret (v := RV ((rn, rp, rm), re)) (by simp [RV, vlV, results, Tryz.results26, go_sem, e0, e1, e2]) rfl ⟨rfl, below_val HB2.out (by omega) _ _ _⟩
end Go.Proofs.YtdkflmpdelfgoaaGreatDoor
