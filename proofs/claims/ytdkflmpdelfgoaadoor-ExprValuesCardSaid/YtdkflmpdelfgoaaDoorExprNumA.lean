/-
  ExprNumbers: what each call returns. Conditions: what the variables hold (GoodE), texts of at most 2^48 bytes.
-/
import Derived.Test.YtdkflmpdelfgoaaDoorExprR
import Derived.Test.YtdkflmpdelfgoaaDoorExprS
import Derived.Deep.CutRange
import Derived.Deep.DeepCutAuto
namespace Go.Proofs.YtdkflmpdelfgoaaDoor
open Go.RowKit Go.Shelf
set_option linter.unusedVariables false
set_option linter.unusedSimpArgs false
attribute [local go_sem] Oper.semAt_some

/-- two boxed values stand -/
def BoxVV (w : World) (x y : V3) (W : World) : Prop := W.heap[w.heap.size]? = some (.cells #[.int .i64 x.1, .string x.2.1, .string x.2.2] 26 (0, 0)) ∧ W.heap[w.heap.size + 1]? = some (.cells #[.int .i64 y.1, .string y.2.1, .string y.2.2] 26 (0, 0)) ∧ Below w.heap.size w W
theorem BoxVV.thn {w W W' : World} {x y : V3} (h : BoxVV w x y W) (hb : Below W.heap.size W W') : BoxVV w x y W' :=
  ⟨block_kept hb h.1, block_kept hb h.2.1, Below.thn h.2.2 h.2.2.size hb⟩
theorem BoxVV.setv {w W : World} {x y : V3} (h : BoxVV w x y W) {B : Nat} (hB : w.heap.size + 1 < B) (a b c : Value) : BoxVV w x y (((W.setCell ⟨B, 0, none⟩ a).setCell ⟨B, 1, none⟩ b).setCell ⟨B, 2, none⟩ c) :=
  ⟨set_far (set_far (set_far h.1 (by omega)) (by omega)) (by omega), set_far (set_far (set_far h.2.1 (by omega)) (by omega)) (by omega), below_val h.2.2 (by omega) _ _ _⟩
theorem boxVV_new (w : World) (x y : V3) : BoxVV w x y ((w.alloc (.cells #[.int .i64 x.1, .string x.2.1, .string x.2.2] 26)).alloc (.cells #[.int .i64 y.1, .string y.2.1, .string y.2.2] 26)) := by
  obtain ⟨n1, n2, n3, n4⟩ := two_new w (.cells #[.int .i64 x.1, .string x.2.1, .string x.2.2] 26) (.cells #[.int .i64 y.1, .string y.2.1, .string y.2.2] 26)
  exact ⟨n1, n2, n3⟩
set_option maxRecDepth 100000 in
set_option maxHeartbeats 16000000 in
theorem numbers_any (x y : V3) (w : World) (hG : GoodE w) (hx1 : x.2.1.size ≤ 281474976710656) (hx2 : x.2.2.size ≤ 281474976710656) (hy1 : y.2.1.size ≤ 281474976710656) (hy2 : y.2.2.size ≤ 281474976710656) :
    Calls Tryd.prog 5 #[vlV x, vlV y] w fun e w' => e = .returned (.bool true) ∧ Below w.heap.size w w' := by
  have LV := Lib.hid (fun V (hb : Below w.heap.size w V) => live_any V (hG.thn hb))
  have A1 := Lib.hid (fun V => add_any x y V hx1 hx2 hy1 hy2)
  have A2 := Lib.hid (fun V => add_any y x V hy1 hy2 hx1 hx2)
  rw [sumR_comm y x] at A2
  have NG := Lib.hid (fun V => neg_any x.1 x.2.1 x.2.2 V hx1 hx2)
  have A3 := Lib.hid (fun V => add_any x (negV x) V hx1 hx2 hx2 hx1)
  rw [sumR_neg] at A3
  have A4 := Lib.hid (fun V => add_any (x.1, E0, E0) (y.1, E0, E0) V (Nat.zero_le _) (Nat.zero_le _) (Nat.zero_le _) (Nat.zero_le _))
  rw [sumR_nums] at A4
  have B0 := Lib.hid (boxVV_new w x y)
  clear hG hx1 hx2 hy1 hy2
  generalize sumR x y = r at *
  obtain ⟨⟨rn, rp, rm⟩, re⟩ := r
  obtain ⟨xn, xp, xm⟩ := x
  obtain ⟨yn, yp, ym⟩ := y
  simp only [negV, RV, vlV] at A1 A2 A3 A4 NG B0 ⊢
  generalize wrap64 (-xn) = u at *
  go_enter Tryd.func5, Tryd.ntmps5
  go_wp2_with fail
  generalize (w.alloc (.cells #[.int .i64 xn, .string xp, .string xm] 26)).alloc (.cells #[.int .i64 yn, .string yp, .string ym] 26) = W0 at *
  refine (LV.out _ B0.out.2.2).mono ?_
  rintro e w1 ⟨rfl, hb⟩
  have B1 := Lib.hid (B0.out.thn hb)
  obtain ⟨x0, x1, x2⟩ := val_cells B1.out.1
  obtain ⟨y0, y1, y2⟩ := val_cells B1.out.2.1
  clear hb
  go_wp2_with fail
  refine (A1.out _).mono ?_
  rintro e w2 ⟨rfl, hb⟩
  have B2 := Lib.hid ((B1.out.thn hb).thn (below1 w2 (.cells #[.int .i64 rn, .string rp, .string rm] 26)))
  have C2 := Lib.hid (heap_alloc_new w2 (.cells #[.int .i64 rn, .string rp, .string rm] 26))
  obtain ⟨x0, x1, x2⟩ := val_cells B2.out.1
  obtain ⟨y0, y1, y2⟩ := val_cells B2.out.2.1
  clear hb
  go_wp2_with fail
  refine (A2.out _).mono ?_
  rintro e w3 ⟨rfl, hb⟩
  have B3 := Lib.hid ((B2.out.thn hb).thn (below1 w3 (.cells #[.int .i64 rn, .string rp, .string rm] 26)))
  have C3 := block_kept (below1 w3 (.cells #[.int .i64 rn, .string rp, .string rm] 26)) (block_kept hb C2.out)
  obtain ⟨c0, c1, c2⟩ := val_cells C3
  obtain ⟨x0, x1, x2⟩ := val_cells B3.out.1
  obtain ⟨y0, y1, y2⟩ := val_cells B3.out.2.1
  clear hb C3
  go_wp2_with fail
  obtain ⟨x0, x1, x2⟩ := val_cells B3.out.1
  have S0 := (show (w3.alloc (.cells #[.int .i64 rn, .string rp, .string rm] 26)).cell? ⟨w.heap.size, 0, none⟩ = some (.int .i64 xn) ∧ (w3.alloc (.cells #[.int .i64 rn, .string rp, .string rm] 26)).cell? ⟨w.heap.size, 1, none⟩ = some (.string xp) ∧ (w3.alloc (.cells #[.int .i64 rn, .string rp, .string rm] 26)).cell? ⟨w.heap.size, 2, none⟩ = some (.string xm) from ⟨x0, x1, x2⟩)
  clear x0 x1 x2 y0 y1 y2 c0 c1 c2
  generalize hV0 : w3.alloc (.cells #[.int .i64 rn, .string rp, .string rm] 26) = V0 at *
  clear hV0
  have HZV := Lib.hid (show w.heap.size + 1 < V0.heap.size from heap_lt B3.out.2.1)
  have SA := keep3 (below1 V0 (.cells #[.int .i64 0, .string ⟨#[]⟩, .string ⟨#[]⟩] 26)) S0
  go_cut [9, 10] (fun s9 s10 wc => ∃ B : Nat, s9 = .pointer (some ⟨B, 0, none⟩) ∧ s10 = .int .i64 0 ∧ wc.heap[B]? = some (.cells #[.int .i64 0, .string E0, .string E0] 26 (0, 0)) ∧ BoxVV w (xn, xp, xm) (yn, yp, ym) wc)
  case first =>
    go_region_held3 (fun w' => w'.cell? ⟨w.heap.size, 0, none⟩ = some (.int .i64 xn) ∧ w'.cell? ⟨w.heap.size, 1, none⟩ = some (.string xp) ∧ w'.cell? ⟨w.heap.size, 2, none⟩ = some (.string xm)) (first | exact S0 | exact SA | exact S1 | exact SB | exact S2 | exact far3 HNE.out S2 | exact keep3 (below1 _ _) S2) (first
      | (go_at_call 23; ((with_reducible refine (NG.out V0.drew).mono ?_); rintro e w4 ⟨rfl, hb4⟩); have S1 := keep3 hb4 S0; have SB := keep3 (below1 w4 (.cells #[.int .i64 0, .string ⟨#[]⟩, .string ⟨#[]⟩] 26)) S1; have B4 := Lib.hid (B3.out.thn (show Below V0.heap.size V0 w4 from Below.thn (Below.refl _ V0).drew (Nat.le_refl _) hb4)); clear hb4)
      | (go_at_call 23; ((with_reducible refine (NG.out (V0.alloc (.cells #[.int .i64 0, .string ⟨#[]⟩, .string ⟨#[]⟩] 26)).drew).mono ?_); rintro e w4 ⟨rfl, hb4⟩); have S1 := keep3 hb4 SA; have HN4 := Lib.hid ((hb4.block V0.heap.size (show V0.heap.size < (V0.alloc _).heap.size by simp)).trans (heap_alloc_new V0 _)); have B4 := Lib.hid (B3.out.thn (show Below V0.heap.size V0 w4 from Below.thn (below1 V0 (.cells #[.int .i64 0, .string ⟨#[]⟩, .string ⟨#[]⟩] 26)).drew (by simp) hb4)); clear hb4)
      | (go_at_call 19; ((with_reducible refine (A3.out w4).mono ?_); rintro e w5 ⟨rfl, hb5⟩); have HN5 := Lib.hid ((hb5.block _ (heap_lt HN4.out)).trans HN4.out); obtain ⟨z0, z1, z2⟩ := val_cells HN5.out; have fz := fz_of HN5.out; have S2 := keep3 hb5 S1; have HNE := Lib.hid (show V0.heap.size ≠ w.heap.size by have := HZV.out; omega); have B5 := Lib.hid (B4.out.thn hb5); clear hb5)
      | (go_at_call 19; ((with_reducible refine (A3.out w4).mono ?_); rintro e w5 ⟨rfl, hb5⟩); have S2 := keep3 hb5 S1; have HNX := Lib.hid trivial; have B5 := Lib.hid (B4.out.thn hb5); clear hb5)
      | (go_at_call 19; ((with_reducible refine (A3.out (w4.alloc (.cells #[.int .i64 0, .string ⟨#[]⟩, .string ⟨#[]⟩] 26))).mono ?_); rintro e w5 ⟨rfl, hb5⟩); have HN5 := Lib.hid ((hb5.block w4.heap.size (show w4.heap.size < (w4.alloc _).heap.size by simp)).trans (heap_alloc_new w4 _)); obtain ⟨z0, z1, z2⟩ := val_cells HN5.out; have fz := fz_of HN5.out; have S2 := keep3 hb5 SB; have HNE := Lib.hid (show w4.heap.size ≠ w.heap.size by have := heap_lt B4.out.2.1; omega); have B5 := Lib.hid ((B4.out.thn (below1 w4 (.cells #[.int .i64 0, .string ⟨#[]⟩, .string ⟨#[]⟩] 26))).thn hb5); clear hb5))
    all_goals
      go_wp2_with fail
      go_meet
    case rel => exact ⟨w5.heap.size, rfl, rfl, heap_alloc_new w5 _, B5.out.thn (below1 w5 _)⟩
    case rel => exact ⟨w4.heap.size, rfl, rfl, val_set HN5.out _ _ _, B5.out.setv (by have := heap_lt B4.out.2.1; omega) _ _ _⟩
    case rel => exact ⟨V0.heap.size, rfl, rfl, val_set HN5.out _ _ _, B5.out.setv (by have := HZV.out; omega) _ _ _⟩
  case rest =>
    obtain ⟨B, rfl, rfl, hBc, hbx⟩ := hcut
    have HX := Lib.hid hbx
    have HBC := Lib.hid hBc
    obtain ⟨x0, x1, x2⟩ := val_cells hbx.1
    obtain ⟨y0, y1, y2⟩ := val_cells hbx.2.1
    clear hBc hbx S0 SA
    go_wp2_with fail
    refine (A4.out _).mono ?_
    rintro e w6 ⟨rfl, hb6⟩
    have HX6 := Lib.hid ((HX.out.thn hb6).thn (below1 w6 (.cells #[.int .i64 (wrap64 (xn + yn)), .string E0, .string E0] 26)))
    obtain ⟨x0, x1, x2⟩ := val_cells HX6.out.1
    obtain ⟨y0, y1, y2⟩ := val_cells HX6.out.2.1
    obtain ⟨b0, b1, b2⟩ := val_cells (block_kept (below1 w6 (.cells #[.int .i64 (wrap64 (xn + yn)), .string E0, .string E0] 26)) (block_kept hb6 HBC.out))
    clear hb6
    go_wp2_with fail
    go_ret
    exact ⟨rfl, HX6.out.2.2⟩
end Go.Proofs.YtdkflmpdelfgoaaDoor
