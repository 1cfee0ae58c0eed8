/-
  ExprValues: what each call returns. Conditions: what the variables hold (GoodE), texts of at most 2^48 bytes, numbers of 64 bits.
-/
import Derived.Test.YtdkflmpdelfgoaaDoorExprNumA
import Derived.Test.YtdkflmpdelfgoaaDoorExprRefC
import Derived.Test.YtdkflmpdelfgoaaDoorExprRefD
namespace Go.Proofs.YtdkflmpdelfgoaaDoor
open Go.RowKit Go.Shelf
set_option linter.unusedVariables false
set_option linter.unusedSimpArgs false
attribute [local go_sem] Oper.semAt_some

/-- the boxes of two values that were laid behind -/
def BoxR (r : V3) (A B : Nat) (W : World) : Prop := W.heap[A]? = some (.cells #[.int .i64 r.1, .string r.2.1, .string r.2.2] 26 (0, 0)) ∧ W.heap[B]? = some (.cells #[.int .i64 r.1, .string r.2.1, .string r.2.2] 26 (0, 0))
theorem BoxR.thn {r : V3} {A B : Nat} {W W' : World} (h : BoxR r A B W) (hb : Below W.heap.size W W') : BoxR r A B W' := ⟨block_kept hb h.1, block_kept hb h.2⟩
theorem nine_kept {W W' : World} (hb : Below W.heap.size W W') {a b c : Nat} {x0 x1 x2 r0 r1 r2 s0 s1 s2 : Value}
    (h : (W.cell? ⟨a, 0, none⟩ = some x0 ∧ W.cell? ⟨a, 1, none⟩ = some x1 ∧ W.cell? ⟨a, 2, none⟩ = some x2) ∧ (W.cell? ⟨b, 0, none⟩ = some r0 ∧ W.cell? ⟨b, 1, none⟩ = some r1 ∧ W.cell? ⟨b, 2, none⟩ = some r2) ∧ W.cell? ⟨c, 0, none⟩ = some s0 ∧ W.cell? ⟨c, 1, none⟩ = some s1 ∧ W.cell? ⟨c, 2, none⟩ = some s2) :
    (W'.cell? ⟨a, 0, none⟩ = some x0 ∧ W'.cell? ⟨a, 1, none⟩ = some x1 ∧ W'.cell? ⟨a, 2, none⟩ = some x2) ∧ (W'.cell? ⟨b, 0, none⟩ = some r0 ∧ W'.cell? ⟨b, 1, none⟩ = some r1 ∧ W'.cell? ⟨b, 2, none⟩ = some r2) ∧ W'.cell? ⟨c, 0, none⟩ = some s0 ∧ W'.cell? ⟨c, 1, none⟩ = some s1 ∧ W'.cell? ⟨c, 2, none⟩ = some s2 :=
  ⟨keep3 hb h.1, keep3 hb h.2.1, keep3 hb h.2.2⟩
set_option maxRecDepth 100000 in
set_option maxHeartbeats 16000000 in
theorem values_any (x y : V3) (s : BA) (w : World) (hG : GoodE w) (hx0 : -9223372036854775808 ≤ x.1 ∧ x.1 ≤ 9223372036854775807) (hx1 : x.2.1.size ≤ 281474976710656) (hx2 : x.2.2.size ≤ 281474976710656) (hy1 : y.2.1.size ≤ 281474976710656) (hy2 : y.2.2.size ≤ 281474976710656) (hs : s.size ≤ 281474976710656) :
    Calls Tryd.prog 4 #[vlV x, vlV y, .string s] w fun e w' => e = .returned (.bool true) ∧ Below w.heap.size w w' := by
  have LV := Lib.hid (fun V (hb : Below w.heap.size w V) => live_any V (hG.thn hb))
  have B0 := Lib.hid (boxVV_new w x y)
  by_cases hlong : 3000 < x.2.1.size + x.2.2.size ∨ 3000 < s.size
  · obtain ⟨xn, xp, xm⟩ := x
    obtain ⟨yn, yp, ym⟩ := y
    simp only [vlV] at B0 hlong hx1 hx2 ⊢
    have hw : IntKind.i64.wrap ((xp.size : Int) + (xm.size : Int)) = (xp.size : Int) + (xm.size : Int) := IntWalk.i64_in _ (by omega)
    by_cases h1 : 3000 < xp.size + xm.size
    · have h1' : (3000 : Int) < (xp.size : Int) + (xm.size : Int) := by omega
      clear hlong hG
      go_enter Tryd.func4, Tryd.ntmps4
      go_wp2_with fail
      generalize (w.alloc (.cells #[.int .i64 xn, .string xp, .string xm] 26)).alloc (.cells #[.int .i64 yn, .string yp, .string ym] 26) = W0 at *
      refine (LV.out _ B0.out.2.2).mono ?_
      rintro e w1 ⟨rfl, hb⟩
      have B1 := Lib.hid (B0.out.thn hb)
      obtain ⟨x0, x1, x2⟩ := val_cells B1.out.1
      clear hb
      go_wp2_with fail
      go_ret
      exact ⟨rfl, B1.out.2.2⟩
    · have h1' : ¬ ((3000 : Int) < (xp.size : Int) + (xm.size : Int)) := by omega
      have h2' : (3000 : Int) < (s.size : Int) := by omega
      clear hlong hG
      go_enter Tryd.func4, Tryd.ntmps4
      go_wp2_with fail
      generalize (w.alloc (.cells #[.int .i64 xn, .string xp, .string xm] 26)).alloc (.cells #[.int .i64 yn, .string yp, .string ym] 26) = W0 at *
      refine (LV.out _ B0.out.2.2).mono ?_
      rintro e w1 ⟨rfl, hb⟩
      have B1 := Lib.hid (B0.out.thn hb)
      obtain ⟨x0, x1, x2⟩ := val_cells B1.out.1
      clear hb
      go_wp2_with fail
      go_ret
      exact ⟨rfl, B1.out.2.2⟩
  · have hL : x.2.1.size + x.2.2.size ≤ 3000 ∧ s.size ≤ 3000 := by omega
    have A1 := Lib.hid (fun V => add_any x y V hx1 hx2 hy1 hy2)
    have A2 := Lib.hid (fun V => radd_any x y V)
    rw [docAdd_eq] at A2
    have P1 := Lib.hid (fun V (hb : Below w.heap.size w V) => print_any x V (hG.thn hb) hx0.1 hx0.2 (by unfold maxLen; omega) (by unfold maxLen; omega))
    have P2 := Lib.hid (fun V => rprint_any x V hx0.1 hx0.2 (by unfold maxLen; omega) (by unfold maxLen; omega))
    have NG := Lib.hid (fun V => neg_any x.1 x.2.1 x.2.2 V hx1 hx2)
    have RN := Lib.hid (fun V => rneg_any x V)
    have IS := Lib.hid (fun V => isSym_any s V (by unfold maxLen; omega))
    have RS := Lib.hid (fun V => rIsSym_any s V (by unfold maxLen; omega))
    clear hG hx1 hx2 hy1 hy2 hs hlong hx0
    generalize sumR x y = r at *
    obtain ⟨⟨rn, rp, rm⟩, re⟩ := r
    generalize printV x = pv at *
    obtain ⟨pt, pe⟩ := pv
    obtain ⟨xn, xp, xm⟩ := x
    obtain ⟨yn, yp, ym⟩ := y
    simp only [negV, RV, PV, vlV] at A1 A2 P1 P2 NG RN B0 hL ⊢
    generalize wrap64 (-xn) = u at *
    generalize symB s.data.toList = sb at *
    have hw : IntKind.i64.wrap ((xp.size : Int) + (xm.size : Int)) = (xp.size : Int) + (xm.size : Int) := IntWalk.i64_in _ (by omega)
    have h1' : ¬ ((3000 : Int) < (xp.size : Int) + (xm.size : Int)) := by omega
    have h2' : ¬ ((3000 : Int) < (s.size : Int)) := by omega
    clear hL
    go_enter Tryd.func4, Tryd.ntmps4
    go_wp2_with fail
    generalize (w.alloc (.cells #[.int .i64 xn, .string xp, .string xm] 26)).alloc (.cells #[.int .i64 yn, .string yp, .string ym] 26) = W0 at *
    refine (LV.out _ B0.out.2.2).mono ?_
    rintro e w1 ⟨rfl, hb⟩
    have B1 := Lib.hid (B0.out.thn hb)
    obtain ⟨x0, x1, x2⟩ := val_cells B1.out.1
    obtain ⟨y0, y1, y2⟩ := val_cells B1.out.2.1
    clear hb
    go_wp2_with fail
    refine (A1.out _).mono ?_
    rintro e w2 ⟨rfl, hb⟩
    have B2 := Lib.hid ((B1.out.thn hb).thn (below1 w2 (.cells #[.int .i64 rn, .string rp, .string rm] 26)))
    have C2 := Lib.hid (heap_alloc_new w2 (.cells #[.int .i64 rn, .string rp, .string rm] 26))
    obtain ⟨x0, x1, x2⟩ := val_cells B2.out.1
    obtain ⟨y0, y1, y2⟩ := val_cells B2.out.2.1
    clear hb
    go_wp2_with fail
    refine (A2.out _).mono ?_
    rintro e w3 ⟨rfl, hb⟩
    have B3 := Lib.hid ((B2.out.thn hb).thn (below1 w3 (.cells #[.int .i64 rn, .string rp, .string rm] 26)))
    have C3 := Lib.hid (show BoxR (rn, rp, rm) w2.heap.size w3.heap.size (w3.alloc (.cells #[.int .i64 rn, .string rp, .string rm] 26)) from ⟨block_kept (below1 w3 _) (block_kept hb C2.out), heap_alloc_new w3 _⟩)
    obtain ⟨x0, x1, x2⟩ := val_cells B3.out.1
    clear hb y0 y1 y2 C2
    go_wp2_with fail
    refine (P1.out _ B3.out.2.2).mono ?_
    rintro e w4 ⟨rfl, hb⟩
    have B4 := Lib.hid (B3.out.thn hb)
    have C4 := Lib.hid (C3.out.thn hb)
    obtain ⟨x0, x1, x2⟩ := val_cells B4.out.1
    clear hb
    go_wp2_with fail
    refine (P2.out _).mono ?_
    rintro e w5 ⟨rfl, hb⟩
    have B5 := Lib.hid (B4.out.thn hb)
    have S0 := (show (w5.cell? ⟨w.heap.size, 0, none⟩ = some (.int .i64 xn) ∧ w5.cell? ⟨w.heap.size, 1, none⟩ = some (.string xp) ∧ w5.cell? ⟨w.heap.size, 2, none⟩ = some (.string xm)) ∧ (w5.cell? ⟨w2.heap.size, 0, none⟩ = some (.int .i64 rn) ∧ w5.cell? ⟨w2.heap.size, 1, none⟩ = some (.string rp) ∧ w5.cell? ⟨w2.heap.size, 2, none⟩ = some (.string rm)) ∧ w5.cell? ⟨w3.heap.size, 0, none⟩ = some (.int .i64 rn) ∧ w5.cell? ⟨w3.heap.size, 1, none⟩ = some (.string rp) ∧ w5.cell? ⟨w3.heap.size, 2, none⟩ = some (.string rm) from ⟨val_cells B5.out.1, val_cells (C4.out.thn hb).1, val_cells (C4.out.thn hb).2⟩)
    clear hb x0 x1 x2
    go_wp2_with fail
    go_region_held3 (fun w' => (w'.cell? ⟨w.heap.size, 0, none⟩ = some (.int .i64 xn) ∧ w'.cell? ⟨w.heap.size, 1, none⟩ = some (.string xp) ∧ w'.cell? ⟨w.heap.size, 2, none⟩ = some (.string xm)) ∧ (w'.cell? ⟨w2.heap.size, 0, none⟩ = some (.int .i64 rn) ∧ w'.cell? ⟨w2.heap.size, 1, none⟩ = some (.string rp) ∧ w'.cell? ⟨w2.heap.size, 2, none⟩ = some (.string rm)) ∧ w'.cell? ⟨w3.heap.size, 0, none⟩ = some (.int .i64 rn) ∧ w'.cell? ⟨w3.heap.size, 1, none⟩ = some (.string rp) ∧ w'.cell? ⟨w3.heap.size, 2, none⟩ = some (.string rm)) (first | exact S0 | exact S1 | exact S2) (first
      | (go_at_call 23; ((with_reducible refine (NG.out w5.drew).mono ?_); rintro e w6 ⟨rfl, hb6⟩); have S1 := nine_kept hb6 S0; have B6 := Lib.hid (B5.out.thn (show Below w5.heap.size w5 w6 from Below.thn (Below.refl _ w5).drew (Nat.le_refl _) hb6)); clear hb6)
      | (go_at_call 24; ((with_reducible refine (RN.out w6).mono ?_); rintro e w7 ⟨rfl, hb7⟩); have S2 := nine_kept hb7 S1; have B7 := Lib.hid (B6.out.thn hb7); clear hb7)
      | (go_at_call 25; ((with_reducible refine (IS.out w7).mono ?_); rintro e w8 ⟨rfl, rfl⟩))
      | (go_at_call 26; ((with_reducible refine (RS.out w7).mono ?_); rintro e w8 ⟨rfl, rfl⟩)))
    all_goals
      go_wp2_with fail
      go_ret
      exact ⟨rfl, B7.out.2.2⟩
end Go.Proofs.YtdkflmpdelfgoaaDoor
