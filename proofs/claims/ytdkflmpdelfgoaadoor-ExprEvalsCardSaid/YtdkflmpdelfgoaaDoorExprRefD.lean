/-
  The document's Add: what each call returns. Conditions: none.
-/
import Derived.Test.YtdkflmpdelfgoaaDoorExprRefA
import Derived.Deep.CutRange
import Derived.Deep.DeepCutAuto
namespace Go.Proofs.YtdkflmpdelfgoaaDoor
open Go.RowKit Go.Shelf
set_option linter.unusedVariables false
set_option linter.unusedSimpArgs false
attribute [local go_sem] Oper.semAt_some
def crA (a b : V3) : V3 × V3 := if a.2.1 = b.2.2 then (((a.1, E0, a.2.2), (b.1, b.2.1, E0)) : V3 × V3) else (a, b)
def crB (p : V3 × V3) : V3 × V3 := if p.1.2.2 = p.2.2.1 then ((p.1.1, p.1.2.1, E0), (p.2.1, E0, p.2.2.2)) else p
theorem cross_two (a b : V3) : crossV a b = crB (crA a b) := rfl
def tailV (c : V3 × V3) : V3 × Int := if (oneV c.1.2.1 c.2.2.1).2 && (oneV c.1.2.2 c.2.2.2).2 then ((wrap64 (c.1.1 + c.2.1), (oneV c.1.2.1 c.2.2.1).1, (oneV c.1.2.2 c.2.2.2).1), 0) else (Z3, 91)
theorem docAdd_c (x y : V3) : docAdd x y = tailV (crB (crA (clearV x) (clearV y))) := rfl
theorem Box3.crA {w W : World} {x y z : V3} (h : Box3 w x y z W) (he : x.2.1 = y.2.2) : Box3 w (crA x y).1 (crA x y).2 z ((W.setCell ⟨w.heap.size, 1, none⟩ (.string E0)).setCell ⟨w.heap.size + 1, 2, none⟩ (.string E0)) := by
  have := h.cross1
  unfold Go.Proofs.YtdkflmpdelfgoaaDoor.crA
  rw [if_pos he]; exact this
theorem Box3.crB {w W : World} {x y z : V3} (h : Box3 w x y z W) (he : x.2.2 = y.2.1) : Box3 w (crB (x, y)).1 (crB (x, y)).2 z ((W.setCell ⟨w.heap.size, 2, none⟩ (.string E0)).setCell ⟨w.heap.size + 1, 1, none⟩ (.string E0)) := by
  have := h.cross2
  unfold Go.Proofs.YtdkflmpdelfgoaaDoor.crB
  rw [if_pos he]; exact this
set_option maxRecDepth 100000 in
set_option maxHeartbeats 8000000 in
theorem radd_any (x y : V3) (w : World) :
    Calls Tryd.prog 20 #[vlV x, vlV y] w fun e w' => e = .returned (RV (docAdd x y)) ∧ Below w.heap.size w w' := by
  have CX := Lib.hid (fun V => rclear_any x V)
  have CY := Lib.hid (fun V => rclear_any y V)
  have B0 := Lib.hid (box3_new w x y Z3)
  have HR := Lib.hid (docAdd_c x y)
  generalize docAdd x y = R at *
  generalize clearV x = a at *
  generalize clearV y = b at *
  obtain ⟨xn, xp, xm⟩ := x
  obtain ⟨yn, yp, ym⟩ := y
  unfold vlV at *
  simp only at CX CY B0
  obtain ⟨an, ap, am⟩ := a
  obtain ⟨bn, bp, bm⟩ := b
  simp only at CX CY
  go_enter Tryd.func20, Tryd.ntmps20
  go_upto_region 1 with fail
  generalize (((w.alloc (.cells #[.int .i64 xn, .string xp, .string xm] 26)).alloc (.cells #[.int .i64 yn, .string yp, .string ym] 26)).alloc (.cells #[.int .i64 0, .string ⟨#[]⟩, .string ⟨#[]⟩] 26)) = W0 at *
  go_cut [] (fun wc => Box3 w (an, ap, am) (yn, yp, ym) Z3 wc)
  case first =>
    obtain ⟨x0, x1, x2⟩ := val_cells B0.out.1
    simp only at x0 x1 x2
    go_wp2_with fail
    refine (CX.out _).mono ?_
    rintro e w1 ⟨rfl, hb⟩
    have B1 := Lib.hid (B0.out.thn hb)
    obtain ⟨x0, x1, x2⟩ := val_cells B1.out.1
    have fx := fz_of B1.out.1
    clear hb
    go_wp2_with fail
    go_meet
    case rel => exact B1.out.set0 (an, ap, am)
  case rest =>
    have B1 := Lib.hid hcut
    clear hcut B0 CX
    go_upto_region 2 with fail
    go_cut [] (fun wc => Box3 w (an, ap, am) (bn, bp, bm) Z3 wc)
    case first =>
      obtain ⟨y0, y1, y2⟩ := val_cells B1.out.2.1
      simp only at y0 y1 y2
      go_wp2_with fail
      refine (CY.out _).mono ?_
      rintro e w1 ⟨rfl, hb⟩
      have B2 := Lib.hid (B1.out.thn hb)
      obtain ⟨y0, y1, y2⟩ := val_cells B2.out.2.1
      have fy := fz_of B2.out.2.1
      clear hb
      go_wp2_with fail
      go_meet
      case rel => exact B2.out.set1 (bn, bp, bm)
    case rest =>
      have B2 := Lib.hid hcut
      clear hcut B1 CY
      obtain ⟨x0, x1, x2⟩ := val_cells B2.out.1
      obtain ⟨y0, y1, y2⟩ := val_cells B2.out.2.1
      have fx := fz_of B2.out.1
      have fy := fz_of B2.out.2.1
      simp only at x0 x1 x2 y0 y1 y2
      by_cases h1 : ap = bm
      · subst h1
        have B3 := Lib.hid (B2.out.cross1)
        have HR1 := Lib.hid (HR.out.trans (congrArg (fun z => tailV (crB z)) (show crA (an, ap, am) (bn, bp, ap) = ((an, E0, am), (bn, bp, E0)) from if_pos rfl)))
        simp only at B3
        go_upto_region 6 with fail
        generalize (wc.setCell ⟨w.heap.size, 1, none⟩ (.string ⟨#[]⟩)).setCell ⟨w.heap.size + 1, 2, none⟩ (.string ⟨#[]⟩) = VA at *
        clear x0 x1 x2 y0 y1 y2 fx fy
        obtain ⟨x0, x1, x2⟩ := val_cells B3.out.1
        obtain ⟨y0, y1, y2⟩ := val_cells B3.out.2.1
        have fx := fz_of B3.out.1
        have fy := fz_of B3.out.2.1
        simp only at x0 x1 x2 y0 y1 y2
        by_cases h2 : am = bp
        · subst h2
          have Ca := Lib.hid (B3.out.cross2)
          have HR2 := Lib.hid (HR1.out.trans (congrArg tailV (show crB ((an, E0, am), (bn, am, E0)) = ((an, E0, E0), (bn, E0, E0)) from if_pos rfl)))
          simp only at Ca
          go_upto_region 9 with fail
          generalize (VA.setCell ⟨w.heap.size, 2, none⟩ (.string ⟨#[]⟩)).setCell ⟨w.heap.size + 1, 1, none⟩ (.string ⟨#[]⟩) = Wa at *
          clear x0 x1 x2 y0 y1 y2 fx fy
          have R1 := Lib.hid (fun V => rone_any (E0) (E0) V)
          have R2 := Lib.hid (fun V => rone_any (E0) (E0) V)
          have HR3 := HR2.out
          unfold tailV at HR3
          simp only at HR3
          have HR4 := Lib.hid HR3
          clear HR3
          generalize oneV (E0) (E0) = o1 at *
          obtain ⟨s1, c1⟩ := o1
          simp only at R1 R2 HR4
          obtain ⟨p0, p1, p2⟩ := val_cells Ca.out.1
          obtain ⟨q0, q1, q2⟩ := val_cells Ca.out.2.1
          obtain ⟨z0, z1, z2⟩ := val_cells Ca.out.2.2.1
          have fz := fz_of Ca.out.2.2.1
          simp only at p0 p1 p2 q0 q1 q2 z0 z1 z2
          go_wp2_with fail
          refine (R1.out _).mono ?_
          rintro e w3 ⟨rfl, rfl⟩
          go_wp2_with fail
          refine (R2.out _).mono ?_
          rintro e w3 ⟨rfl, rfl⟩
          cases c1
          all_goals go_wp2_with fail
          · obtain ⟨e0, e1, e2⟩ := val_cells (val_set Ca.out.2.2.1 (.int .i64 0) (.string E0) (.string E0))
            exact bodyPost_ret (v := RV (Z3, 91)) (by simp [RV, vlV, results, Tryd.results20, go_sem, e0, e1, e2]) rfl ⟨by rw [HR4.out]; rfl, below_val Ca.out.2.2.2 (by omega) _ _ _⟩
          · obtain ⟨e0, e1, e2⟩ := val_cells (val_set Ca.out.2.2.1 (.int .i64 (wrap64 (an + bn))) (.string s1) (.string s1))
            exact bodyPost_ret (v := RV ((wrap64 (an + bn), s1, s1), 0)) (by simp [RV, vlV, results, Tryd.results20, go_sem, e0, e1, e2]) rfl ⟨by rw [HR4.out]; rfl, below_val Ca.out.2.2.2 (by omega) _ _ _⟩
        · have h2' := lists_ne h2
          have HR2 := Lib.hid (HR1.out.trans (congrArg tailV (show crB ((an, E0, am), (bn, bp, E0)) = ((an, E0, am), (bn, bp, E0)) from if_neg h2)))
          go_upto_region 9 with fail
          clear x0 x1 x2 y0 y1 y2 fx fy
          have R1 := Lib.hid (fun V => rone_any (E0) (bp) V)
          have R2 := Lib.hid (fun V => rone_any (am) (E0) V)
          have HR3 := HR2.out
          unfold tailV at HR3
          simp only at HR3
          have HR4 := Lib.hid HR3
          clear HR3
          generalize oneV (E0) (bp) = o1 at *
          generalize oneV (am) (E0) = o2 at *
          obtain ⟨s1, c1⟩ := o1
          obtain ⟨s2, c2⟩ := o2
          simp only at R1 R2 HR4
          obtain ⟨p0, p1, p2⟩ := val_cells B3.out.1
          obtain ⟨q0, q1, q2⟩ := val_cells B3.out.2.1
          obtain ⟨z0, z1, z2⟩ := val_cells B3.out.2.2.1
          have fz := fz_of B3.out.2.2.1
          simp only at p0 p1 p2 q0 q1 q2 z0 z1 z2
          go_wp2_with fail
          refine (R1.out _).mono ?_
          rintro e w3 ⟨rfl, rfl⟩
          go_wp2_with fail
          refine (R2.out _).mono ?_
          rintro e w3 ⟨rfl, rfl⟩
          cases c1 <;> cases c2
          all_goals go_wp2_with fail
          · obtain ⟨e0, e1, e2⟩ := val_cells (val_set B3.out.2.2.1 (.int .i64 0) (.string E0) (.string E0))
            exact bodyPost_ret (v := RV (Z3, 91)) (by simp [RV, vlV, results, Tryd.results20, go_sem, e0, e1, e2]) rfl ⟨by rw [HR4.out]; rfl, below_val B3.out.2.2.2 (by omega) _ _ _⟩
          · obtain ⟨e0, e1, e2⟩ := val_cells (val_set B3.out.2.2.1 (.int .i64 0) (.string E0) (.string E0))
            exact bodyPost_ret (v := RV (Z3, 91)) (by simp [RV, vlV, results, Tryd.results20, go_sem, e0, e1, e2]) rfl ⟨by rw [HR4.out]; rfl, below_val B3.out.2.2.2 (by omega) _ _ _⟩
          · obtain ⟨e0, e1, e2⟩ := val_cells (val_set B3.out.2.2.1 (.int .i64 0) (.string E0) (.string E0))
            exact bodyPost_ret (v := RV (Z3, 91)) (by simp [RV, vlV, results, Tryd.results20, go_sem, e0, e1, e2]) rfl ⟨by rw [HR4.out]; rfl, below_val B3.out.2.2.2 (by omega) _ _ _⟩
          · obtain ⟨e0, e1, e2⟩ := val_cells (val_set B3.out.2.2.1 (.int .i64 (wrap64 (an + bn))) (.string s1) (.string s2))
            exact bodyPost_ret (v := RV ((wrap64 (an + bn), s1, s2), 0)) (by simp [RV, vlV, results, Tryd.results20, go_sem, e0, e1, e2]) rfl ⟨by rw [HR4.out]; rfl, below_val B3.out.2.2.2 (by omega) _ _ _⟩
      · have h1' := lists_ne h1
        have HR1 := Lib.hid (HR.out.trans (congrArg (fun z => tailV (crB z)) (show crA (an, ap, am) (bn, bp, bm) = ((an, ap, am), (bn, bp, bm)) from if_neg h1)))
        go_upto_region 6 with fail
        clear x0 x1 x2 y0 y1 y2 fx fy
        obtain ⟨x0, x1, x2⟩ := val_cells B2.out.1
        obtain ⟨y0, y1, y2⟩ := val_cells B2.out.2.1
        have fx := fz_of B2.out.1
        have fy := fz_of B2.out.2.1
        simp only at x0 x1 x2 y0 y1 y2
        by_cases h2 : am = bp
        · subst h2
          have Cb := Lib.hid (B2.out.cross2)
          have HR2 := Lib.hid (HR1.out.trans (congrArg tailV (show crB ((an, ap, am), (bn, am, bm)) = ((an, ap, E0), (bn, E0, bm)) from if_pos rfl)))
          simp only at Cb
          go_upto_region 9 with fail
          generalize (wc.setCell ⟨w.heap.size, 2, none⟩ (.string ⟨#[]⟩)).setCell ⟨w.heap.size + 1, 1, none⟩ (.string ⟨#[]⟩) = Wb at *
          clear x0 x1 x2 y0 y1 y2 fx fy
          have R1 := Lib.hid (fun V => rone_any (ap) (E0) V)
          have R2 := Lib.hid (fun V => rone_any (E0) (bm) V)
          have HR3 := HR2.out
          unfold tailV at HR3
          simp only at HR3
          have HR4 := Lib.hid HR3
          clear HR3
          generalize oneV (ap) (E0) = o1 at *
          generalize oneV (E0) (bm) = o2 at *
          obtain ⟨s1, c1⟩ := o1
          obtain ⟨s2, c2⟩ := o2
          simp only at R1 R2 HR4
          obtain ⟨p0, p1, p2⟩ := val_cells Cb.out.1
          obtain ⟨q0, q1, q2⟩ := val_cells Cb.out.2.1
          obtain ⟨z0, z1, z2⟩ := val_cells Cb.out.2.2.1
          have fz := fz_of Cb.out.2.2.1
          simp only at p0 p1 p2 q0 q1 q2 z0 z1 z2
          go_wp2_with fail
          refine (R1.out _).mono ?_
          rintro e w3 ⟨rfl, rfl⟩
          go_wp2_with fail
          refine (R2.out _).mono ?_
          rintro e w3 ⟨rfl, rfl⟩
          cases c1 <;> cases c2
          all_goals go_wp2_with fail
          · obtain ⟨e0, e1, e2⟩ := val_cells (val_set Cb.out.2.2.1 (.int .i64 0) (.string E0) (.string E0))
            exact bodyPost_ret (v := RV (Z3, 91)) (by simp [RV, vlV, results, Tryd.results20, go_sem, e0, e1, e2]) rfl ⟨by rw [HR4.out]; rfl, below_val Cb.out.2.2.2 (by omega) _ _ _⟩
          · obtain ⟨e0, e1, e2⟩ := val_cells (val_set Cb.out.2.2.1 (.int .i64 0) (.string E0) (.string E0))
            exact bodyPost_ret (v := RV (Z3, 91)) (by simp [RV, vlV, results, Tryd.results20, go_sem, e0, e1, e2]) rfl ⟨by rw [HR4.out]; rfl, below_val Cb.out.2.2.2 (by omega) _ _ _⟩
          · obtain ⟨e0, e1, e2⟩ := val_cells (val_set Cb.out.2.2.1 (.int .i64 0) (.string E0) (.string E0))
            exact bodyPost_ret (v := RV (Z3, 91)) (by simp [RV, vlV, results, Tryd.results20, go_sem, e0, e1, e2]) rfl ⟨by rw [HR4.out]; rfl, below_val Cb.out.2.2.2 (by omega) _ _ _⟩
          · obtain ⟨e0, e1, e2⟩ := val_cells (val_set Cb.out.2.2.1 (.int .i64 (wrap64 (an + bn))) (.string s1) (.string s2))
            exact bodyPost_ret (v := RV ((wrap64 (an + bn), s1, s2), 0)) (by simp [RV, vlV, results, Tryd.results20, go_sem, e0, e1, e2]) rfl ⟨by rw [HR4.out]; rfl, below_val Cb.out.2.2.2 (by omega) _ _ _⟩
        · have h2' := lists_ne h2
          have HR2 := Lib.hid (HR1.out.trans (congrArg tailV (show crB ((an, ap, am), (bn, bp, bm)) = ((an, ap, am), (bn, bp, bm)) from if_neg h2)))
          go_upto_region 9 with fail
          clear x0 x1 x2 y0 y1 y2 fx fy
          have R1 := Lib.hid (fun V => rone_any (ap) (bp) V)
          have R2 := Lib.hid (fun V => rone_any (am) (bm) V)
          have HR3 := HR2.out
          unfold tailV at HR3
          simp only at HR3
          have HR4 := Lib.hid HR3
          clear HR3
          generalize oneV (ap) (bp) = o1 at *
          generalize oneV (am) (bm) = o2 at *
          obtain ⟨s1, c1⟩ := o1
          obtain ⟨s2, c2⟩ := o2
          simp only at R1 R2 HR4
          obtain ⟨p0, p1, p2⟩ := val_cells B2.out.1
          obtain ⟨q0, q1, q2⟩ := val_cells B2.out.2.1
          obtain ⟨z0, z1, z2⟩ := val_cells B2.out.2.2.1
          have fz := fz_of B2.out.2.2.1
          simp only at p0 p1 p2 q0 q1 q2 z0 z1 z2
          go_wp2_with fail
          refine (R1.out _).mono ?_
          rintro e w3 ⟨rfl, rfl⟩
          go_wp2_with fail
          refine (R2.out _).mono ?_
          rintro e w3 ⟨rfl, rfl⟩
          cases c1 <;> cases c2
          all_goals go_wp2_with fail
          · obtain ⟨e0, e1, e2⟩ := val_cells (val_set B2.out.2.2.1 (.int .i64 0) (.string E0) (.string E0))
            exact bodyPost_ret (v := RV (Z3, 91)) (by simp [RV, vlV, results, Tryd.results20, go_sem, e0, e1, e2]) rfl ⟨by rw [HR4.out]; rfl, below_val B2.out.2.2.2 (by omega) _ _ _⟩
          · obtain ⟨e0, e1, e2⟩ := val_cells (val_set B2.out.2.2.1 (.int .i64 0) (.string E0) (.string E0))
            exact bodyPost_ret (v := RV (Z3, 91)) (by simp [RV, vlV, results, Tryd.results20, go_sem, e0, e1, e2]) rfl ⟨by rw [HR4.out]; rfl, below_val B2.out.2.2.2 (by omega) _ _ _⟩
          · obtain ⟨e0, e1, e2⟩ := val_cells (val_set B2.out.2.2.1 (.int .i64 0) (.string E0) (.string E0))
            exact bodyPost_ret (v := RV (Z3, 91)) (by simp [RV, vlV, results, Tryd.results20, go_sem, e0, e1, e2]) rfl ⟨by rw [HR4.out]; rfl, below_val B2.out.2.2.2 (by omega) _ _ _⟩
          · obtain ⟨e0, e1, e2⟩ := val_cells (val_set B2.out.2.2.1 (.int .i64 (wrap64 (an + bn))) (.string s1) (.string s2))
            exact bodyPost_ret (v := RV ((wrap64 (an + bn), s1, s2), 0)) (by simp [RV, vlV, results, Tryd.results20, go_sem, e0, e1, e2]) rfl ⟨by rw [HR4.out]; rfl, below_val B2.out.2.2.2 (by omega) _ _ _⟩
end Go.Proofs.YtdkflmpdelfgoaaDoor
