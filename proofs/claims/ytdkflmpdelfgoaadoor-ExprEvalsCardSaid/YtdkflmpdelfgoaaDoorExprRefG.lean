/-
  The document's two: what each call returns. Conditions: the operators' kinds; numbers of 64 bits.
-/
import Derived.Test.YtdkflmpdelfgoaaDoorExprRefE
import Derived.Test.YtdkflmpdelfgoaaDoorExprRefD
import Derived.Test.YtdkflmpdelfgoaaDoorExprRefC
import Derived.Test.YtdkflmpdelfgoaaDoorExprG
import Derived.Deep.RegionHeld3
import Derived.Test.YtdkflmpdelfgoaaDoorExprPN
namespace Go.Proofs.YtdkflmpdelfgoaaDoor
open Go.RowKit Go.Shelf
set_option linter.unusedVariables false
set_option linter.unusedSimpArgs false
attribute [local go_sem] Oper.semAt_some

theorem Box3.set2 {w W : World} {x y z : V3} (h : Box3 w x y z W) (u : V3) : Box3 w x y u (((W.setCell ⟨w.heap.size + 1 + 1, 0, none⟩ (.int .i64 u.1)).setCell ⟨w.heap.size + 1 + 1, 1, none⟩ (.string u.2.1)).setCell ⟨w.heap.size + 1 + 1, 2, none⟩ (.string u.2.2)) :=
  ⟨set_far (set_far (set_far h.1 (by omega)) (by omega)) (by omega), set_far (set_far (set_far h.2.1 (by omega)) (by omega)) (by omega), val_set h.2.2.1 _ _ _, below_val h.2.2.2 (by omega) _ _ _⟩
def twoT (k : Int) (x y : V3) : V3 × Int := reckonT ⟨k, 0, E0⟩ [x, y]
theorem two_end {w V : World} {x y : V3} {r : V3 × Int} {tm : Array Value} (h : Box3 w x y r.1 V) : V.cell? ⟨w.heap.size + 1 + 1, 0, none⟩ = some (.int .i64 r.1.1) ∧ V.cell? ⟨w.heap.size + 1 + 1, 1, none⟩ = some (.string r.1.2.1) ∧ V.cell? ⟨w.heap.size + 1 + 1, 2, none⟩ = some (.string r.1.2.2) := val_cells h.2.2.1
theorem six_keep {W W' : World} (hb : Below W.heap.size W W') {a b : Nat} {x0 x1 x2 r0 r1 r2 : Value}
    (h : (W.cell? ⟨a, 0, none⟩ = some x0 ∧ W.cell? ⟨a, 1, none⟩ = some x1 ∧ W.cell? ⟨a, 2, none⟩ = some x2) ∧ W.cell? ⟨b, 0, none⟩ = some r0 ∧ W.cell? ⟨b, 1, none⟩ = some r1 ∧ W.cell? ⟨b, 2, none⟩ = some r2) :
    (W'.cell? ⟨a, 0, none⟩ = some x0 ∧ W'.cell? ⟨a, 1, none⟩ = some x1 ∧ W'.cell? ⟨a, 2, none⟩ = some x2) ∧ W'.cell? ⟨b, 0, none⟩ = some r0 ∧ W'.cell? ⟨b, 1, none⟩ = some r1 ∧ W'.cell? ⟨b, 2, none⟩ = some r2 := ⟨keep3 hb h.1, keep3 hb h.2⟩
set_option maxRecDepth 100000 in
set_option maxHeartbeats 16000000 in
theorem rtwo_any (k : Int) (x y : V3) (hk : 5 ≤ k ∧ k ≤ 14) (hx : -9223372036854775808 ≤ x.1 ∧ x.1 ≤ 9223372036854775807) (w : World) :
    Calls Tryd.prog 32 #[.int .i64 k, vlV x, vlV y] w fun e w' => e = .returned (RV (twoT k x y)) ∧ Below w.heap.size w w' := by
  have B0 := Lib.hid (box3_new w x y Z3)
  by_cases h8 : k = 8
  · subst h8
    have hT : twoT 8 x y = sumR x y := rfl
    rw [hT]
    have AD := Lib.hid (fun V => radd_any x y V)
    rw [docAdd_eq] at AD
    generalize sumR x y = r at *
    obtain ⟨⟨rn, rp, rm⟩, re⟩ := r
    obtain ⟨xn, xp, xm⟩ := x
    obtain ⟨yn, yp, ym⟩ := y
    unfold RV vlV at *
    simp only at AD B0 ⊢
    clear hk hx hT
    go_enter Tryd.func32, Tryd.ntmps32
    go_upto_region 1 with fail
    generalize (((w.alloc (.cells #[.int .i64 xn, .string xp, .string xm] 26)).alloc (.cells #[.int .i64 yn, .string yp, .string ym] 26)).alloc (.cells #[.int .i64 0, .string ⟨#[]⟩, .string ⟨#[]⟩] 26)) = W0 at *
    obtain ⟨x0, x1, x2⟩ := val_cells B0.out.1
    obtain ⟨y0, y1, y2⟩ := val_cells B0.out.2.1
    simp only at x0 x1 x2 y0 y1 y2
    go_wp2_with fail
    refine (AD.out _).mono ?_
    rintro e w1 ⟨rfl, hb⟩
    have B1 := Lib.hid (B0.out.thn hb)
    obtain ⟨z0, z1, z2⟩ := val_cells B1.out.2.2.1
    have fz := fz_of B1.out.2.2.1
    clear hb
    go_wp2_with fail
    obtain ⟨e0, e1, e2⟩ := val_cells (B1.out.set2 (rn, rp, rm)).2.2.1
    exact bodyPost_ret (v := RV ((rn, rp, rm), re)) (by simp [RV, vlV, results, Tryd.results32, go_sem, e0, e1, e2]) rfl ⟨rfl, (B1.out.set2 (rn, rp, rm)).2.2.2⟩
  have a8 : (k == 8) = false := by rw [beq_eq_false_iff_ne]; exact h8
  by_cases h9 : k = 9
  · subst h9
    have hT : twoT 9 x y = sumR x (negV y) := rfl
    rw [hT]
    have NG := Lib.hid (fun V => rneg_any y V)
    have AD := Lib.hid (fun V => radd_any x (negV y) V)
    rw [docAdd_eq] at AD
    generalize sumR x (negV y) = r at *
    generalize negV y = ny at *
    obtain ⟨⟨rn, rp, rm⟩, re⟩ := r
    obtain ⟨xn, xp, xm⟩ := x
    obtain ⟨yn, yp, ym⟩ := y
    obtain ⟨nn, np, nm⟩ := ny
    unfold RV vlV at *
    simp only at AD NG B0 ⊢
    clear hk hx hT
    go_enter Tryd.func32, Tryd.ntmps32
    go_upto_region 1 with fail
    generalize (((w.alloc (.cells #[.int .i64 xn, .string xp, .string xm] 26)).alloc (.cells #[.int .i64 yn, .string yp, .string ym] 26)).alloc (.cells #[.int .i64 0, .string ⟨#[]⟩, .string ⟨#[]⟩] 26)) = W0 at *
    obtain ⟨x0, x1, x2⟩ := val_cells B0.out.1
    obtain ⟨y0, y1, y2⟩ := val_cells B0.out.2.1
    simp only at x0 x1 x2 y0 y1 y2
    have S0 := (show (W0.cell? ⟨w.heap.size, 0, none⟩ = some (.int .i64 xn) ∧ W0.cell? ⟨w.heap.size, 1, none⟩ = some (.string xp) ∧ W0.cell? ⟨w.heap.size, 2, none⟩ = some (.string xm)) ∧ W0.cell? ⟨w.heap.size + 1, 0, none⟩ = some (.int .i64 yn) ∧ W0.cell? ⟨w.heap.size + 1, 1, none⟩ = some (.string yp) ∧ W0.cell? ⟨w.heap.size + 1, 2, none⟩ = some (.string ym) from ⟨⟨x0, x1, x2⟩, y0, y1, y2⟩)
    clear x0 x1 x2 y0 y1 y2
    go_upto_region 5 with fail
    go_region_held3 (fun w' => (w'.cell? ⟨w.heap.size, 0, none⟩ = some (.int .i64 xn) ∧ w'.cell? ⟨w.heap.size, 1, none⟩ = some (.string xp) ∧ w'.cell? ⟨w.heap.size, 2, none⟩ = some (.string xm)) ∧ w'.cell? ⟨w.heap.size + 1, 0, none⟩ = some (.int .i64 yn) ∧ w'.cell? ⟨w.heap.size + 1, 1, none⟩ = some (.string yp) ∧ w'.cell? ⟨w.heap.size + 1, 2, none⟩ = some (.string ym)) (first | exact S0 | exact S1 | exact S2 | exact S3) (first
      | (go_at_call 24; ((with_reducible refine (NG.out W0.drew).mono ?_); rintro e w1 ⟨rfl, hb1⟩); have S1 := six_keep hb1 S0; have B1 := Lib.hid (B0.out.thn (show Below W0.heap.size W0 w1 from Below.thn (Below.refl _ W0).drew (Nat.le_refl _) hb1)); clear hb1)
      | (go_at_call 20; ((with_reducible refine (AD.out w1).mono ?_); rintro e w2 ⟨rfl, hb2⟩); have S2 := six_keep hb2 S1; have B2 := Lib.hid (B1.out.thn hb2); obtain ⟨z0, z1, z2⟩ := val_cells B2.out.2.2.1; have fz := fz_of B2.out.2.2.1; have S3 := (show (((( w2.setCell ⟨w.heap.size + 1 + 1, 0, none⟩ (.int .i64 rn)).setCell ⟨w.heap.size + 1 + 1, 1, none⟩ (.string rp)).setCell ⟨w.heap.size + 1 + 1, 2, none⟩ (.string rm)).cell? ⟨w.heap.size, 0, none⟩ = some (.int .i64 xn) ∧ ((( w2.setCell ⟨w.heap.size + 1 + 1, 0, none⟩ (.int .i64 rn)).setCell ⟨w.heap.size + 1 + 1, 1, none⟩ (.string rp)).setCell ⟨w.heap.size + 1 + 1, 2, none⟩ (.string rm)).cell? ⟨w.heap.size, 1, none⟩ = some (.string xp) ∧ ((( w2.setCell ⟨w.heap.size + 1 + 1, 0, none⟩ (.int .i64 rn)).setCell ⟨w.heap.size + 1 + 1, 1, none⟩ (.string rp)).setCell ⟨w.heap.size + 1 + 1, 2, none⟩ (.string rm)).cell? ⟨w.heap.size, 2, none⟩ = some (.string xm)) ∧ ((( w2.setCell ⟨w.heap.size + 1 + 1, 0, none⟩ (.int .i64 rn)).setCell ⟨w.heap.size + 1 + 1, 1, none⟩ (.string rp)).setCell ⟨w.heap.size + 1 + 1, 2, none⟩ (.string rm)).cell? ⟨w.heap.size + 1, 0, none⟩ = some (.int .i64 yn) ∧ ((( w2.setCell ⟨w.heap.size + 1 + 1, 0, none⟩ (.int .i64 rn)).setCell ⟨w.heap.size + 1 + 1, 1, none⟩ (.string rp)).setCell ⟨w.heap.size + 1 + 1, 2, none⟩ (.string rm)).cell? ⟨w.heap.size + 1, 1, none⟩ = some (.string yp) ∧ ((( w2.setCell ⟨w.heap.size + 1 + 1, 0, none⟩ (.int .i64 rn)).setCell ⟨w.heap.size + 1 + 1, 1, none⟩ (.string rp)).setCell ⟨w.heap.size + 1 + 1, 2, none⟩ (.string rm)).cell? ⟨w.heap.size + 1, 2, none⟩ = some (.string ym) from ⟨val_cells (B2.out.set2 (rn, rp, rm)).1, val_cells (B2.out.set2 (rn, rp, rm)).2.1⟩); clear hb2))
    all_goals
      go_wp2_with fail
      obtain ⟨e0, e1, e2⟩ := val_cells (B2.out.set2 (rn, rp, rm)).2.2.1
      exact bodyPost_ret (v := RV ((rn, rp, rm), re)) (by simp [RV, vlV, results, Tryd.results32, go_sem, e0, e1, e2]) rfl ⟨rfl, (B2.out.set2 (rn, rp, rm)).2.2.2⟩
  have a9 : (k == 9) = false := by rw [beq_eq_false_iff_ne]; exact h9
  obtain ⟨xn, xp, xm⟩ := x
  obtain ⟨yn, yp, ym⟩ := y
  have HT := Lib.hid (show [(xn, xp, xm), (yn, yp, ym)].any hasS = true → twoT k (xn, xp, xm) (yn, yp, ym) = (Z3, 91) from fun h => by
    unfold twoT reckonT
    rw [if_neg (by show ¬ k = 1; omega), if_neg (by show ¬ k = 2; omega), if_neg (by show ¬ k = 3; omega), if_neg (by exact h8), if_neg (by exact h9), if_pos h])
  have HF := Lib.hid (show [(xn, xp, xm), (yn, yp, ym)].any hasS = false → twoT k (xn, xp, xm) (yn, yp, ym) = (((numZ k xn yn).1, E0, E0), (numZ k xn yn).2) from fun h => by
    unfold twoT reckonT
    rw [if_neg (by show ¬ k = 1; omega), if_neg (by show ¬ k = 2; omega), if_neg (by show ¬ k = 3; omega), if_neg (by exact h8), if_neg (by exact h9), if_neg (by rw [h]; decide), if_neg (by show ¬ k = 4; omega)]
    rfl)
  have NM := Lib.hid (fun V => rnum_any k xn yn (by omega) hx V)
  generalize numZ k xn yn = nz at *
  obtain ⟨nn, ne⟩ := nz
  unfold nzV at NM
  generalize twoT k (xn, xp, xm) (yn, yp, ym) = R at *
  simp only at NM HF B0
  unfold vlV
  simp only
  clear hx hk h8 h9
  by_cases e1 : xp = E0
  · subst e1
    by_cases e2 : xm = E0
    · subst e2
      by_cases e3 : yp = E0
      · subst e3
        by_cases e4 : ym = E0
        · subst e4
          go_enter Tryd.func32, Tryd.ntmps32
          go_upto_region 1 with fail
          generalize (((w.alloc (.cells #[.int .i64 xn, .string ⟨#[]⟩, .string ⟨#[]⟩] 26)).alloc (.cells #[.int .i64 yn, .string ⟨#[]⟩, .string ⟨#[]⟩] 26)).alloc (.cells #[.int .i64 0, .string ⟨#[]⟩, .string ⟨#[]⟩] 26)) = W0 at *
          obtain ⟨x0, x1, x2⟩ := val_cells B0.out.1
          obtain ⟨y0, y1, y2⟩ := val_cells B0.out.2.1
          obtain ⟨z0, z1, z2⟩ := val_cells B0.out.2.2.1
          have fz := fz_of B0.out.2.2.1
          simp only at x0 x1 x2 y0 y1 y2 z0 z1 z2
          go_wp2_with fail
          refine (NM.out _).mono ?_
          rintro e w1 ⟨rfl, rfl⟩
          go_wp2_with fail
          obtain ⟨v0, v1, v2⟩ := val_cells (B0.out.set2 (nn, E0, E0)).2.2.1
          exact bodyPost_ret (v := RV ((nn, E0, E0), ne)) (by simp [RV, vlV, results, Tryd.results32, go_sem, v0, v1, v2]) rfl ⟨by rw [HF.out (by simp [hasS])], (B0.out.set2 (nn, E0, E0)).2.2.2⟩
        · obtain ⟨q1, q2, q3, q4⟩ := no4 e4
          go_enter Tryd.func32, Tryd.ntmps32
          go_upto_region 1 with fail
          generalize (((w.alloc (.cells #[.int .i64 xn, .string ⟨#[]⟩, .string ⟨#[]⟩] 26)).alloc (.cells #[.int .i64 yn, .string ⟨#[]⟩, .string ym] 26)).alloc (.cells #[.int .i64 0, .string ⟨#[]⟩, .string ⟨#[]⟩] 26)) = W0 at *
          obtain ⟨x0, x1, x2⟩ := val_cells B0.out.1
          obtain ⟨y0, y1, y2⟩ := val_cells B0.out.2.1
          obtain ⟨z0, z1, z2⟩ := val_cells B0.out.2.2.1
          have fz := fz_of B0.out.2.2.1
          simp only at x0 x1 x2 y0 y1 y2 z0 z1 z2
          go_wp2_with fail
          obtain ⟨v0, v1, v2⟩ := val_cells (B0.out.set2 Z3).2.2.1
          exact bodyPost_ret (v := RV (Z3, 91)) (by simp [RV, vlV, results, Tryd.results32, go_sem, v0, v1, v2]) rfl ⟨by rw [HT.out (by simp [hasS, e4])], (B0.out.set2 Z3).2.2.2⟩
      · obtain ⟨q1, q2, q3, q4⟩ := no4 e3
        go_enter Tryd.func32, Tryd.ntmps32
        go_upto_region 1 with fail
        generalize (((w.alloc (.cells #[.int .i64 xn, .string ⟨#[]⟩, .string ⟨#[]⟩] 26)).alloc (.cells #[.int .i64 yn, .string yp, .string ym] 26)).alloc (.cells #[.int .i64 0, .string ⟨#[]⟩, .string ⟨#[]⟩] 26)) = W0 at *
        obtain ⟨x0, x1, x2⟩ := val_cells B0.out.1
        obtain ⟨y0, y1, y2⟩ := val_cells B0.out.2.1
        obtain ⟨z0, z1, z2⟩ := val_cells B0.out.2.2.1
        have fz := fz_of B0.out.2.2.1
        simp only at x0 x1 x2 y0 y1 y2 z0 z1 z2
        go_wp2_with fail
        obtain ⟨v0, v1, v2⟩ := val_cells (B0.out.set2 Z3).2.2.1
        exact bodyPost_ret (v := RV (Z3, 91)) (by simp [RV, vlV, results, Tryd.results32, go_sem, v0, v1, v2]) rfl ⟨by rw [HT.out (by simp [hasS, e3])], (B0.out.set2 Z3).2.2.2⟩
    · obtain ⟨q1, q2, q3, q4⟩ := no4 e2
      go_enter Tryd.func32, Tryd.ntmps32
      go_upto_region 1 with fail
      generalize (((w.alloc (.cells #[.int .i64 xn, .string ⟨#[]⟩, .string xm] 26)).alloc (.cells #[.int .i64 yn, .string yp, .string ym] 26)).alloc (.cells #[.int .i64 0, .string ⟨#[]⟩, .string ⟨#[]⟩] 26)) = W0 at *
      obtain ⟨x0, x1, x2⟩ := val_cells B0.out.1
      obtain ⟨y0, y1, y2⟩ := val_cells B0.out.2.1
      obtain ⟨z0, z1, z2⟩ := val_cells B0.out.2.2.1
      have fz := fz_of B0.out.2.2.1
      simp only at x0 x1 x2 y0 y1 y2 z0 z1 z2
      go_wp2_with fail
      obtain ⟨v0, v1, v2⟩ := val_cells (B0.out.set2 Z3).2.2.1
      exact bodyPost_ret (v := RV (Z3, 91)) (by simp [RV, vlV, results, Tryd.results32, go_sem, v0, v1, v2]) rfl ⟨by rw [HT.out (by simp [hasS, e2])], (B0.out.set2 Z3).2.2.2⟩
  · obtain ⟨q1, q2, q3, q4⟩ := no4 e1
    go_enter Tryd.func32, Tryd.ntmps32
    go_upto_region 1 with fail
    generalize (((w.alloc (.cells #[.int .i64 xn, .string xp, .string xm] 26)).alloc (.cells #[.int .i64 yn, .string yp, .string ym] 26)).alloc (.cells #[.int .i64 0, .string ⟨#[]⟩, .string ⟨#[]⟩] 26)) = W0 at *
    obtain ⟨x0, x1, x2⟩ := val_cells B0.out.1
    obtain ⟨y0, y1, y2⟩ := val_cells B0.out.2.1
    obtain ⟨z0, z1, z2⟩ := val_cells B0.out.2.2.1
    have fz := fz_of B0.out.2.2.1
    simp only at x0 x1 x2 y0 y1 y2 z0 z1 z2
    go_wp2_with fail
    obtain ⟨v0, v1, v2⟩ := val_cells (B0.out.set2 Z3).2.2.1
    exact bodyPost_ret (v := RV (Z3, 91)) (by simp [RV, vlV, results, Tryd.results32, go_sem, v0, v1, v2]) rfl ⟨by rw [HT.out (by simp [hasS, e1])], (B0.out.set2 Z3).2.2.2⟩
end Go.Proofs.YtdkflmpdelfgoaaDoor
namespace Go.Proofs.YtdkflmpdelfgoaaDoor
open Go.RowKit Go.Shelf
set_option linter.unusedVariables false
set_option linter.unusedSimpArgs false
attribute [local go_sem] Oper.semAt_some

/-- what a round of the loop begins with -/
structure EvI (w : World) (T : List Tm) (k : Nat) (st : List V3) (lv : Value) (wr : World) : Prop where
  le : k ≤ T.length
  row : wr.ownsRow (w.heap.size + 1) 26 3 lv st.length (valC st)
  fold : foldF [] (T.take k) = (st, 0)
  chk : checkF 0 (T.take k) = some st.length
  inb : ∀ x ∈ st, InB x.1
  box : wr.heap[w.heap.size]? = some (.cells #[.int .i64 0, .string ⟨#[]⟩, .string ⟨#[]⟩] 26 (0, 0))
  bel : Below w.heap.size w wr
/-- what is appended behind a round -/
theorem EvI.next {w : World} {T : List Tm} {k : Nat} {st : List V3} {lv : Value} {wr : World} (h : EvI w T k st lv wr) {x : Tm} (hx : T[k]? = some x) (hm : mayB x = true) (ht : takesN x.k ≤ st.length) (hi : InB x.n) {r : V3} (hr : reckonT x (st.drop (st.length - takesN x.k)) = (r, 0)) :
    foldF [] (T.take (k + 1)) = (st.take (st.length - takesN x.k) ++ [r], 0) ∧ checkF 0 (T.take (k + 1)) = some (st.length - takesN x.k + 1) ∧ (∀ y ∈ st.take (st.length - takesN x.k) ++ [r], InB y.1) := by
  have htk1 : T.take (k + 1) = T.take k ++ [x] := by rw [List.take_add_one, hx]; rfl
  refine ⟨?_, ?_, ?_⟩
  · rw [htk1, foldF_snoc _ _ _ x h.fold, hr, if_pos rfl]
  · rw [htk1, checkF_snoc, h.chk]
    simp only [Option.bind_some]
    rw [if_pos ⟨hm, ht⟩]
    congr 1; omega
  · intro y hy
    rcases List.mem_append.1 hy with hy | hy
    · exact h.inb y (List.mem_of_mem_take hy)
    · rw [List.mem_singleton.1 hy]
      have := inB_reckon (t := x) (T := st.drop (st.length - takesN x.k)) hi (fun z hz => h.inb z (List.mem_of_mem_drop hz))
      rw [hr] at this
      exact this
theorem EvI.bad {w : World} {T : List Tm} {k : Nat} {st : List V3} {lv : Value} {wr : World} (h : EvI w T k st lv wr) {x : Tm} (hx : T[k]? = some x) {r : V3} {e : Int} (hr : reckonT x (st.drop (st.length - takesN x.k)) = (r, e)) (he : e ≠ 0) : foldT T = (Z3, e) := by
  have htk1 : T.take (k + 1) = T.take k ++ [x] := by rw [List.take_add_one, hx]; rfl
  have e1 : foldF [] (T.take (k + 1)) = ([], e) := by rw [htk1, foldF_snoc _ _ _ x h.fold, hr, if_neg he]
  have e2 := foldF_err (T.take (k + 1)) (T.drop (k + 1)) [] (by rw [e1]; exact he)
  rw [List.take_append_drop, e1] at e2
  unfold foldT
  rw [e2, if_neg he]
theorem EvI.push {w V w3 : World} {T : List Tm} {k N : Nat} {L : List V3} {r : V3} {vb ub : Option Addr} {vc uc : Nat} {o : Obj} (hL : L.length = N)
    (hown : V.ownsRow (w.heap.size + 1) 26 3 (.slice vb N vc) N (valC L)) (hz : V.heap[w.heap.size]? = some (.cells #[.int .i64 0, .string ⟨#[]⟩, .string ⟨#[]⟩] 26 (0, 0))) (hb : Below w.heap.size w V)
    (h3 : w3.ownsRow (w.heap.size + 1) 26 3 (.slice ub (N + 1) uc) (N + 1) (valC L ++ [.int .i64 r.1, .string r.2.1, .string r.2.2])) (hg : (V.alloc o).grownBy w3 (Value.slice vb N vc).ownBlock)
    (hN : foldF [] (T.take (k + 1)) = (L ++ [r], 0) ∧ checkF 0 (T.take (k + 1)) = some (N + 1) ∧ ∀ y ∈ L ++ [r], InB y.1) (hk : k < T.length) : EvI w T (k + 1) (L ++ [r]) (.slice ub (N + 1) uc) w3 := by
  have hlen : (L ++ [r]).length = N + 1 := by simp [hL]
  have hws := heap_lt hz
  refine ⟨by omega, ?_, hN.1, by rw [hlen]; exact hN.2.1, hN.2.2, ?_, ?_⟩
  · rw [hlen, valC_snoc]; exact h3
  · rw [hg.block _ (by simp; omega) (fun e => by have := (hown.lt _ e.symm).1; omega)]
    exact (Below.heap_alloc V _ _ hws).trans hz
  · exact (hb.alloc (Nat.le_of_lt hws) o).grown hg (by simp; omega) (fun g hg => by have := (hown.lt g hg).1; omega)
theorem seven_kept {W W' : World} (hb : Below W.heap.size W W') {a0 b0 b1 b2 c0 c1 c2 : Addr} {x y0 y1 y2 z0 z1 z2 : Value}
    (h : W.cell? a0 = some x ∧ (W.cell? b0 = some y0 ∧ W.cell? b1 = some y1 ∧ W.cell? b2 = some y2) ∧ W.cell? c0 = some z0 ∧ W.cell? c1 = some z1 ∧ W.cell? c2 = some z2) :
    W'.cell? a0 = some x ∧ (W'.cell? b0 = some y0 ∧ W'.cell? b1 = some y1 ∧ W'.cell? b2 = some y2) ∧ W'.cell? c0 = some z0 ∧ W'.cell? c1 = some z1 ∧ W'.cell? c2 = some z2 :=
  ⟨cell_kept hb h.1, ⟨cell_kept hb h.2.1.1, cell_kept hb h.2.1.2.1, cell_kept hb h.2.1.2.2⟩, cell_kept hb h.2.2.1, cell_kept hb h.2.2.2.1, cell_kept hb h.2.2.2.2⟩
theorem seven_far {W : World} {B g gs i0 i1 i2 i3 i4 i5 i6 : Nat} (hg : B ≠ g) (hs : B ≠ gs) {x y0 y1 y2 z0 z1 z2 q0 q1 q2 : Value}
    (h : W.cell? ⟨g, i0, none⟩ = some x ∧ (W.cell? ⟨gs, i1, none⟩ = some y0 ∧ W.cell? ⟨gs, i2, none⟩ = some y1 ∧ W.cell? ⟨gs, i3, none⟩ = some y2) ∧ W.cell? ⟨gs, i4, none⟩ = some z0 ∧ W.cell? ⟨gs, i5, none⟩ = some z1 ∧ W.cell? ⟨gs, i6, none⟩ = some z2) :
    let V := ((W.setCell ⟨B, 0, none⟩ q0).setCell ⟨B, 1, none⟩ q1).setCell ⟨B, 2, none⟩ q2
    V.cell? ⟨g, i0, none⟩ = some x ∧ (V.cell? ⟨gs, i1, none⟩ = some y0 ∧ V.cell? ⟨gs, i2, none⟩ = some y1 ∧ V.cell? ⟨gs, i3, none⟩ = some y2) ∧ V.cell? ⟨gs, i4, none⟩ = some z0 ∧ V.cell? ⟨gs, i5, none⟩ = some z1 ∧ V.cell? ⟨gs, i6, none⟩ = some z2 := by
  have k1 : ∀ (V : World) (o j : Nat) (x : Value), (V.setCell ⟨B, o, none⟩ x).cell? ⟨g, j, none⟩ = V.cell? ⟨g, j, none⟩ := fun V o j x => World.cell?_setCell_far _ _ _ _ hg
  have k2 : ∀ (V : World) (o j : Nat) (x : Value), (V.setCell ⟨B, o, none⟩ x).cell? ⟨gs, j, none⟩ = V.cell? ⟨gs, j, none⟩ := fun V o j x => World.cell?_setCell_far _ _ _ _ hs
  simp only [k1, k2]
  exact h
theorem drop_two {α : Type} {l : List α} {m : Nat} {y z : α} (h : l.length = m + 2) (hy : l[m]? = some y) (hz : l[m + 1]? = some z) : l.drop m = [y, z] := by
  have h2 : (l.drop m).length = 2 := by rw [List.length_drop]; omega
  match hl : l.drop m, h2 with
  | [a, b], _ =>
    have e0 := congrArg (fun q => q[0]?) hl
    have e1 := congrArg (fun q => q[1]?) hl
    simp only [List.getElem?_drop, Nat.add_zero, List.getElem?_cons_zero, List.getElem?_cons_succ] at e0 e1
    rw [hy] at e0
    rw [hz] at e1
    cases e0; cases e1; rfl
theorem drop_last {α : Type} {l : List α} {m : Nat} {y : α} (h : l.length = m + 1) (hy : l[m]? = some y) : l.drop m = [y] := by
  have h2 : (l.drop m).length = 1 := by rw [List.length_drop]; omega
  obtain ⟨z, hz⟩ := List.length_eq_one_iff.1 h2
  rw [hz]
  have := congrArg (fun q => q[0]?) hz
  simp only [List.getElem?_drop, Nat.add_zero, List.getElem?_cons_zero] at this
  rw [hy] at this
  cases this; rfl
theorem toks_lt {W : World} {g off cap : Nat} {T : List Tm} (h : TriO tmF W (.slice (some ⟨g, off, none⟩) T.length cap) T) {k : Nat} (hk : k < T.length) : g < W.heap.size := by
  rcases h with ⟨_, h0⟩ | ⟨g', off', cap', h1, _, _, h2, _⟩
  · rw [h0] at hk; cases hk
  · cases h1; exact h2
theorem own_ne3 {W : World} {base size n gs vc B : Nat} {e : TypeId} {xs : List Value} (h : W.ownsRow base e size (.slice (some ⟨gs, 0, none⟩) n vc) n xs) (hB : B ≠ gs) (x0 x1 x2 : Value) : (((W.setCell ⟨B, 0, none⟩ x0).setCell ⟨B, 1, none⟩ x1).setCell ⟨B, 2, none⟩ x2).ownsRow base e size (.slice (some ⟨gs, 0, none⟩) n vc) n xs := by
  refine ⟨h.1, ?_⟩
  rcases h.2 with h1 | ⟨g, cap, cur, h1, h2, h3, h4⟩
  · exact .inl h1
  · cases h1
    exact .inr ⟨gs, vc, cur, rfl, h2, set_far (set_far (set_far h3 hB) hB) hB, h4⟩
theorem tri_cells3 {W : World} {g off cap : Nat} {T : List Tm} (h : TriO tmF W (.slice (some ⟨g, off, none⟩) T.length cap) T) {k : Nat} {x : Tm} (hx : T[k]? = some x) : W.cell? ⟨g, off + k * 3, none⟩ = some (.int .i64 x.k) ∧ W.cell? ⟨g, off + k * 3 + 1, none⟩ = some (.int .i64 x.n) ∧ W.cell? ⟨g, off + k * 3 + 2, none⟩ = some (.string x.s) := by
  rcases h with ⟨_, h0⟩ | ⟨g', off', cap', h1, _, _, _, hc⟩
  · rw [h0] at hx; simp at hx
  · cases h1; exact hc k x hx
set_option maxRecDepth 100000 in
set_option maxHeartbeats 16000000 in
theorem reval_any (v : Value) (T : List Tm) (w : World) (h : TriO tmF w v T) (hl : T.length ≤ 281474976710656) (hs : ∀ x ∈ T, x.s.size ≤ maxLen) (hI : ∀ x ∈ T, InB x.n) :
    Calls Tryd.prog 10 #[v] w fun e w' => e = .returned (RV (evalT T)) ∧ Below w.heap.size w w' := by
  have HB0 := Lib.hid (below1 w (.cells #[.int .i64 0, .string ⟨#[]⟩, .string ⟨#[]⟩] 26))
  have CK := Lib.hid (fun V (hb : Below w.heap.size w V) => rcheck_any v T V (h.keep hb) hl hs)
  have HT := Lib.hid h
  have HBX := Lib.hid (heap_alloc_new w (.cells #[.int .i64 0, .string ⟨#[]⟩, .string ⟨#[]⟩] 26))
  obtain ⟨A, c, rfl⟩ := tri_slice h
  clear h
  by_cases hc : checkT T = 0
  · rw [hc] at CK
    obtain ⟨hcf, hlen⟩ := checkT_ok hc
    have HE := Lib.hid (show evalT T = foldT T by unfold evalT; rw [if_pos hc])
    have HC := Lib.hid hcf
    have HI := Lib.hid hI
    clear hs hI hc hcf
    go_enter Tryd.func10, Tryd.ntmps10
    go_upto_region 1 with fail
    generalize w.alloc (.cells #[.int .i64 0, .string ⟨#[]⟩, .string ⟨#[]⟩] 26) = W0 at *
    go_wp2_with fail
    refine (CK.out _ HB0.out).mono ?_
    rintro e w1 ⟨rfl, rfl⟩
    go_wp2_with fail
    go_loopw [6, 5] (fun iv lv wr => ∃ (k : Nat) (st : List V3), iv = .int .i64 (k : Int) ∧ Hid (EvI w T k st lv wr)) (fun iv lv _ => T.length - (intOf iv).toNat)
    case atStart =>
      exact ⟨0, [], rfl, Lib.hid ⟨Nat.zero_le _, World.ownsRow_nil _ _ _ _, rfl, rfl, fun x hx => (by cases hx), HBX.out, HB0.out⟩⟩
    case round =>
      obtain ⟨k, st, rfl, hev⟩ := hrel
      have hrow := hev.out.row
      obtain ⟨vb, vc, rfl⟩ := own_sliceN hrow
      have hkl := hev.out.le
      by_cases hlt : (k : Int) < (T.length : Int)
      · have hlt' : k < T.length := by omega
        obtain ⟨g, off, cap, x, hx, hv, x1, x2, x3⟩ := tri_at (HT.out.keep hev.out.bel) hlt'
        cases hv
        simp only [tmF] at x1 x2 x3
        have hck : checkF 0 (T.take (k + 1)) ≠ none := fun hn => by
          have := checkF_none _ (T.drop (k + 1)) _ hn
          rw [List.take_append_drop, HC.out] at this
          cases this
        have htk1 : T.take (k + 1) = T.take k ++ [x] := by rw [List.take_add_one, hx]; rfl
        rw [htk1, checkF_snoc, hev.out.chk] at hck
        simp only [Option.bind_some] at hck
        have hmt : mayB x = true ∧ takesN x.k ≤ st.length := by
          by_cases hh : mayB x = true ∧ takesN x.k ≤ st.length
          · exact hh
          · rw [if_neg hh] at hck; exact absurd rfl hck
        have hxi := HI.out x (List.mem_of_getElem? hx)
        have TK := Lib.hid (fun V => rtakes_any x.k V)
        have NX := Lib.hid (fun (r : V3) hr => hev.out.next hx hmt.1 hmt.2 hxi (r := r) hr)
        have BD := Lib.hid (fun (r : V3) (e : Int) hr he => hev.out.bad hx (r := r) (e := e) hr he)
        have HBR := Lib.hid hev.out.bel
        have w9 : IntKind.i64.wrap ((k : Int) + 1) = ((k + 1 : Nat) : Int) := by rw [IntWalk.i64_in _ (by omega)]; omega
        have hk0 : (0 : Int) ≤ (k : Int) := by omega
        have hnk : st.length ≤ k := by
          have := checkF_le _ _ _ hev.out.chk
          rw [List.length_take] at this; omega
        obtain ⟨xk, xn, xs⟩ := x
        simp only at x1 x2 x3 TK NX BD
        clear hck htk1 hrow hxi
        go_upto_region 9 with fail
        go_cut [8] from 16 to 116 (fun s8 wc => ∃ B : Nat, s8 = .pointer (some ⟨B, 0, none⟩) ∧ wc.heap[B]? = some (.cells #[.int .i64 xn, .string xs, .string E0] 26 (0, 0)) ∧ wr.heap.size ≤ B ∧ Below wr.heap.size wr wc)
        case first =>
          have S0 := (show wr.cell? ⟨g, off + k * 3, none⟩ = some (.int .i64 xk) ∧ wr.cell? ⟨g, off + k * 3 + 1, none⟩ = some (.int .i64 xn) ∧ wr.cell? ⟨g, off + k * 3 + 2, none⟩ = some (.string xs) from ⟨x1, x2, x3⟩)
          have SA := (show (wr.alloc (.cells #[.int .i64 0, .string ⟨#[]⟩, .string ⟨#[]⟩] 26)).cell? ⟨g, off + k * 3, none⟩ = some (.int .i64 xk) ∧ (wr.alloc (.cells #[.int .i64 0, .string ⟨#[]⟩, .string ⟨#[]⟩] 26)).cell? ⟨g, off + k * 3 + 1, none⟩ = some (.int .i64 xn) ∧ (wr.alloc (.cells #[.int .i64 0, .string ⟨#[]⟩, .string ⟨#[]⟩] 26)).cell? ⟨g, off + k * 3 + 2, none⟩ = some (.string xs) from ⟨cell_kept (below1 wr _) x1, cell_kept (below1 wr _) x2, cell_kept (below1 wr _) x3⟩)
          clear x1 x2 x3
          go_region_held3 (fun w' => w'.cell? ⟨g, off + k * 3, none⟩ = some (.int .i64 xk) ∧ w'.cell? ⟨g, off + k * 3 + 1, none⟩ = some (.int .i64 xn) ∧ w'.cell? ⟨g, off + k * 3 + 2, none⟩ = some (.string xs)) (first | exact S0 | exact SA | exact ⟨cell_kept (below1 wr _) S0.1, cell_kept (below1 wr _) S0.2.1, cell_kept (below1 wr _) S0.2.2⟩) (first | fail)
          all_goals
            go_wp2_with fail
            go_meet
          all_goals
            exact ⟨wr.heap.size, rfl, heap_alloc_new wr _, Nat.le_refl _, (below1 wr (.cells #[.int .i64 xn, .string xs, .string E0] 26)).drew⟩
        case rest =>
          obtain ⟨B, rfl, hbx, hBw, hbc⟩ := hcut
          have HX := Lib.hid hbx
          have HBC := Lib.hid (Below.thn HBR.out HBR.out.size (hbc.mono (Nat.le_refl _)))
          have HROW := Lib.hid (own_mono hev.out.row hbc (fun g hg => (hev.out.row.lt g hg).2))
          have HZ := Lib.hid ((hbc.block _ (heap_lt hev.out.box)).trans hev.out.box)
          have HBW := Lib.hid hBw
          have HLT := Lib.hid (show w.heap.size < B from Nat.lt_of_lt_of_le (heap_lt hev.out.box) hBw)
          obtain ⟨c1, c2, c3⟩ := tri_cells3 (HT.out.keep HBC.out) hx
          have hmay := hmt.1
          have htk := hmt.2
          simp only at htk
          clear hbx hBw hbc x1 x2 x3 hmt
          by_cases h0 : xk = 1 ∨ xk = 2
          · have ht0 : takesN xk = 0 := by rcases h0 with rfl | rfl <;> rfl
            have htr : takesR xk = 0 := by unfold takesR; rw [if_pos h0]
            rw [htr] at TK
            rw [ht0, Nat.sub_zero, List.take_length, List.drop_length] at NX
            have hrk : reckonT ⟨xk, xn, xs⟩ [] = ((xn, xs, E0), 0) := by
              rcases h0 with rfl | rfl
              · have : xs = E0 := by unfold mayB at hmay; rw [if_pos rfl] at hmay; simpa using hmay
                rw [this]; rfl
              · have : xn = 0 := by unfold mayB at hmay; rw [if_neg (show ¬ ((2 : Int) = 1) by decide), if_pos rfl] at hmay; simp at hmay; exact hmay.1
                rw [this]; rfl
            have HN := Lib.hid (NX.out _ hrk)
            obtain ⟨b0, b1, b2⟩ := val_cells HX.out
            clear BD NX hmay htk h0 htr hrk
            obtain ⟨i0, hi, hiz0, hiz1, hiz2⟩ := info_parts infoVal
            go_wp2_with fail
            refine (TK.out _).mono ?_
            rintro e w2 ⟨rfl, rfl⟩
            go_wp2_with (at_builtin; go_loud (refine wpList_append_own _ rfl _ _ 60 rfl (w.heap.size + 1) 26 i0 (.agg #[.int .i64 0, .string ⟨#[]⟩, .string ⟨#[]⟩]) 3 40 Tryd.underlying60 hi hiz0 hiz1 hiz2 rfl (by decide) _ _ _ rfl (own_mono HROW.out (below1 wc _) (fun g hg => (HROW.out.lt g hg).2)) ⟨wc.heap.size, 0, none⟩ 1 1 [.int .i64 xn, .string xs, .string E0] rfl rfl (fun j u hu => World.news_of_block (heap_alloc_new wc _) j u hu) (by simp [Value.oneCell']) (by unfold maxLen; omega) (by omega) (by have := heap_lt HZ.out; simp; omega) ?_; intro v' w3 hown3 hgrow3 _; obtain ⟨ub, uc, rfl⟩ := own_sliceN hown3))
            go_roundw
            case rel => exact ⟨k + 1, st ++ [(xn, xs, E0)], by first | rfl | rw [← w9], Lib.hid (EvI.push (r := (xn, xs, E0)) rfl HROW.out HZ.out HBC.out hown3 hgrow3 HN.out hlt')⟩
            case measure => simp [intOf]; omega
          · have h34 : xk = 3 ∨ xk = 4 ∨ (5 ≤ xk ∧ xk ≤ 14) := by
              obtain ⟨kn, h1, h2, h3⟩ := mayB_k hmay
              simp only at h1
              omega
            have hz0 : xn = 0 ∧ xs = E0 := by
              unfold mayB at hmay
              rw [if_neg (by show ¬ xk = 1; omega), if_neg (by show ¬ xk = 2; omega)] at hmay
              simp only [Bool.and_eq_true, decide_eq_true_eq] at hmay
              exact ⟨hmay.1.2, hmay.2⟩
            obtain ⟨rfl, rfl⟩ := hz0
            obtain ⟨i0, hi, hiz0, hiz1, hiz2⟩ := info_parts infoVal
            by_cases h1 : xk = 3 ∨ xk = 4
            · have ht1 : takesN xk = 1 := by rcases h1 with rfl | rfl <;> rfl
              have htr : takesR xk = 1 := by unfold takesR; rw [if_neg h0, if_pos h1]
              rw [htr] at TK
              rw [ht1] at NX BD htk
              obtain ⟨m, hm⟩ : ∃ m, st.length = m + 1 := ⟨st.length - 1, by omega⟩
              obtain ⟨y, hy⟩ : ∃ y, st[m]? = some y := ⟨_, List.getElem?_eq_getElem (by omega)⟩
              have hdr : st.drop (st.length - 1) = [y] := by
                rw [hm, Nat.add_sub_cancel]
                exact drop_last hm hy
              rw [hdr] at NX BD
              have hrow' := HROW.out
              rw [hm] at hrow' NX
              rw [Nat.add_sub_cancel] at NX
              obtain ⟨gs, cap', hvb, -, -⟩ := hrow'.form (by omega)
              cases hvb
              obtain ⟨v0, v1, v2⟩ := valC_at st m y hy
              have d0 := hrow'.cellAt (m * 3) (by omega)
              have d1 := hrow'.cellAt (m * 3 + 1) (by omega)
              have d2 := hrow'.cellAt (m * 3 + 2) (by omega)
              rw [v0] at d0
              rw [v1] at d1
              rw [v2] at d2
              have NG := Lib.hid (fun V => rneg_any y V)
              obtain ⟨yn, yp, ym⟩ := y
              unfold vlV at NG
              simp only at NG d0 d1 d2
              have hmv : m ≤ vc := by have := own_cap hrow'; omega
              have HR1 := Lib.hid hrow'
              rw [hm]
              clear hmay htk h0 htr hdr hrow' v0 v1 v2 hy
              have wm : IntKind.i64.wrap (((m + 1 : Nat) : Int) - 1) = (m : Int) := by rw [IntWalk.i64_in _ (by omega)]; omega
              have wm' : IntKind.i64.wrap ((m : Int) + 1 - 1) = (m : Int) := by rw [IntWalk.i64_in _ (by omega)]; omega
              obtain ⟨z, hng⟩ : ∃ z, negV (yn, yp, ym) = z := ⟨_, rfl⟩
              rw [hng] at NG
              have hgs : gs < wr.heap.size := (hev.out.row.lt gs rfl).2
              have HGB := Lib.hid (show B ≠ gs by have := HBW.out; omega)
              have HLL := Lib.hid (show (st.take m).length = m by rw [List.length_take]; omega)
              have HTOK := Lib.hid (show B ≠ g by have := toks_lt HT.out hlt'; have := HLT.out; omega)
              obtain ⟨nn, np, nm⟩ := z
              go_wp2_with fail
              refine (TK.out _).mono ?_
              rintro e w2 ⟨rfl, rfl⟩
              go_wp2_with fail
              refine (NG.out _).mono ?_
              rintro e w2 ⟨rfl, hb⟩
              have HX2 := Lib.hid (block_kept hb HX.out)
              have HR2 := Lib.hid (own_mono HR1.out hb (fun g hg => (HR1.out.lt g hg).2))
              have HZ2 := Lib.hid (block_kept hb HZ.out)
              have HB2 := Lib.hid (Below.thn HBC.out HBC.out.size hb)
              have k1 := cell_kept hb c1
              have e0 := cell_kept hb d0
              have e1 := cell_kept hb d1
              have e2 := cell_kept hb d2
              obtain ⟨b0, b1, b2⟩ := val_cells HX2.out
              have fz := fz_of HX2.out
              clear hb c1 c2 c3 d0 d1 d2 HX HR1 HZ HBC HROW
              go_upto_region 14 with fail
              have HXV := Lib.hid (val_set HX2.out (.int .i64 nn) (.string np) (.string nm))
              have HRV := Lib.hid (own_ne3 HR2.out HGB.out (.int .i64 nn) (.string np) (.string nm))
              have HZV := Lib.hid (set_far (o := 2) (x := .string nm) (set_far (o := 1) (x := .string np) (set_far (o := 0) (x := .int .i64 nn) HZ2.out (show B ≠ w.heap.size by have := HLT.out; omega)) (show B ≠ w.heap.size by have := HLT.out; omega)) (show B ≠ w.heap.size by have := HLT.out; omega))
              have HBV := Lib.hid (below_val HB2.out (Nat.le_of_lt HLT.out) (.int .i64 nn) (.string np) (.string nm))
              have kk : (((w2.setCell ⟨B, 0, none⟩ (.int .i64 nn)).setCell ⟨B, 1, none⟩ (.string np)).setCell ⟨B, 2, none⟩ (.string nm)).cell? ⟨g, off + k * 3, none⟩ = some (.int .i64 xk) := by
                rw [World.cell?_setCell_far _ _ _ _ HTOK.out, World.cell?_setCell_far _ _ _ _ HTOK.out, World.cell?_setCell_far _ _ _ _ HTOK.out]; exact k1
              have dd : ∀ j, (((w2.setCell ⟨B, 0, none⟩ (.int .i64 nn)).setCell ⟨B, 1, none⟩ (.string np)).setCell ⟨B, 2, none⟩ (.string nm)).cell? ⟨gs, j, none⟩ = w2.cell? ⟨gs, j, none⟩ := fun j => by
                rw [World.cell?_setCell_far _ _ _ _ HGB.out, World.cell?_setCell_far _ _ _ _ HGB.out, World.cell?_setCell_far _ _ _ _ HGB.out]
              have y0 := (dd _).trans e0
              have y1 := (dd _).trans e1
              have y2 := (dd _).trans e2
              clear dd k1 e0 e1 e2 b0 b1 b2 fz HX2 HR2 HZ2 HB2
              generalize ((w2.setCell ⟨B, 0, none⟩ (.int .i64 nn)).setCell ⟨B, 1, none⟩ (.string np)).setCell ⟨B, 2, none⟩ (.string nm) = V at *
              have HTV := own_take HRV.out (m := m) (by omega)
              rw [valC_take] at HTV
              replace HTV := Lib.hid HTV
              rcases h1 with rfl | rfl
              · have HN := Lib.hid (NX.out (nn, np, nm) (by rw [← hng]; rfl))
                obtain ⟨b0, b1, b2⟩ := val_cells HXV.out
                clear NX BD y0 y1 y2
                go_wp2_with (at_builtin; go_loud (refine wpList_append_own _ rfl _ _ 60 rfl (w.heap.size + 1) 26 i0 (.agg #[.int .i64 0, .string ⟨#[]⟩, .string ⟨#[]⟩]) 3 40 Tryd.underlying60 hi hiz0 hiz1 hiz2 rfl (by decide) _ _ _ rfl (own_mono HTV.out (below1 V _) (fun g hg => (HTV.out.lt g hg).2)) ⟨V.heap.size, 0, none⟩ 1 1 [.int .i64 nn, .string np, .string nm] rfl rfl (fun j u hu => World.news_of_block (heap_alloc_new V _) j u hu) (by simp [Value.oneCell']) (by unfold maxLen; omega) (by omega) (by have := heap_lt HZV.out; simp; omega) ?_; intro v' w3 hown3 hgrow3 _; obtain ⟨ub, uc, rfl⟩ := own_sliceN hown3))
                go_roundw
                case rel => exact ⟨k + 1, st.take m ++ [(nn, np, nm)], by first | rfl | rw [← w9], Lib.hid (EvI.push (r := (nn, np, nm)) HLL.out HTV.out HZV.out HBV.out hown3 hgrow3 HN.out hlt')⟩
                case measure => simp [intOf]; omega
              · have zc := val_cells HZV.out
                obtain ⟨r0, r1, r2⟩ := zc
                have fr := fz_of HZV.out
                obtain ⟨b0, b1, b2⟩ := val_cells HXV.out
                have fb := fz_of HXV.out
                by_cases ep : yp = E0
                · subst ep
                  by_cases em : ym = E0
                  · subst em
                    obtain ⟨xr, hxr⟩ : ∃ xr, bits BinOp.xor IntKind.i64 (-1) yn = xr := ⟨_, rfl⟩
                    have hx2 : bits BinOp.xor IntKind.i64 (if IntKind.i64.signed = true then -1 else 9223372036854775807) yn = xr := hxr
                    have HN := Lib.hid (NX.out (xr, E0, E0) (by rw [← hxr]; rfl))
                    have HXW := Lib.hid (val_set HXV.out (.int .i64 xr) (.string E0) (.string E0))
                    have HTW := Lib.hid (own_ne3 HTV.out HGB.out (.int .i64 xr) (.string E0) (.string E0))
                    have HZW := Lib.hid (set_far (o := 2) (x := .string E0) (set_far (o := 1) (x := .string E0) (set_far (o := 0) (x := .int .i64 xr) HZV.out (show B ≠ w.heap.size by have := HLT.out; omega)) (show B ≠ w.heap.size by have := HLT.out; omega)) (show B ≠ w.heap.size by have := HLT.out; omega))
                    have HBV2 := Lib.hid (below_val HBV.out (Nat.le_of_lt HLT.out) (.int .i64 xr) (.string E0) (.string E0))
                    clear NX BD r0 r1 r2 fr hxr
                    go_upto_region 18 with fail
                    clear hx2 b0 b1 b2 fb kk y0 y1 y2
                    generalize ((V.setCell ⟨B, 0, none⟩ (.int .i64 xr)).setCell ⟨B, 1, none⟩ (.string ⟨#[]⟩)).setCell ⟨B, 2, none⟩ (.string ⟨#[]⟩) = V2 at *
                    obtain ⟨b0, b1, b2⟩ := val_cells HXW.out
                    go_wp2_with (at_builtin; go_loud (refine wpList_append_own _ rfl _ _ 60 rfl (w.heap.size + 1) 26 i0 (.agg #[.int .i64 0, .string ⟨#[]⟩, .string ⟨#[]⟩]) 3 40 Tryd.underlying60 hi hiz0 hiz1 hiz2 rfl (by decide) _ _ _ rfl (own_mono HTW.out (below1 V2 _) (fun g hg => (HTW.out.lt g hg).2)) ⟨V2.heap.size, 0, none⟩ 1 1 [.int .i64 xr, .string E0, .string E0] rfl rfl (fun j u hu => World.news_of_block (heap_alloc_new V2 _) j u hu) (by simp [Value.oneCell']) (by unfold maxLen; omega) (by omega) (by have := heap_lt HZW.out; simp; omega) ?_; intro v' w3 hown3 hgrow3 _; obtain ⟨ub, uc, rfl⟩ := own_sliceN hown3))
                    go_roundw
                    case rel => exact ⟨k + 1, st.take m ++ [(xr, E0, E0)], by first | rfl | rw [← w9], Lib.hid (EvI.push (r := (xr, E0, E0)) HLL.out HTW.out HZW.out HBV2.out hown3 hgrow3 HN.out hlt')⟩
                    case measure => simp [intOf]; omega
                  · have R := Lib.hid (BD.out Z3 91 (by unfold reckonT; rw [if_neg (show ¬ ((4 : Int) = 1) by decide), if_neg (show ¬ ((4 : Int) = 2) by decide), if_neg (show ¬ ((4 : Int) = 3) by decide), if_neg (show ¬ ((4 : Int) = 8) by decide), if_neg (show ¬ ((4 : Int) = 9) by decide), if_pos (by simp [hasS, em])]) (by decide))
                    obtain ⟨q1, q2, q3, q4⟩ := no4 em
                    clear NX BD em
                    go_wp2_with fail
                    obtain ⟨v0, v1, v2⟩ := val_cells (val_set HZV.out (.int .i64 0) (.string E0) (.string E0))
                    exact bodyPost_ret (v := RV (Z3, 91)) (by simp [RV, vlV, results, Tryd.results10, go_sem, v0, v1, v2]) rfl ⟨by rw [HE.out, R.out], below_val HBV.out (Nat.le_refl _) _ _ _⟩
                · have R := Lib.hid (BD.out Z3 91 (by unfold reckonT; rw [if_neg (show ¬ ((4 : Int) = 1) by decide), if_neg (show ¬ ((4 : Int) = 2) by decide), if_neg (show ¬ ((4 : Int) = 3) by decide), if_neg (show ¬ ((4 : Int) = 8) by decide), if_neg (show ¬ ((4 : Int) = 9) by decide), if_pos (by simp [hasS, ep])]) (by decide))
                  obtain ⟨q1, q2, q3, q4⟩ := no4 ep
                  clear NX BD ep
                  go_wp2_with fail
                  obtain ⟨v0, v1, v2⟩ := val_cells (val_set HZV.out (.int .i64 0) (.string E0) (.string E0))
                  exact bodyPost_ret (v := RV (Z3, 91)) (by simp [RV, vlV, results, Tryd.results10, go_sem, v0, v1, v2]) rfl ⟨by rw [HE.out, R.out], below_val HBV.out (Nat.le_refl _) _ _ _⟩
            · have h2 : 5 ≤ xk ∧ xk ≤ 14 := by omega
              have ht2 : takesN xk = 2 := by unfold takesN; rw [if_pos h2]
              have htr : takesR xk = 2 := by unfold takesR; rw [if_neg h0, if_neg h1, if_pos h2]
              rw [htr] at TK
              rw [ht2] at NX BD htk
              obtain ⟨m, hm⟩ : ∃ m, st.length = m + 2 := ⟨st.length - 2, by omega⟩
              obtain ⟨y, hy⟩ : ∃ y, st[m]? = some y := ⟨_, List.getElem?_eq_getElem (by omega)⟩
              obtain ⟨z, hzz⟩ : ∃ z, st[m + 1]? = some z := ⟨_, List.getElem?_eq_getElem (by omega)⟩
              have hdr : st.drop (st.length - 2) = [y, z] := by
                rw [hm, Nat.add_sub_cancel]
                exact drop_two hm hy hzz
              rw [hdr] at NX BD
              have hrow' := HROW.out
              rw [hm] at hrow' NX
              rw [Nat.add_sub_cancel] at NX
              obtain ⟨gs, cap', hvb, -, -⟩ := hrow'.form (by omega)
              cases hvb
              obtain ⟨v0, v1, v2⟩ := valC_at st m y hy
              obtain ⟨u0, u1, u2⟩ := valC_at st (m + 1) z hzz
              have d0 := hrow'.cellAt (m * 3) (by omega)
              have d1 := hrow'.cellAt (m * 3 + 1) (by omega)
              have d2 := hrow'.cellAt (m * 3 + 2) (by omega)
              have e0 := hrow'.cellAt ((m + 1) * 3) (by omega)
              have e1 := hrow'.cellAt ((m + 1) * 3 + 1) (by omega)
              have e2 := hrow'.cellAt ((m + 1) * 3 + 2) (by omega)
              rw [v0] at d0
              rw [v1] at d1
              rw [v2] at d2
              rw [u0] at e0
              rw [u1] at e1
              rw [u2] at e2
              have hyi := hev.out.inb y (List.mem_of_getElem? hy)
              have TW := Lib.hid (fun V => rtwo_any xk y z h2 hyi V)
              obtain ⟨q, hq⟩ : ∃ q, twoT xk y z = q := ⟨_, rfl⟩
              rw [hq] at TW
              have HQ := Lib.hid (show reckonT ⟨xk, 0, E0⟩ [y, z] = q from hq)
              obtain ⟨⟨qn, qp, qm⟩, qe⟩ := q
              obtain ⟨yn, yp, ym⟩ := y
              obtain ⟨zn, zp, zm⟩ := z
              unfold RV vlV at TW
              simp only at TW d0 d1 d2 e0 e1 e2
              have hmv : m ≤ vc := by have := own_cap hrow'; omega
              have HR1 := Lib.hid hrow'
              have hgs : gs < wr.heap.size := (hev.out.row.lt gs rfl).2
              have HGB := Lib.hid (show B ≠ gs by have := HBW.out; omega)
              have HLL := Lib.hid (show (st.take m).length = m by rw [List.length_take]; omega)
              have HTOK := Lib.hid (show B ≠ g by have := toks_lt HT.out hlt'; have := HLT.out; omega)
              have wm : IntKind.i64.wrap (((m + 2 : Nat) : Int) - 2) = (m : Int) := by rw [IntWalk.i64_in _ (by omega)]; omega
              have wm' : IntKind.i64.wrap ((m : Int) + 2 - 2) = (m : Int) := by rw [IntWalk.i64_in _ (by omega)]; omega
              have wn : IntKind.i64.wrap (((m + 2 : Nat) : Int) - 1) = ((m + 1 : Nat) : Int) := by rw [IntWalk.i64_in _ (by omega)]; omega
              have wn' : IntKind.i64.wrap ((m : Int) + 2 - 1) = ((m + 1 : Nat) : Int) := by rw [IntWalk.i64_in _ (by omega)]; omega
              rw [hm]
              clear hmay htk h0 h1 h34 htr hdr hrow' v0 v1 v2 u0 u1 u2 hy hzz hyi
              go_wp2_with fail
              refine (TK.out _).mono ?_
              rintro e w2 ⟨rfl, rfl⟩
              go_upto_region 20 with fail
              have S0 := (show wc.cell? ⟨g, off + k * 3, none⟩ = some (.int .i64 xk) ∧ (wc.cell? ⟨gs, m * 3, none⟩ = some (.int .i64 yn) ∧ wc.cell? ⟨gs, m * 3 + 1, none⟩ = some (.string yp) ∧ wc.cell? ⟨gs, m * 3 + 2, none⟩ = some (.string ym)) ∧ wc.cell? ⟨gs, (m + 1) * 3, none⟩ = some (.int .i64 zn) ∧ wc.cell? ⟨gs, (m + 1) * 3 + 1, none⟩ = some (.string zp) ∧ wc.cell? ⟨gs, (m + 1) * 3 + 2, none⟩ = some (.string zm) from ⟨c1, ⟨d0, d1, d2⟩, e0, e1, e2⟩)
              clear c1 c2 c3 d0 d1 d2 e0 e1 e2
              go_cut [9] from 16 to 116 (fun s9 wx => s9 = .int .i64 qe ∧ wx.heap[B]? = some (.cells #[.int .i64 qn, .string qp, .string qm] 26 (0, 0)) ∧ wx.ownsRow (w.heap.size + 1) 26 3 (.slice (some ⟨gs, 0, none⟩) (m + 2) vc) (m + 2) (valC st) ∧ wx.heap[w.heap.size]? = some (.cells #[.int .i64 0, .string ⟨#[]⟩, .string ⟨#[]⟩] 26 (0, 0)) ∧ Below w.heap.size w wx)
              case first =>
                have wk : IntKind.i64.wrap (m : Int) = (m : Int) := IntWalk.i64_in _ (by omega)
                have p0 : (0 : Int) ≤ (m : Int) := by omega
                have p1 : (m : Int) < (m : Int) + 2 := by omega
                have p2 : (m : Int) + 1 < (m : Int) + 2 := by omega
                have p3 : (0 : Int) ≤ (m : Int) + 1 := by omega
                have p4 : (m : Int) < ((m + 2 : Nat) : Int) := by omega
                have p5 : ((m + 1 : Nat) : Int) < ((m + 2 : Nat) : Int) := by omega
                have p6 : (0 : Int) ≤ ((m + 1 : Nat) : Int) := by omega
                go_region_held3 (fun w' => w'.cell? ⟨g, off + k * 3, none⟩ = some (.int .i64 xk) ∧ (w'.cell? ⟨gs, m * 3, none⟩ = some (.int .i64 yn) ∧ w'.cell? ⟨gs, m * 3 + 1, none⟩ = some (.string yp) ∧ w'.cell? ⟨gs, m * 3 + 2, none⟩ = some (.string ym)) ∧ w'.cell? ⟨gs, (m + 1) * 3, none⟩ = some (.int .i64 zn) ∧ w'.cell? ⟨gs, (m + 1) * 3 + 1, none⟩ = some (.string zp) ∧ w'.cell? ⟨gs, (m + 1) * 3 + 2, none⟩ = some (.string zm)) (first | exact S0 | exact S1 | exact seven_far HTOK.out HGB.out S1) (first
                  | (go_at_call 32; ((with_reducible refine (TW.out wc.drew).mono ?_); rintro e w2 ⟨rfl, hb2⟩); have hbx : Below wc.heap.size wc w2 := Below.thn (Below.refl _ wc).drew (Nat.le_refl _) hb2; have S1 := seven_kept hbx S0; have HX2 := Lib.hid (block_kept hbx HX.out); have HR2 := Lib.hid (own_mono HR1.out hbx (fun g hg => (HR1.out.lt g hg).2)); have HZ2 := Lib.hid (block_kept hbx HZ.out); have HB2 := Lib.hid (Below.thn HBC.out HBC.out.size hbx); obtain ⟨b0, b1, b2⟩ := val_cells HX2.out; have fz := fz_of HX2.out; clear hb2 hbx))
                all_goals
                  go_wp2_with fail
                  go_meet
                case rel => exact ⟨rfl, val_set HX2.out _ _ _, own_ne3 HR2.out HGB.out _ _ _, set_far (set_far (set_far HZ2.out (by have := HLT.out; omega)) (by have := HLT.out; omega)) (by have := HLT.out; omega), below_val HB2.out (Nat.le_of_lt HLT.out) _ _ _⟩
              case rest =>
                obtain ⟨rfl, hxv, hrv, hzv, hbv⟩ := hcut
                have HXV := Lib.hid hxv
                have HZV := Lib.hid hzv
                have HBV := Lib.hid hbv
                have HTV := own_take hrv (m := m) (by omega)
                rw [valC_take] at HTV
                replace HTV := Lib.hid HTV
                have HTV2 := trivial
                clear hxv hrv hzv hbv S0 HX HR1 HZ HBC HROW
                by_cases hqe : qe = 0
                · subst hqe
                  have HN := Lib.hid (NX.out (qn, qp, qm) HQ.out)
                  obtain ⟨b0, b1, b2⟩ := val_cells HXV.out
                  clear NX BD
                  go_wp2_with (at_builtin; go_loud (refine wpList_append_own _ rfl _ _ 60 rfl (w.heap.size + 1) 26 i0 (.agg #[.int .i64 0, .string ⟨#[]⟩, .string ⟨#[]⟩]) 3 40 Tryd.underlying60 hi hiz0 hiz1 hiz2 rfl (by decide) _ _ _ rfl (own_mono HTV.out (below1 wc _) (fun g hg => (HTV.out.lt g hg).2)) ⟨wc.heap.size, 0, none⟩ 1 1 [.int .i64 qn, .string qp, .string qm] rfl rfl (fun j u hu => World.news_of_block (heap_alloc_new wc _) j u hu) (by simp [Value.oneCell']) (by unfold maxLen; omega) (by omega) (by have := heap_lt HZV.out; simp; omega) ?_; intro v' w3 hown3 hgrow3 _; obtain ⟨ub, uc, rfl⟩ := own_sliceN hown3))
                  go_roundw
                  case rel => exact ⟨k + 1, st.take m ++ [(qn, qp, qm)], by first | rfl | rw [← w9], Lib.hid (EvI.push (r := (qn, qp, qm)) HLL.out HTV.out HZV.out HBV.out hown3 hgrow3 HN.out hlt')⟩
                  case measure => simp [intOf]; omega
                · have R := Lib.hid (BD.out (qn, qp, qm) qe HQ.out hqe)
                  have hq1 : (qe != 0) = true := by simp [hqe]
                  obtain ⟨r0, r1, r2⟩ := val_cells HZV.out
                  have fr := fz_of HZV.out
                  clear NX BD
                  go_wp2_with fail
                  obtain ⟨v0, v1, v2⟩ := val_cells (val_set HZV.out (.int .i64 0) (.string E0) (.string E0))
                  exact bodyPost_ret (v := RV (Z3, qe)) (by simp [RV, vlV, results, Tryd.results10, go_sem, v0, v1, v2]) rfl ⟨by rw [HE.out, R.out], below_val HBV.out (Nat.le_refl _) _ _ _⟩
      · have hkl2 : k = T.length := by omega
        subst hkl2
        have hfo := hev.out.fold
        have hch := hev.out.chk
        rw [List.take_length] at hfo hch
        rw [HC.out] at hch
        have hl1 : st.length = 1 := by simpa using hch.symm
        obtain ⟨⟨xn, xp, xm⟩, rfl⟩ := List.length_eq_one_iff.1 hl1
        have R := Lib.hid (show foldT T = ((xn, xp, xm), 0) by
          unfold foldT
          rw [hfo, if_pos rfl]; rfl)
        have HZ := Lib.hid hev.out.box
        have HBR := Lib.hid hev.out.bel
        obtain ⟨z0, z1, z2⟩ := val_cells HZ.out
        have fz := fz_of HZ.out
        obtain ⟨g, cap, hvb, -, -⟩ := hrow.form (by simp)
        cases hvb
        have c0 := hrow.cellAt 0 (by simp)
        have c1 := hrow.cellAt 1 (by simp)
        have c2 := hrow.cellAt 2 (by simp)
        simp only [valC, List.flatMap_cons, List.flatMap_nil, List.append_nil, List.getElem?_cons_zero, List.getElem?_cons_succ] at c0 c1 c2
        clear hrow hev hfo hch
        go_wp2_with fail
        obtain ⟨e0, e1, e2⟩ := val_cells (val_set HZ.out (.int .i64 xn) (.string xp) (.string xm))
        exact bodyPost_ret (v := RV ((xn, xp, xm), 0)) (by simp [RV, vlV, results, Tryd.results10, go_sem, e0, e1, e2]) rfl ⟨by rw [HE.out, R.out], below_val HBR.out (Nat.le_refl _) _ _ _⟩
  · have HE := Lib.hid (show evalT T = (Z3, checkT T) by unfold evalT; rw [if_neg hc])
    have hc' : (checkT T != 0) = true := by simp [hc]
    generalize checkT T = ce at *
    clear hs hI hc
    go_enter Tryd.func10, Tryd.ntmps10
    go_upto_region 1 with fail
    generalize w.alloc (.cells #[.int .i64 0, .string ⟨#[]⟩, .string ⟨#[]⟩] 26) = W0 at *
    go_wp2_with fail
    refine (CK.out _ HB0.out).mono ?_
    rintro e w1 ⟨rfl, rfl⟩
    obtain ⟨r0, r1, r2⟩ := val_cells HBX.out
    have fr := fz_of HBX.out
    go_wp2_with fail
    obtain ⟨v0, v1, v2⟩ := val_cells (val_set HBX.out (.int .i64 0) (.string E0) (.string E0))
    exact bodyPost_ret (v := RV (Z3, ce)) (by simp [RV, vlV, results, Tryd.results10, go_sem, v0, v1, v2]) rfl ⟨by rw [HE.out], below_val HB0.out (Nat.le_refl _) _ _ _⟩
end Go.Proofs.YtdkflmpdelfgoaaDoor
