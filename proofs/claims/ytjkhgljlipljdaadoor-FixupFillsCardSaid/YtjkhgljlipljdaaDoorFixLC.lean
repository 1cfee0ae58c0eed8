/-
  Ways through the document's Resolve. Conditions: what its callees answer (Cal), and the way's tests.
-/
import Derived.Test.YtjkhgljlipljdaaDoorFixL
namespace Go.Proofs.YtjkhgljlipljdaaDoor
open Go.RowKit
set_option linter.unusedVariables false
set_option linter.unusedSimpArgs false

set_option maxRecDepth 100000 in
set_option maxHeartbeats 8000000 in
theorem rl_isn_far (k s a : Int) (pl ml : BA) (sec off : Int) (sv : Value) (ps pv pn ms mv mn : Int) (w : World) (D N : Bool) (FT : Int → Bool) (RF : Bool → Pt → Int → Fx) (RG : Bool → Pt → Int) (b1 : (ps == -2) = false) (hN : N = false)
    (CA : Hid (Cal w k s a pl ml sec off sv (⟨true, ps, pv, pn⟩ : Pt) (⟨false, ms, mv, mn⟩ : Pt) D N FT RF RG)) :
    Calls Tryd.prog 23 #[.agg #[.int .i64 k, .int .i64 s, .int .i64 a, .string pl, .string ml], .int .i64 sec, .int .i64 off, sv] w fun e w' => e = .returned (.tuple #[.agg #[.bool (RF false ⟨true, ps, pv, pn⟩ (a)).pt, .int .i64 (RF false ⟨true, ps, pv, pn⟩ (a)).v, .bool (RF false ⟨true, ps, pv, pn⟩ (a)).rl, .int .i64 (RF false ⟨true, ps, pv, pn⟩ (a)).off, .int .i64 (RF false ⟨true, ps, pv, pn⟩ (a)).ty, .int .i64 (RF false ⟨true, ps, pv, pn⟩ (a)).sy, .int .i64 (RF false ⟨true, ps, pv, pn⟩ (a)).ad], .int .i64 (RG false ⟨true, ps, pv, pn⟩)]) ∧ Below w.heap.size w w' := by
  go_enter Tryd.func23, Tryd.ntmps23
  go_wp2_with fail
  refine (CA.out.CK _).mono ?_
  rintro e w1 ⟨rfl, hb1⟩
  obtain ⟨g1, g2, hbw, hz⟩ := kept2 hb1
  obtain ⟨c0, c1, c2, c3, c4⟩ := five g1
  have HB := Lib.hid hbw
  have G1 := Lib.hid g1
  have G2 := Lib.hid g2
  have HZ := Lib.hid hz
  clear hb1 g1 g2 hbw hz
  go_wp2_with fail
  refine (CA.out.F1 _ HB.out).mono ?_
  rintro e w2 ⟨rfl, hb2⟩
  have g1 := kept_v hb2 G1.out
  have g2 := kept_v hb2 G2.out
  have hbw := Below.thn HB.out HB.out.size hb2
  have k1 := below1 w2 (.cells #[.bool true, .int .i64 pn, .int .i64 ps, .int .i64 pv] 88)
  have hz2 := Nat.le_trans HZ.out hb2.size
  have G1 := Lib.hid ((k1.block _ (heap_lt g1)).trans g1)
  have G2 := Lib.hid ((k1.block _ (heap_lt g2)).trans g2)
  have G3 := Lib.hid (heap_alloc_new w2 (.cells #[.bool true, .int .i64 pn, .int .i64 ps, .int .i64 pv] 88))
  have HB := Lib.hid (Below.thn hbw hbw.size k1)
  have HZ2 := Lib.hid hz2
  have HZ3 := Lib.hid (show w2.heap.size < (w2.alloc (.cells #[.bool true, .int .i64 pn, .int .i64 ps, .int .i64 pv] 88)).heap.size by simp)
  go_upto_region 5 with fail
  generalize (w2.alloc (.cells #[.bool true, .int .i64 pn, .int .i64 ps, .int .i64 pv] 88)) = V2 at *
  clear hb2 g1 g2 hbw k1 c0 c1 c2 c3 c4 hz2 HZ
  obtain ⟨c0, c1, c2, c3, c4⟩ := five G1.out
  go_wp2_with fail
  refine (CA.out.F2 _ HB.out).mono ?_
  rintro e w3 ⟨rfl, hb3⟩
  have k1 := below1 w3 (.cells #[.bool false, .int .i64 mn, .int .i64 ms, .int .i64 mv] 88)
  have BX : Hid (Bx w k s a pl ml w2.heap.size w3.heap.size (⟨true, ps, pv, pn⟩ : Pt) (⟨false, ms, mv, mn⟩ : Pt) (w3.alloc (.cells #[.bool false, .int .i64 mn, .int .i64 ms, .int .i64 mv] 88))) :=
    Lib.hid ⟨kept_v k1 (kept_v hb3 G1.out), kept_v k1 (kept_v hb3 G2.out), kept_v k1 (kept_v hb3 G3.out), heap_alloc_new w3 _, Below.thn (Below.thn HB.out HB.out.size hb3) (Below.thn HB.out HB.out.size hb3).size k1, HZ2.out, Nat.lt_of_lt_of_le HZ3.out hb3.size⟩
  go_upto_region 6 with fail
  generalize (w3.alloc (.cells #[.bool false, .int .i64 mn, .int .i64 ms, .int .i64 mv] 88)) = V3 at *
  generalize w3.heap.size = BM at *
  generalize w2.heap.size = BP at *
  clear hb3 k1 c0 c1 c2 c3 c4 G1 G2 G3 HB HZ2 HZ3
  obtain ⟨c0, c1, c2, c3, c4⟩ := five BX.out.hole
  obtain ⟨fp, p0, p1, p2, p3⟩ := four BX.out.P
  obtain ⟨fm, m0, m1, m2, m3⟩ := four BX.out.M
  obtain ⟨ff, d0, d1, d2, d3, d4, d5, d6⟩ := seven BX.out.fix
  have lP := BX.out.lP
  have lM := BX.out.lM
  have nPM : BP ≠ BM := by omega
  have nMP : BM ≠ BP := by omega
  go_upto_region 20 with fail
  go_wp2_with fail
  refine (CA.out.NE _).mono ?_
  rintro e w4 ⟨rfl, hb4⟩
  have BX2 := Lib.hid (BX.out.keep hb4)
  clear BX hb4
  clear c0 c1 c2 c3 c4 fp p0 p1 p2 p3 fm m0 m1 m2 m3 ff d0 d1 d2 d3 d4 d5 d6 lP lM nPM nMP
  have BX := BX2
  clear BX2
  obtain ⟨c0, c1, c2, c3, c4⟩ := five BX.out.hole
  obtain ⟨fp, p0, p1, p2, p3⟩ := four BX.out.P
  obtain ⟨fm, m0, m1, m2, m3⟩ := four BX.out.M
  obtain ⟨ff, d0, d1, d2, d3, d4, d5, d6⟩ := seven BX.out.fix
  have lP := BX.out.lP
  have lM := BX.out.lM
  have nPM : BP ≠ BM := by omega
  have nMP : BM ≠ BP := by omega
  go_wp2_with fail
  refine (CA.out.RE _ ⟨true, ps, pv, pn⟩ _ _).mono ?_
  rintro e w5 ⟨rfl, hb4⟩
  have BX2 := Lib.hid (BX.out.keep hb4)
  clear BX hb4
  clear c0 c1 c2 c3 c4 fp p0 p1 p2 p3 fm m0 m1 m2 m3 ff d0 d1 d2 d3 d4 d5 d6 lP lM nPM nMP
  have BX := BX2
  clear BX2
  obtain ⟨c0, c1, c2, c3, c4⟩ := five BX.out.hole
  obtain ⟨fp, p0, p1, p2, p3⟩ := four BX.out.P
  obtain ⟨fm, m0, m1, m2, m3⟩ := four BX.out.M
  obtain ⟨ff, d0, d1, d2, d3, d4, d5, d6⟩ := seven BX.out.fix
  have lP := BX.out.lP
  have lM := BX.out.lM
  have nPM : BP ≠ BM := by omega
  have nMP : BM ≠ BP := by omega
  go_wp2_with fail
  try simp only [Exit.inBlock, Exit.then]
  refine bodyPost_ret (by simp [results, Tryd.results23, go_sem, d0, d1, d2, d3, d4, d5, d6]; try rfl) rfl ?_
  refine ⟨rfl, ?_⟩
  have hw := BX.out.bel
  iterate 7 (refine Below.setCell ?_ (by dsimp only; omega) _)
  exact hw
set_option maxRecDepth 100000 in
set_option maxHeartbeats 8000000 in
theorem rl_isn_sec (k s a : Int) (pl ml : BA) (sec off : Int) (sv : Value) (ps pv pn ms mv mn : Int) (w : World) (D N : Bool) (FT : Int → Bool) (RF : Bool → Pt → Int → Fx) (RG : Bool → Pt → Int) (b1 : (ps == -2) = false) (hN : N = true) (b3 : (ps == sec) = false)
    (CA : Hid (Cal w k s a pl ml sec off sv (⟨true, ps, pv, pn⟩ : Pt) (⟨false, ms, mv, mn⟩ : Pt) D N FT RF RG)) :
    Calls Tryd.prog 23 #[.agg #[.int .i64 k, .int .i64 s, .int .i64 a, .string pl, .string ml], .int .i64 sec, .int .i64 off, sv] w fun e w' => e = .returned (.tuple #[.agg #[.bool (RF false ⟨true, ps, pv, pn⟩ (a)).pt, .int .i64 (RF false ⟨true, ps, pv, pn⟩ (a)).v, .bool (RF false ⟨true, ps, pv, pn⟩ (a)).rl, .int .i64 (RF false ⟨true, ps, pv, pn⟩ (a)).off, .int .i64 (RF false ⟨true, ps, pv, pn⟩ (a)).ty, .int .i64 (RF false ⟨true, ps, pv, pn⟩ (a)).sy, .int .i64 (RF false ⟨true, ps, pv, pn⟩ (a)).ad], .int .i64 (RG false ⟨true, ps, pv, pn⟩)]) ∧ Below w.heap.size w w' := by
  go_enter Tryd.func23, Tryd.ntmps23
  go_wp2_with fail
  refine (CA.out.CK _).mono ?_
  rintro e w1 ⟨rfl, hb1⟩
  obtain ⟨g1, g2, hbw, hz⟩ := kept2 hb1
  obtain ⟨c0, c1, c2, c3, c4⟩ := five g1
  have HB := Lib.hid hbw
  have G1 := Lib.hid g1
  have G2 := Lib.hid g2
  have HZ := Lib.hid hz
  clear hb1 g1 g2 hbw hz
  go_wp2_with fail
  refine (CA.out.F1 _ HB.out).mono ?_
  rintro e w2 ⟨rfl, hb2⟩
  have g1 := kept_v hb2 G1.out
  have g2 := kept_v hb2 G2.out
  have hbw := Below.thn HB.out HB.out.size hb2
  have k1 := below1 w2 (.cells #[.bool true, .int .i64 pn, .int .i64 ps, .int .i64 pv] 88)
  have hz2 := Nat.le_trans HZ.out hb2.size
  have G1 := Lib.hid ((k1.block _ (heap_lt g1)).trans g1)
  have G2 := Lib.hid ((k1.block _ (heap_lt g2)).trans g2)
  have G3 := Lib.hid (heap_alloc_new w2 (.cells #[.bool true, .int .i64 pn, .int .i64 ps, .int .i64 pv] 88))
  have HB := Lib.hid (Below.thn hbw hbw.size k1)
  have HZ2 := Lib.hid hz2
  have HZ3 := Lib.hid (show w2.heap.size < (w2.alloc (.cells #[.bool true, .int .i64 pn, .int .i64 ps, .int .i64 pv] 88)).heap.size by simp)
  go_upto_region 5 with fail
  generalize (w2.alloc (.cells #[.bool true, .int .i64 pn, .int .i64 ps, .int .i64 pv] 88)) = V2 at *
  clear hb2 g1 g2 hbw k1 c0 c1 c2 c3 c4 hz2 HZ
  obtain ⟨c0, c1, c2, c3, c4⟩ := five G1.out
  go_wp2_with fail
  refine (CA.out.F2 _ HB.out).mono ?_
  rintro e w3 ⟨rfl, hb3⟩
  have k1 := below1 w3 (.cells #[.bool false, .int .i64 mn, .int .i64 ms, .int .i64 mv] 88)
  have BX : Hid (Bx w k s a pl ml w2.heap.size w3.heap.size (⟨true, ps, pv, pn⟩ : Pt) (⟨false, ms, mv, mn⟩ : Pt) (w3.alloc (.cells #[.bool false, .int .i64 mn, .int .i64 ms, .int .i64 mv] 88))) :=
    Lib.hid ⟨kept_v k1 (kept_v hb3 G1.out), kept_v k1 (kept_v hb3 G2.out), kept_v k1 (kept_v hb3 G3.out), heap_alloc_new w3 _, Below.thn (Below.thn HB.out HB.out.size hb3) (Below.thn HB.out HB.out.size hb3).size k1, HZ2.out, Nat.lt_of_lt_of_le HZ3.out hb3.size⟩
  go_upto_region 6 with fail
  generalize (w3.alloc (.cells #[.bool false, .int .i64 mn, .int .i64 ms, .int .i64 mv] 88)) = V3 at *
  generalize w3.heap.size = BM at *
  generalize w2.heap.size = BP at *
  clear hb3 k1 c0 c1 c2 c3 c4 G1 G2 G3 HB HZ2 HZ3
  obtain ⟨c0, c1, c2, c3, c4⟩ := five BX.out.hole
  obtain ⟨fp, p0, p1, p2, p3⟩ := four BX.out.P
  obtain ⟨fm, m0, m1, m2, m3⟩ := four BX.out.M
  obtain ⟨ff, d0, d1, d2, d3, d4, d5, d6⟩ := seven BX.out.fix
  have lP := BX.out.lP
  have lM := BX.out.lM
  have nPM : BP ≠ BM := by omega
  have nMP : BM ≠ BP := by omega
  go_upto_region 20 with fail
  go_wp2_with fail
  refine (CA.out.NE _).mono ?_
  rintro e w4 ⟨rfl, hb4⟩
  have BX2 := Lib.hid (BX.out.keep hb4)
  clear BX hb4
  clear c0 c1 c2 c3 c4 fp p0 p1 p2 p3 fm m0 m1 m2 m3 ff d0 d1 d2 d3 d4 d5 d6 lP lM nPM nMP
  have BX := BX2
  clear BX2
  obtain ⟨c0, c1, c2, c3, c4⟩ := five BX.out.hole
  obtain ⟨fp, p0, p1, p2, p3⟩ := four BX.out.P
  obtain ⟨fm, m0, m1, m2, m3⟩ := four BX.out.M
  obtain ⟨ff, d0, d1, d2, d3, d4, d5, d6⟩ := seven BX.out.fix
  have lP := BX.out.lP
  have lM := BX.out.lM
  have nPM : BP ≠ BM := by omega
  have nMP : BM ≠ BP := by omega
  go_wp2_with fail
  refine (CA.out.RE _ ⟨true, ps, pv, pn⟩ _ _).mono ?_
  rintro e w5 ⟨rfl, hb4⟩
  have BX2 := Lib.hid (BX.out.keep hb4)
  clear BX hb4
  clear c0 c1 c2 c3 c4 fp p0 p1 p2 p3 fm m0 m1 m2 m3 ff d0 d1 d2 d3 d4 d5 d6 lP lM nPM nMP
  have BX := BX2
  clear BX2
  obtain ⟨c0, c1, c2, c3, c4⟩ := five BX.out.hole
  obtain ⟨fp, p0, p1, p2, p3⟩ := four BX.out.P
  obtain ⟨fm, m0, m1, m2, m3⟩ := four BX.out.M
  obtain ⟨ff, d0, d1, d2, d3, d4, d5, d6⟩ := seven BX.out.fix
  have lP := BX.out.lP
  have lM := BX.out.lM
  have nPM : BP ≠ BM := by omega
  have nMP : BM ≠ BP := by omega
  go_wp2_with fail
  try simp only [Exit.inBlock, Exit.then]
  refine bodyPost_ret (by simp [results, Tryd.results23, go_sem, d0, d1, d2, d3, d4, d5, d6]; try rfl) rfl ?_
  refine ⟨rfl, ?_⟩
  have hw := BX.out.bel
  iterate 7 (refine Below.setCell ?_ (by dsimp only; omega) _)
  exact hw
set_option maxRecDepth 100000 in
set_option maxHeartbeats 8000000 in
theorem rl_isn_non (k s a : Int) (pl ml : BA) (sec off : Int) (sv : Value) (ps pv pn ms mv mn : Int) (w : World) (D N : Bool) (FT : Int → Bool) (RF : Bool → Pt → Int → Fx) (RG : Bool → Pt → Int) (b1 : (ps == -2) = false) (hN : N = true) (b3 : (ps == sec) = true) (b4 : (ps != -1) = false)
    (CA : Hid (Cal w k s a pl ml sec off sv (⟨true, ps, pv, pn⟩ : Pt) (⟨false, ms, mv, mn⟩ : Pt) D N FT RF RG)) :
    Calls Tryd.prog 23 #[.agg #[.int .i64 k, .int .i64 s, .int .i64 a, .string pl, .string ml], .int .i64 sec, .int .i64 off, sv] w fun e w' => e = .returned (.tuple #[.agg #[.bool (RF false ⟨true, ps, pv, pn⟩ (a)).pt, .int .i64 (RF false ⟨true, ps, pv, pn⟩ (a)).v, .bool (RF false ⟨true, ps, pv, pn⟩ (a)).rl, .int .i64 (RF false ⟨true, ps, pv, pn⟩ (a)).off, .int .i64 (RF false ⟨true, ps, pv, pn⟩ (a)).ty, .int .i64 (RF false ⟨true, ps, pv, pn⟩ (a)).sy, .int .i64 (RF false ⟨true, ps, pv, pn⟩ (a)).ad], .int .i64 (RG false ⟨true, ps, pv, pn⟩)]) ∧ Below w.heap.size w w' := by
  go_enter Tryd.func23, Tryd.ntmps23
  go_wp2_with fail
  refine (CA.out.CK _).mono ?_
  rintro e w1 ⟨rfl, hb1⟩
  obtain ⟨g1, g2, hbw, hz⟩ := kept2 hb1
  obtain ⟨c0, c1, c2, c3, c4⟩ := five g1
  have HB := Lib.hid hbw
  have G1 := Lib.hid g1
  have G2 := Lib.hid g2
  have HZ := Lib.hid hz
  clear hb1 g1 g2 hbw hz
  go_wp2_with fail
  refine (CA.out.F1 _ HB.out).mono ?_
  rintro e w2 ⟨rfl, hb2⟩
  have g1 := kept_v hb2 G1.out
  have g2 := kept_v hb2 G2.out
  have hbw := Below.thn HB.out HB.out.size hb2
  have k1 := below1 w2 (.cells #[.bool true, .int .i64 pn, .int .i64 ps, .int .i64 pv] 88)
  have hz2 := Nat.le_trans HZ.out hb2.size
  have G1 := Lib.hid ((k1.block _ (heap_lt g1)).trans g1)
  have G2 := Lib.hid ((k1.block _ (heap_lt g2)).trans g2)
  have G3 := Lib.hid (heap_alloc_new w2 (.cells #[.bool true, .int .i64 pn, .int .i64 ps, .int .i64 pv] 88))
  have HB := Lib.hid (Below.thn hbw hbw.size k1)
  have HZ2 := Lib.hid hz2
  have HZ3 := Lib.hid (show w2.heap.size < (w2.alloc (.cells #[.bool true, .int .i64 pn, .int .i64 ps, .int .i64 pv] 88)).heap.size by simp)
  go_upto_region 5 with fail
  generalize (w2.alloc (.cells #[.bool true, .int .i64 pn, .int .i64 ps, .int .i64 pv] 88)) = V2 at *
  clear hb2 g1 g2 hbw k1 c0 c1 c2 c3 c4 hz2 HZ
  obtain ⟨c0, c1, c2, c3, c4⟩ := five G1.out
  go_wp2_with fail
  refine (CA.out.F2 _ HB.out).mono ?_
  rintro e w3 ⟨rfl, hb3⟩
  have k1 := below1 w3 (.cells #[.bool false, .int .i64 mn, .int .i64 ms, .int .i64 mv] 88)
  have BX : Hid (Bx w k s a pl ml w2.heap.size w3.heap.size (⟨true, ps, pv, pn⟩ : Pt) (⟨false, ms, mv, mn⟩ : Pt) (w3.alloc (.cells #[.bool false, .int .i64 mn, .int .i64 ms, .int .i64 mv] 88))) :=
    Lib.hid ⟨kept_v k1 (kept_v hb3 G1.out), kept_v k1 (kept_v hb3 G2.out), kept_v k1 (kept_v hb3 G3.out), heap_alloc_new w3 _, Below.thn (Below.thn HB.out HB.out.size hb3) (Below.thn HB.out HB.out.size hb3).size k1, HZ2.out, Nat.lt_of_lt_of_le HZ3.out hb3.size⟩
  go_upto_region 6 with fail
  generalize (w3.alloc (.cells #[.bool false, .int .i64 mn, .int .i64 ms, .int .i64 mv] 88)) = V3 at *
  generalize w3.heap.size = BM at *
  generalize w2.heap.size = BP at *
  clear hb3 k1 c0 c1 c2 c3 c4 G1 G2 G3 HB HZ2 HZ3
  obtain ⟨c0, c1, c2, c3, c4⟩ := five BX.out.hole
  obtain ⟨fp, p0, p1, p2, p3⟩ := four BX.out.P
  obtain ⟨fm, m0, m1, m2, m3⟩ := four BX.out.M
  obtain ⟨ff, d0, d1, d2, d3, d4, d5, d6⟩ := seven BX.out.fix
  have lP := BX.out.lP
  have lM := BX.out.lM
  have nPM : BP ≠ BM := by omega
  have nMP : BM ≠ BP := by omega
  go_upto_region 20 with fail
  go_wp2_with fail
  refine (CA.out.NE _).mono ?_
  rintro e w4 ⟨rfl, hb4⟩
  have BX2 := Lib.hid (BX.out.keep hb4)
  clear BX hb4
  clear c0 c1 c2 c3 c4 fp p0 p1 p2 p3 fm m0 m1 m2 m3 ff d0 d1 d2 d3 d4 d5 d6 lP lM nPM nMP
  have BX := BX2
  clear BX2
  obtain ⟨c0, c1, c2, c3, c4⟩ := five BX.out.hole
  obtain ⟨fp, p0, p1, p2, p3⟩ := four BX.out.P
  obtain ⟨fm, m0, m1, m2, m3⟩ := four BX.out.M
  obtain ⟨ff, d0, d1, d2, d3, d4, d5, d6⟩ := seven BX.out.fix
  have lP := BX.out.lP
  have lM := BX.out.lM
  have nPM : BP ≠ BM := by omega
  have nMP : BM ≠ BP := by omega
  go_wp2_with fail
  refine (CA.out.RE _ ⟨true, ps, pv, pn⟩ _ _).mono ?_
  rintro e w5 ⟨rfl, hb4⟩
  have BX2 := Lib.hid (BX.out.keep hb4)
  clear BX hb4
  clear c0 c1 c2 c3 c4 fp p0 p1 p2 p3 fm m0 m1 m2 m3 ff d0 d1 d2 d3 d4 d5 d6 lP lM nPM nMP
  have BX := BX2
  clear BX2
  obtain ⟨c0, c1, c2, c3, c4⟩ := five BX.out.hole
  obtain ⟨fp, p0, p1, p2, p3⟩ := four BX.out.P
  obtain ⟨fm, m0, m1, m2, m3⟩ := four BX.out.M
  obtain ⟨ff, d0, d1, d2, d3, d4, d5, d6⟩ := seven BX.out.fix
  have lP := BX.out.lP
  have lM := BX.out.lM
  have nPM : BP ≠ BM := by omega
  have nMP : BM ≠ BP := by omega
  go_wp2_with fail
  try simp only [Exit.inBlock, Exit.then]
  refine bodyPost_ret (by simp [results, Tryd.results23, go_sem, d0, d1, d2, d3, d4, d5, d6]; try rfl) rfl ?_
  refine ⟨rfl, ?_⟩
  have hw := BX.out.bel
  iterate 7 (refine Below.setCell ?_ (by dsimp only; omega) _)
  exact hw
set_option maxRecDepth 100000 in
set_option maxHeartbeats 8000000 in
theorem rl_isn_fit (k s a : Int) (pl ml : BA) (sec off : Int) (sv : Value) (ps pv pn ms mv mn : Int) (w : World) (D N : Bool) (FT : Int → Bool) (RF : Bool → Pt → Int → Fx) (RG : Bool → Pt → Int) (b1 : (ps == -2) = false) (hN : N = true) (b3 : (ps == sec) = true) (b4 : (ps != -1) = true) (hF : FT (wrap64 (wrap64 (pv + a) - off)) = true)
    (CA : Hid (Cal w k s a pl ml sec off sv (⟨true, ps, pv, pn⟩ : Pt) (⟨false, ms, mv, mn⟩ : Pt) D N FT RF RG)) :
    Calls Tryd.prog 23 #[.agg #[.int .i64 k, .int .i64 s, .int .i64 a, .string pl, .string ml], .int .i64 sec, .int .i64 off, sv] w fun e w' => e = .returned (.tuple #[.agg #[.bool true, .int .i64 (wrap64 (wrap64 (pv + a) - off)), .bool false, .int .i64 0, .int .i64 0, .int .i64 0, .int .i64 0], .int .i64 0]) ∧ Below w.heap.size w w' := by
  go_enter Tryd.func23, Tryd.ntmps23
  go_wp2_with fail
  refine (CA.out.CK _).mono ?_
  rintro e w1 ⟨rfl, hb1⟩
  obtain ⟨g1, g2, hbw, hz⟩ := kept2 hb1
  obtain ⟨c0, c1, c2, c3, c4⟩ := five g1
  have HB := Lib.hid hbw
  have G1 := Lib.hid g1
  have G2 := Lib.hid g2
  have HZ := Lib.hid hz
  clear hb1 g1 g2 hbw hz
  go_wp2_with fail
  refine (CA.out.F1 _ HB.out).mono ?_
  rintro e w2 ⟨rfl, hb2⟩
  have g1 := kept_v hb2 G1.out
  have g2 := kept_v hb2 G2.out
  have hbw := Below.thn HB.out HB.out.size hb2
  have k1 := below1 w2 (.cells #[.bool true, .int .i64 pn, .int .i64 ps, .int .i64 pv] 88)
  have hz2 := Nat.le_trans HZ.out hb2.size
  have G1 := Lib.hid ((k1.block _ (heap_lt g1)).trans g1)
  have G2 := Lib.hid ((k1.block _ (heap_lt g2)).trans g2)
  have G3 := Lib.hid (heap_alloc_new w2 (.cells #[.bool true, .int .i64 pn, .int .i64 ps, .int .i64 pv] 88))
  have HB := Lib.hid (Below.thn hbw hbw.size k1)
  have HZ2 := Lib.hid hz2
  have HZ3 := Lib.hid (show w2.heap.size < (w2.alloc (.cells #[.bool true, .int .i64 pn, .int .i64 ps, .int .i64 pv] 88)).heap.size by simp)
  go_upto_region 5 with fail
  generalize (w2.alloc (.cells #[.bool true, .int .i64 pn, .int .i64 ps, .int .i64 pv] 88)) = V2 at *
  clear hb2 g1 g2 hbw k1 c0 c1 c2 c3 c4 hz2 HZ
  obtain ⟨c0, c1, c2, c3, c4⟩ := five G1.out
  go_wp2_with fail
  refine (CA.out.F2 _ HB.out).mono ?_
  rintro e w3 ⟨rfl, hb3⟩
  have k1 := below1 w3 (.cells #[.bool false, .int .i64 mn, .int .i64 ms, .int .i64 mv] 88)
  have BX : Hid (Bx w k s a pl ml w2.heap.size w3.heap.size (⟨true, ps, pv, pn⟩ : Pt) (⟨false, ms, mv, mn⟩ : Pt) (w3.alloc (.cells #[.bool false, .int .i64 mn, .int .i64 ms, .int .i64 mv] 88))) :=
    Lib.hid ⟨kept_v k1 (kept_v hb3 G1.out), kept_v k1 (kept_v hb3 G2.out), kept_v k1 (kept_v hb3 G3.out), heap_alloc_new w3 _, Below.thn (Below.thn HB.out HB.out.size hb3) (Below.thn HB.out HB.out.size hb3).size k1, HZ2.out, Nat.lt_of_lt_of_le HZ3.out hb3.size⟩
  go_upto_region 6 with fail
  generalize (w3.alloc (.cells #[.bool false, .int .i64 mn, .int .i64 ms, .int .i64 mv] 88)) = V3 at *
  generalize w3.heap.size = BM at *
  generalize w2.heap.size = BP at *
  clear hb3 k1 c0 c1 c2 c3 c4 G1 G2 G3 HB HZ2 HZ3
  obtain ⟨c0, c1, c2, c3, c4⟩ := five BX.out.hole
  obtain ⟨fp, p0, p1, p2, p3⟩ := four BX.out.P
  obtain ⟨fm, m0, m1, m2, m3⟩ := four BX.out.M
  obtain ⟨ff, d0, d1, d2, d3, d4, d5, d6⟩ := seven BX.out.fix
  have lP := BX.out.lP
  have lM := BX.out.lM
  have nPM : BP ≠ BM := by omega
  have nMP : BM ≠ BP := by omega
  go_upto_region 20 with fail
  go_wp2_with fail
  refine (CA.out.NE _).mono ?_
  rintro e w4 ⟨rfl, hb4⟩
  have BX2 := Lib.hid (BX.out.keep hb4)
  clear BX hb4
  clear c0 c1 c2 c3 c4 fp p0 p1 p2 p3 fm m0 m1 m2 m3 ff d0 d1 d2 d3 d4 d5 d6 lP lM nPM nMP
  have BX := BX2
  clear BX2
  obtain ⟨c0, c1, c2, c3, c4⟩ := five BX.out.hole
  obtain ⟨fp, p0, p1, p2, p3⟩ := four BX.out.P
  obtain ⟨fm, m0, m1, m2, m3⟩ := four BX.out.M
  obtain ⟨ff, d0, d1, d2, d3, d4, d5, d6⟩ := seven BX.out.fix
  have lP := BX.out.lP
  have lM := BX.out.lM
  have nPM : BP ≠ BM := by omega
  have nMP : BM ≠ BP := by omega
  go_wp2_with fail
  refine (CA.out.FI _ _).mono ?_
  rintro e w5 ⟨rfl, hb4⟩
  have BX2 := Lib.hid (BX.out.keep hb4)
  clear BX hb4
  clear c0 c1 c2 c3 c4 fp p0 p1 p2 p3 fm m0 m1 m2 m3 ff d0 d1 d2 d3 d4 d5 d6 lP lM nPM nMP
  have BX := BX2
  clear BX2
  obtain ⟨c0, c1, c2, c3, c4⟩ := five BX.out.hole
  obtain ⟨fp, p0, p1, p2, p3⟩ := four BX.out.P
  obtain ⟨fm, m0, m1, m2, m3⟩ := four BX.out.M
  obtain ⟨ff, d0, d1, d2, d3, d4, d5, d6⟩ := seven BX.out.fix
  have lP := BX.out.lP
  have lM := BX.out.lM
  have nPM : BP ≠ BM := by omega
  have nMP : BM ≠ BP := by omega
  go_wp2_with fail
  try simp only [Exit.inBlock, Exit.then]
  refine bodyPost_ret (by simp [results, Tryd.results23, go_sem, d0, d1, d2, d3, d4, d5, d6]; try rfl) rfl ?_
  refine ⟨rfl, ?_⟩
  have hw := BX.out.bel
  iterate 7 (refine Below.setCell ?_ (by dsimp only; omega) _)
  exact hw
set_option maxRecDepth 100000 in
set_option maxHeartbeats 8000000 in
theorem rl_isn_bad (k s a : Int) (pl ml : BA) (sec off : Int) (sv : Value) (ps pv pn ms mv mn : Int) (w : World) (D N : Bool) (FT : Int → Bool) (RF : Bool → Pt → Int → Fx) (RG : Bool → Pt → Int) (b1 : (ps == -2) = false) (hN : N = true) (b3 : (ps == sec) = true) (b4 : (ps != -1) = true) (hF : FT (wrap64 (wrap64 (pv + a) - off)) = false)
    (CA : Hid (Cal w k s a pl ml sec off sv (⟨true, ps, pv, pn⟩ : Pt) (⟨false, ms, mv, mn⟩ : Pt) D N FT RF RG)) :
    Calls Tryd.prog 23 #[.agg #[.int .i64 k, .int .i64 s, .int .i64 a, .string pl, .string ml], .int .i64 sec, .int .i64 off, sv] w fun e w' => e = .returned (.tuple #[.agg #[.bool false, .int .i64 0, .bool false, .int .i64 0, .int .i64 0, .int .i64 0, .int .i64 0], .int .i64 181]) ∧ Below w.heap.size w w' := by
  go_enter Tryd.func23, Tryd.ntmps23
  go_wp2_with fail
  refine (CA.out.CK _).mono ?_
  rintro e w1 ⟨rfl, hb1⟩
  obtain ⟨g1, g2, hbw, hz⟩ := kept2 hb1
  obtain ⟨c0, c1, c2, c3, c4⟩ := five g1
  have HB := Lib.hid hbw
  have G1 := Lib.hid g1
  have G2 := Lib.hid g2
  have HZ := Lib.hid hz
  clear hb1 g1 g2 hbw hz
  go_wp2_with fail
  refine (CA.out.F1 _ HB.out).mono ?_
  rintro e w2 ⟨rfl, hb2⟩
  have g1 := kept_v hb2 G1.out
  have g2 := kept_v hb2 G2.out
  have hbw := Below.thn HB.out HB.out.size hb2
  have k1 := below1 w2 (.cells #[.bool true, .int .i64 pn, .int .i64 ps, .int .i64 pv] 88)
  have hz2 := Nat.le_trans HZ.out hb2.size
  have G1 := Lib.hid ((k1.block _ (heap_lt g1)).trans g1)
  have G2 := Lib.hid ((k1.block _ (heap_lt g2)).trans g2)
  have G3 := Lib.hid (heap_alloc_new w2 (.cells #[.bool true, .int .i64 pn, .int .i64 ps, .int .i64 pv] 88))
  have HB := Lib.hid (Below.thn hbw hbw.size k1)
  have HZ2 := Lib.hid hz2
  have HZ3 := Lib.hid (show w2.heap.size < (w2.alloc (.cells #[.bool true, .int .i64 pn, .int .i64 ps, .int .i64 pv] 88)).heap.size by simp)
  go_upto_region 5 with fail
  generalize (w2.alloc (.cells #[.bool true, .int .i64 pn, .int .i64 ps, .int .i64 pv] 88)) = V2 at *
  clear hb2 g1 g2 hbw k1 c0 c1 c2 c3 c4 hz2 HZ
  obtain ⟨c0, c1, c2, c3, c4⟩ := five G1.out
  go_wp2_with fail
  refine (CA.out.F2 _ HB.out).mono ?_
  rintro e w3 ⟨rfl, hb3⟩
  have k1 := below1 w3 (.cells #[.bool false, .int .i64 mn, .int .i64 ms, .int .i64 mv] 88)
  have BX : Hid (Bx w k s a pl ml w2.heap.size w3.heap.size (⟨true, ps, pv, pn⟩ : Pt) (⟨false, ms, mv, mn⟩ : Pt) (w3.alloc (.cells #[.bool false, .int .i64 mn, .int .i64 ms, .int .i64 mv] 88))) :=
    Lib.hid ⟨kept_v k1 (kept_v hb3 G1.out), kept_v k1 (kept_v hb3 G2.out), kept_v k1 (kept_v hb3 G3.out), heap_alloc_new w3 _, Below.thn (Below.thn HB.out HB.out.size hb3) (Below.thn HB.out HB.out.size hb3).size k1, HZ2.out, Nat.lt_of_lt_of_le HZ3.out hb3.size⟩
  go_upto_region 6 with fail
  generalize (w3.alloc (.cells #[.bool false, .int .i64 mn, .int .i64 ms, .int .i64 mv] 88)) = V3 at *
  generalize w3.heap.size = BM at *
  generalize w2.heap.size = BP at *
  clear hb3 k1 c0 c1 c2 c3 c4 G1 G2 G3 HB HZ2 HZ3
  obtain ⟨c0, c1, c2, c3, c4⟩ := five BX.out.hole
  obtain ⟨fp, p0, p1, p2, p3⟩ := four BX.out.P
  obtain ⟨fm, m0, m1, m2, m3⟩ := four BX.out.M
  obtain ⟨ff, d0, d1, d2, d3, d4, d5, d6⟩ := seven BX.out.fix
  have lP := BX.out.lP
  have lM := BX.out.lM
  have nPM : BP ≠ BM := by omega
  have nMP : BM ≠ BP := by omega
  go_upto_region 20 with fail
  go_wp2_with fail
  refine (CA.out.NE _).mono ?_
  rintro e w4 ⟨rfl, hb4⟩
  have BX2 := Lib.hid (BX.out.keep hb4)
  clear BX hb4
  clear c0 c1 c2 c3 c4 fp p0 p1 p2 p3 fm m0 m1 m2 m3 ff d0 d1 d2 d3 d4 d5 d6 lP lM nPM nMP
  have BX := BX2
  clear BX2
  obtain ⟨c0, c1, c2, c3, c4⟩ := five BX.out.hole
  obtain ⟨fp, p0, p1, p2, p3⟩ := four BX.out.P
  obtain ⟨fm, m0, m1, m2, m3⟩ := four BX.out.M
  obtain ⟨ff, d0, d1, d2, d3, d4, d5, d6⟩ := seven BX.out.fix
  have lP := BX.out.lP
  have lM := BX.out.lM
  have nPM : BP ≠ BM := by omega
  have nMP : BM ≠ BP := by omega
  go_wp2_with fail
  refine (CA.out.FI _ _).mono ?_
  rintro e w5 ⟨rfl, hb4⟩
  have BX2 := Lib.hid (BX.out.keep hb4)
  clear BX hb4
  clear c0 c1 c2 c3 c4 fp p0 p1 p2 p3 fm m0 m1 m2 m3 ff d0 d1 d2 d3 d4 d5 d6 lP lM nPM nMP
  have BX := BX2
  clear BX2
  obtain ⟨c0, c1, c2, c3, c4⟩ := five BX.out.hole
  obtain ⟨fp, p0, p1, p2, p3⟩ := four BX.out.P
  obtain ⟨fm, m0, m1, m2, m3⟩ := four BX.out.M
  obtain ⟨ff, d0, d1, d2, d3, d4, d5, d6⟩ := seven BX.out.fix
  have lP := BX.out.lP
  have lM := BX.out.lM
  have nPM : BP ≠ BM := by omega
  have nMP : BM ≠ BP := by omega
  go_wp2_with fail
  try simp only [Exit.inBlock, Exit.then]
  refine bodyPost_ret (by simp [results, Tryd.results23, go_sem, d0, d1, d2, d3, d4, d5, d6]; try rfl) rfl ?_
  refine ⟨rfl, ?_⟩
  have hw := BX.out.bel
  iterate 7 (refine Below.setCell ?_ (by dsimp only; omega) _)
  exact hw
set_option maxRecDepth 100000 in
set_option maxHeartbeats 8000000 in
theorem rl_isu_far (k s a : Int) (pl ml : BA) (sec off : Int) (sv : Value) (ps pv pn ms mv mn : Int) (w : World) (D N : Bool) (FT : Int → Bool) (RF : Bool → Pt → Int → Fx) (RG : Bool → Pt → Int) (b1 : (ps == -2) = false) (hN : N = false)
    (CA : Hid (Cal w k s a pl ml sec off sv (⟨true, ps, pv, pn⟩ : Pt) (⟨true, (-2), mv, mn⟩ : Pt) D N FT RF RG)) :
    Calls Tryd.prog 23 #[.agg #[.int .i64 k, .int .i64 s, .int .i64 a, .string pl, .string ml], .int .i64 sec, .int .i64 off, sv] w fun e w' => e = .returned (.tuple #[.agg #[.bool (RF false ⟨true, ps, pv, pn⟩ (wrap64 (a - mv))).pt, .int .i64 (RF false ⟨true, ps, pv, pn⟩ (wrap64 (a - mv))).v, .bool (RF false ⟨true, ps, pv, pn⟩ (wrap64 (a - mv))).rl, .int .i64 (RF false ⟨true, ps, pv, pn⟩ (wrap64 (a - mv))).off, .int .i64 (RF false ⟨true, ps, pv, pn⟩ (wrap64 (a - mv))).ty, .int .i64 (RF false ⟨true, ps, pv, pn⟩ (wrap64 (a - mv))).sy, .int .i64 (RF false ⟨true, ps, pv, pn⟩ (wrap64 (a - mv))).ad], .int .i64 (RG false ⟨true, ps, pv, pn⟩)]) ∧ Below w.heap.size w w' := by
  go_enter Tryd.func23, Tryd.ntmps23
  go_wp2_with fail
  refine (CA.out.CK _).mono ?_
  rintro e w1 ⟨rfl, hb1⟩
  obtain ⟨g1, g2, hbw, hz⟩ := kept2 hb1
  obtain ⟨c0, c1, c2, c3, c4⟩ := five g1
  have HB := Lib.hid hbw
  have G1 := Lib.hid g1
  have G2 := Lib.hid g2
  have HZ := Lib.hid hz
  clear hb1 g1 g2 hbw hz
  go_wp2_with fail
  refine (CA.out.F1 _ HB.out).mono ?_
  rintro e w2 ⟨rfl, hb2⟩
  have g1 := kept_v hb2 G1.out
  have g2 := kept_v hb2 G2.out
  have hbw := Below.thn HB.out HB.out.size hb2
  have k1 := below1 w2 (.cells #[.bool true, .int .i64 pn, .int .i64 ps, .int .i64 pv] 88)
  have hz2 := Nat.le_trans HZ.out hb2.size
  have G1 := Lib.hid ((k1.block _ (heap_lt g1)).trans g1)
  have G2 := Lib.hid ((k1.block _ (heap_lt g2)).trans g2)
  have G3 := Lib.hid (heap_alloc_new w2 (.cells #[.bool true, .int .i64 pn, .int .i64 ps, .int .i64 pv] 88))
  have HB := Lib.hid (Below.thn hbw hbw.size k1)
  have HZ2 := Lib.hid hz2
  have HZ3 := Lib.hid (show w2.heap.size < (w2.alloc (.cells #[.bool true, .int .i64 pn, .int .i64 ps, .int .i64 pv] 88)).heap.size by simp)
  go_upto_region 5 with fail
  generalize (w2.alloc (.cells #[.bool true, .int .i64 pn, .int .i64 ps, .int .i64 pv] 88)) = V2 at *
  clear hb2 g1 g2 hbw k1 c0 c1 c2 c3 c4 hz2 HZ
  obtain ⟨c0, c1, c2, c3, c4⟩ := five G1.out
  go_wp2_with fail
  refine (CA.out.F2 _ HB.out).mono ?_
  rintro e w3 ⟨rfl, hb3⟩
  have k1 := below1 w3 (.cells #[.bool true, .int .i64 mn, .int .i64 (-2), .int .i64 mv] 88)
  have BX : Hid (Bx w k s a pl ml w2.heap.size w3.heap.size (⟨true, ps, pv, pn⟩ : Pt) (⟨true, (-2), mv, mn⟩ : Pt) (w3.alloc (.cells #[.bool true, .int .i64 mn, .int .i64 (-2), .int .i64 mv] 88))) :=
    Lib.hid ⟨kept_v k1 (kept_v hb3 G1.out), kept_v k1 (kept_v hb3 G2.out), kept_v k1 (kept_v hb3 G3.out), heap_alloc_new w3 _, Below.thn (Below.thn HB.out HB.out.size hb3) (Below.thn HB.out HB.out.size hb3).size k1, HZ2.out, Nat.lt_of_lt_of_le HZ3.out hb3.size⟩
  go_upto_region 6 with fail
  generalize (w3.alloc (.cells #[.bool true, .int .i64 mn, .int .i64 (-2), .int .i64 mv] 88)) = V3 at *
  generalize w3.heap.size = BM at *
  generalize w2.heap.size = BP at *
  clear hb3 k1 c0 c1 c2 c3 c4 G1 G2 G3 HB HZ2 HZ3
  obtain ⟨c0, c1, c2, c3, c4⟩ := five BX.out.hole
  obtain ⟨fp, p0, p1, p2, p3⟩ := four BX.out.P
  obtain ⟨fm, m0, m1, m2, m3⟩ := four BX.out.M
  obtain ⟨ff, d0, d1, d2, d3, d4, d5, d6⟩ := seven BX.out.fix
  have lP := BX.out.lP
  have lM := BX.out.lM
  have nPM : BP ≠ BM := by omega
  have nMP : BM ≠ BP := by omega
  go_upto_region 20 with fail
  have BX2 := Lib.hid (BxM BX.out)
  clear BX
  generalize ((((V3.setCell ⟨BM, 0, none⟩ (.bool false)).setCell ⟨BM, 1, none⟩ (.int .i64 0)).setCell ⟨BM, 2, none⟩ (.int .i64 0)).setCell ⟨BM, 3, none⟩ (.int .i64 0)) = V4 at *
  clear c0 c1 c2 c3 c4 fp p0 p1 p2 p3 fm m0 m1 m2 m3 ff d0 d1 d2 d3 d4 d5 d6 lP lM nPM nMP
  have BX := BX2
  clear BX2
  obtain ⟨c0, c1, c2, c3, c4⟩ := five BX.out.hole
  obtain ⟨fp, p0, p1, p2, p3⟩ := four BX.out.P
  obtain ⟨fm, m0, m1, m2, m3⟩ := four BX.out.M
  obtain ⟨ff, d0, d1, d2, d3, d4, d5, d6⟩ := seven BX.out.fix
  have lP := BX.out.lP
  have lM := BX.out.lM
  have nPM : BP ≠ BM := by omega
  have nMP : BM ≠ BP := by omega
  go_wp2_with fail
  refine (CA.out.NE _).mono ?_
  rintro e w4 ⟨rfl, hb4⟩
  have BX2 := Lib.hid (BX.out.keep hb4)
  clear BX hb4
  clear c0 c1 c2 c3 c4 fp p0 p1 p2 p3 fm m0 m1 m2 m3 ff d0 d1 d2 d3 d4 d5 d6 lP lM nPM nMP
  have BX := BX2
  clear BX2
  obtain ⟨c0, c1, c2, c3, c4⟩ := five BX.out.hole
  obtain ⟨fp, p0, p1, p2, p3⟩ := four BX.out.P
  obtain ⟨fm, m0, m1, m2, m3⟩ := four BX.out.M
  obtain ⟨ff, d0, d1, d2, d3, d4, d5, d6⟩ := seven BX.out.fix
  have lP := BX.out.lP
  have lM := BX.out.lM
  have nPM : BP ≠ BM := by omega
  have nMP : BM ≠ BP := by omega
  go_wp2_with fail
  refine (CA.out.RE _ ⟨true, ps, pv, pn⟩ _ _).mono ?_
  rintro e w5 ⟨rfl, hb4⟩
  have BX2 := Lib.hid (BX.out.keep hb4)
  clear BX hb4
  clear c0 c1 c2 c3 c4 fp p0 p1 p2 p3 fm m0 m1 m2 m3 ff d0 d1 d2 d3 d4 d5 d6 lP lM nPM nMP
  have BX := BX2
  clear BX2
  obtain ⟨c0, c1, c2, c3, c4⟩ := five BX.out.hole
  obtain ⟨fp, p0, p1, p2, p3⟩ := four BX.out.P
  obtain ⟨fm, m0, m1, m2, m3⟩ := four BX.out.M
  obtain ⟨ff, d0, d1, d2, d3, d4, d5, d6⟩ := seven BX.out.fix
  have lP := BX.out.lP
  have lM := BX.out.lM
  have nPM : BP ≠ BM := by omega
  have nMP : BM ≠ BP := by omega
  go_wp2_with fail
  try simp only [Exit.inBlock, Exit.then]
  refine bodyPost_ret (by simp [results, Tryd.results23, go_sem, d0, d1, d2, d3, d4, d5, d6]; try rfl) rfl ?_
  refine ⟨rfl, ?_⟩
  have hw := BX.out.bel
  iterate 7 (refine Below.setCell ?_ (by dsimp only; omega) _)
  exact hw
set_option maxRecDepth 100000 in
set_option maxHeartbeats 8000000 in
theorem rl_isu_sec (k s a : Int) (pl ml : BA) (sec off : Int) (sv : Value) (ps pv pn ms mv mn : Int) (w : World) (D N : Bool) (FT : Int → Bool) (RF : Bool → Pt → Int → Fx) (RG : Bool → Pt → Int) (b1 : (ps == -2) = false) (hN : N = true) (b3 : (ps == sec) = false)
    (CA : Hid (Cal w k s a pl ml sec off sv (⟨true, ps, pv, pn⟩ : Pt) (⟨true, (-2), mv, mn⟩ : Pt) D N FT RF RG)) :
    Calls Tryd.prog 23 #[.agg #[.int .i64 k, .int .i64 s, .int .i64 a, .string pl, .string ml], .int .i64 sec, .int .i64 off, sv] w fun e w' => e = .returned (.tuple #[.agg #[.bool (RF false ⟨true, ps, pv, pn⟩ (wrap64 (a - mv))).pt, .int .i64 (RF false ⟨true, ps, pv, pn⟩ (wrap64 (a - mv))).v, .bool (RF false ⟨true, ps, pv, pn⟩ (wrap64 (a - mv))).rl, .int .i64 (RF false ⟨true, ps, pv, pn⟩ (wrap64 (a - mv))).off, .int .i64 (RF false ⟨true, ps, pv, pn⟩ (wrap64 (a - mv))).ty, .int .i64 (RF false ⟨true, ps, pv, pn⟩ (wrap64 (a - mv))).sy, .int .i64 (RF false ⟨true, ps, pv, pn⟩ (wrap64 (a - mv))).ad], .int .i64 (RG false ⟨true, ps, pv, pn⟩)]) ∧ Below w.heap.size w w' := by
  go_enter Tryd.func23, Tryd.ntmps23
  go_wp2_with fail
  refine (CA.out.CK _).mono ?_
  rintro e w1 ⟨rfl, hb1⟩
  obtain ⟨g1, g2, hbw, hz⟩ := kept2 hb1
  obtain ⟨c0, c1, c2, c3, c4⟩ := five g1
  have HB := Lib.hid hbw
  have G1 := Lib.hid g1
  have G2 := Lib.hid g2
  have HZ := Lib.hid hz
  clear hb1 g1 g2 hbw hz
  go_wp2_with fail
  refine (CA.out.F1 _ HB.out).mono ?_
  rintro e w2 ⟨rfl, hb2⟩
  have g1 := kept_v hb2 G1.out
  have g2 := kept_v hb2 G2.out
  have hbw := Below.thn HB.out HB.out.size hb2
  have k1 := below1 w2 (.cells #[.bool true, .int .i64 pn, .int .i64 ps, .int .i64 pv] 88)
  have hz2 := Nat.le_trans HZ.out hb2.size
  have G1 := Lib.hid ((k1.block _ (heap_lt g1)).trans g1)
  have G2 := Lib.hid ((k1.block _ (heap_lt g2)).trans g2)
  have G3 := Lib.hid (heap_alloc_new w2 (.cells #[.bool true, .int .i64 pn, .int .i64 ps, .int .i64 pv] 88))
  have HB := Lib.hid (Below.thn hbw hbw.size k1)
  have HZ2 := Lib.hid hz2
  have HZ3 := Lib.hid (show w2.heap.size < (w2.alloc (.cells #[.bool true, .int .i64 pn, .int .i64 ps, .int .i64 pv] 88)).heap.size by simp)
  go_upto_region 5 with fail
  generalize (w2.alloc (.cells #[.bool true, .int .i64 pn, .int .i64 ps, .int .i64 pv] 88)) = V2 at *
  clear hb2 g1 g2 hbw k1 c0 c1 c2 c3 c4 hz2 HZ
  obtain ⟨c0, c1, c2, c3, c4⟩ := five G1.out
  go_wp2_with fail
  refine (CA.out.F2 _ HB.out).mono ?_
  rintro e w3 ⟨rfl, hb3⟩
  have k1 := below1 w3 (.cells #[.bool true, .int .i64 mn, .int .i64 (-2), .int .i64 mv] 88)
  have BX : Hid (Bx w k s a pl ml w2.heap.size w3.heap.size (⟨true, ps, pv, pn⟩ : Pt) (⟨true, (-2), mv, mn⟩ : Pt) (w3.alloc (.cells #[.bool true, .int .i64 mn, .int .i64 (-2), .int .i64 mv] 88))) :=
    Lib.hid ⟨kept_v k1 (kept_v hb3 G1.out), kept_v k1 (kept_v hb3 G2.out), kept_v k1 (kept_v hb3 G3.out), heap_alloc_new w3 _, Below.thn (Below.thn HB.out HB.out.size hb3) (Below.thn HB.out HB.out.size hb3).size k1, HZ2.out, Nat.lt_of_lt_of_le HZ3.out hb3.size⟩
  go_upto_region 6 with fail
  generalize (w3.alloc (.cells #[.bool true, .int .i64 mn, .int .i64 (-2), .int .i64 mv] 88)) = V3 at *
  generalize w3.heap.size = BM at *
  generalize w2.heap.size = BP at *
  clear hb3 k1 c0 c1 c2 c3 c4 G1 G2 G3 HB HZ2 HZ3
  obtain ⟨c0, c1, c2, c3, c4⟩ := five BX.out.hole
  obtain ⟨fp, p0, p1, p2, p3⟩ := four BX.out.P
  obtain ⟨fm, m0, m1, m2, m3⟩ := four BX.out.M
  obtain ⟨ff, d0, d1, d2, d3, d4, d5, d6⟩ := seven BX.out.fix
  have lP := BX.out.lP
  have lM := BX.out.lM
  have nPM : BP ≠ BM := by omega
  have nMP : BM ≠ BP := by omega
  go_upto_region 20 with fail
  have BX2 := Lib.hid (BxM BX.out)
  clear BX
  generalize ((((V3.setCell ⟨BM, 0, none⟩ (.bool false)).setCell ⟨BM, 1, none⟩ (.int .i64 0)).setCell ⟨BM, 2, none⟩ (.int .i64 0)).setCell ⟨BM, 3, none⟩ (.int .i64 0)) = V4 at *
  clear c0 c1 c2 c3 c4 fp p0 p1 p2 p3 fm m0 m1 m2 m3 ff d0 d1 d2 d3 d4 d5 d6 lP lM nPM nMP
  have BX := BX2
  clear BX2
  obtain ⟨c0, c1, c2, c3, c4⟩ := five BX.out.hole
  obtain ⟨fp, p0, p1, p2, p3⟩ := four BX.out.P
  obtain ⟨fm, m0, m1, m2, m3⟩ := four BX.out.M
  obtain ⟨ff, d0, d1, d2, d3, d4, d5, d6⟩ := seven BX.out.fix
  have lP := BX.out.lP
  have lM := BX.out.lM
  have nPM : BP ≠ BM := by omega
  have nMP : BM ≠ BP := by omega
  go_wp2_with fail
  refine (CA.out.NE _).mono ?_
  rintro e w4 ⟨rfl, hb4⟩
  have BX2 := Lib.hid (BX.out.keep hb4)
  clear BX hb4
  clear c0 c1 c2 c3 c4 fp p0 p1 p2 p3 fm m0 m1 m2 m3 ff d0 d1 d2 d3 d4 d5 d6 lP lM nPM nMP
  have BX := BX2
  clear BX2
  obtain ⟨c0, c1, c2, c3, c4⟩ := five BX.out.hole
  obtain ⟨fp, p0, p1, p2, p3⟩ := four BX.out.P
  obtain ⟨fm, m0, m1, m2, m3⟩ := four BX.out.M
  obtain ⟨ff, d0, d1, d2, d3, d4, d5, d6⟩ := seven BX.out.fix
  have lP := BX.out.lP
  have lM := BX.out.lM
  have nPM : BP ≠ BM := by omega
  have nMP : BM ≠ BP := by omega
  go_wp2_with fail
  refine (CA.out.RE _ ⟨true, ps, pv, pn⟩ _ _).mono ?_
  rintro e w5 ⟨rfl, hb4⟩
  have BX2 := Lib.hid (BX.out.keep hb4)
  clear BX hb4
  clear c0 c1 c2 c3 c4 fp p0 p1 p2 p3 fm m0 m1 m2 m3 ff d0 d1 d2 d3 d4 d5 d6 lP lM nPM nMP
  have BX := BX2
  clear BX2
  obtain ⟨c0, c1, c2, c3, c4⟩ := five BX.out.hole
  obtain ⟨fp, p0, p1, p2, p3⟩ := four BX.out.P
  obtain ⟨fm, m0, m1, m2, m3⟩ := four BX.out.M
  obtain ⟨ff, d0, d1, d2, d3, d4, d5, d6⟩ := seven BX.out.fix
  have lP := BX.out.lP
  have lM := BX.out.lM
  have nPM : BP ≠ BM := by omega
  have nMP : BM ≠ BP := by omega
  go_wp2_with fail
  try simp only [Exit.inBlock, Exit.then]
  refine bodyPost_ret (by simp [results, Tryd.results23, go_sem, d0, d1, d2, d3, d4, d5, d6]; try rfl) rfl ?_
  refine ⟨rfl, ?_⟩
  have hw := BX.out.bel
  iterate 7 (refine Below.setCell ?_ (by dsimp only; omega) _)
  exact hw
set_option maxRecDepth 100000 in
set_option maxHeartbeats 8000000 in
theorem rl_isu_non (k s a : Int) (pl ml : BA) (sec off : Int) (sv : Value) (ps pv pn ms mv mn : Int) (w : World) (D N : Bool) (FT : Int → Bool) (RF : Bool → Pt → Int → Fx) (RG : Bool → Pt → Int) (b1 : (ps == -2) = false) (hN : N = true) (b3 : (ps == sec) = true) (b4 : (ps != -1) = false)
    (CA : Hid (Cal w k s a pl ml sec off sv (⟨true, ps, pv, pn⟩ : Pt) (⟨true, (-2), mv, mn⟩ : Pt) D N FT RF RG)) :
    Calls Tryd.prog 23 #[.agg #[.int .i64 k, .int .i64 s, .int .i64 a, .string pl, .string ml], .int .i64 sec, .int .i64 off, sv] w fun e w' => e = .returned (.tuple #[.agg #[.bool (RF false ⟨true, ps, pv, pn⟩ (wrap64 (a - mv))).pt, .int .i64 (RF false ⟨true, ps, pv, pn⟩ (wrap64 (a - mv))).v, .bool (RF false ⟨true, ps, pv, pn⟩ (wrap64 (a - mv))).rl, .int .i64 (RF false ⟨true, ps, pv, pn⟩ (wrap64 (a - mv))).off, .int .i64 (RF false ⟨true, ps, pv, pn⟩ (wrap64 (a - mv))).ty, .int .i64 (RF false ⟨true, ps, pv, pn⟩ (wrap64 (a - mv))).sy, .int .i64 (RF false ⟨true, ps, pv, pn⟩ (wrap64 (a - mv))).ad], .int .i64 (RG false ⟨true, ps, pv, pn⟩)]) ∧ Below w.heap.size w w' := by
  go_enter Tryd.func23, Tryd.ntmps23
  go_wp2_with fail
  refine (CA.out.CK _).mono ?_
  rintro e w1 ⟨rfl, hb1⟩
  obtain ⟨g1, g2, hbw, hz⟩ := kept2 hb1
  obtain ⟨c0, c1, c2, c3, c4⟩ := five g1
  have HB := Lib.hid hbw
  have G1 := Lib.hid g1
  have G2 := Lib.hid g2
  have HZ := Lib.hid hz
  clear hb1 g1 g2 hbw hz
  go_wp2_with fail
  refine (CA.out.F1 _ HB.out).mono ?_
  rintro e w2 ⟨rfl, hb2⟩
  have g1 := kept_v hb2 G1.out
  have g2 := kept_v hb2 G2.out
  have hbw := Below.thn HB.out HB.out.size hb2
  have k1 := below1 w2 (.cells #[.bool true, .int .i64 pn, .int .i64 ps, .int .i64 pv] 88)
  have hz2 := Nat.le_trans HZ.out hb2.size
  have G1 := Lib.hid ((k1.block _ (heap_lt g1)).trans g1)
  have G2 := Lib.hid ((k1.block _ (heap_lt g2)).trans g2)
  have G3 := Lib.hid (heap_alloc_new w2 (.cells #[.bool true, .int .i64 pn, .int .i64 ps, .int .i64 pv] 88))
  have HB := Lib.hid (Below.thn hbw hbw.size k1)
  have HZ2 := Lib.hid hz2
  have HZ3 := Lib.hid (show w2.heap.size < (w2.alloc (.cells #[.bool true, .int .i64 pn, .int .i64 ps, .int .i64 pv] 88)).heap.size by simp)
  go_upto_region 5 with fail
  generalize (w2.alloc (.cells #[.bool true, .int .i64 pn, .int .i64 ps, .int .i64 pv] 88)) = V2 at *
  clear hb2 g1 g2 hbw k1 c0 c1 c2 c3 c4 hz2 HZ
  obtain ⟨c0, c1, c2, c3, c4⟩ := five G1.out
  go_wp2_with fail
  refine (CA.out.F2 _ HB.out).mono ?_
  rintro e w3 ⟨rfl, hb3⟩
  have k1 := below1 w3 (.cells #[.bool true, .int .i64 mn, .int .i64 (-2), .int .i64 mv] 88)
  have BX : Hid (Bx w k s a pl ml w2.heap.size w3.heap.size (⟨true, ps, pv, pn⟩ : Pt) (⟨true, (-2), mv, mn⟩ : Pt) (w3.alloc (.cells #[.bool true, .int .i64 mn, .int .i64 (-2), .int .i64 mv] 88))) :=
    Lib.hid ⟨kept_v k1 (kept_v hb3 G1.out), kept_v k1 (kept_v hb3 G2.out), kept_v k1 (kept_v hb3 G3.out), heap_alloc_new w3 _, Below.thn (Below.thn HB.out HB.out.size hb3) (Below.thn HB.out HB.out.size hb3).size k1, HZ2.out, Nat.lt_of_lt_of_le HZ3.out hb3.size⟩
  go_upto_region 6 with fail
  generalize (w3.alloc (.cells #[.bool true, .int .i64 mn, .int .i64 (-2), .int .i64 mv] 88)) = V3 at *
  generalize w3.heap.size = BM at *
  generalize w2.heap.size = BP at *
  clear hb3 k1 c0 c1 c2 c3 c4 G1 G2 G3 HB HZ2 HZ3
  obtain ⟨c0, c1, c2, c3, c4⟩ := five BX.out.hole
  obtain ⟨fp, p0, p1, p2, p3⟩ := four BX.out.P
  obtain ⟨fm, m0, m1, m2, m3⟩ := four BX.out.M
  obtain ⟨ff, d0, d1, d2, d3, d4, d5, d6⟩ := seven BX.out.fix
  have lP := BX.out.lP
  have lM := BX.out.lM
  have nPM : BP ≠ BM := by omega
  have nMP : BM ≠ BP := by omega
  go_upto_region 20 with fail
  have BX2 := Lib.hid (BxM BX.out)
  clear BX
  generalize ((((V3.setCell ⟨BM, 0, none⟩ (.bool false)).setCell ⟨BM, 1, none⟩ (.int .i64 0)).setCell ⟨BM, 2, none⟩ (.int .i64 0)).setCell ⟨BM, 3, none⟩ (.int .i64 0)) = V4 at *
  clear c0 c1 c2 c3 c4 fp p0 p1 p2 p3 fm m0 m1 m2 m3 ff d0 d1 d2 d3 d4 d5 d6 lP lM nPM nMP
  have BX := BX2
  clear BX2
  obtain ⟨c0, c1, c2, c3, c4⟩ := five BX.out.hole
  obtain ⟨fp, p0, p1, p2, p3⟩ := four BX.out.P
  obtain ⟨fm, m0, m1, m2, m3⟩ := four BX.out.M
  obtain ⟨ff, d0, d1, d2, d3, d4, d5, d6⟩ := seven BX.out.fix
  have lP := BX.out.lP
  have lM := BX.out.lM
  have nPM : BP ≠ BM := by omega
  have nMP : BM ≠ BP := by omega
  go_wp2_with fail
  refine (CA.out.NE _).mono ?_
  rintro e w4 ⟨rfl, hb4⟩
  have BX2 := Lib.hid (BX.out.keep hb4)
  clear BX hb4
  clear c0 c1 c2 c3 c4 fp p0 p1 p2 p3 fm m0 m1 m2 m3 ff d0 d1 d2 d3 d4 d5 d6 lP lM nPM nMP
  have BX := BX2
  clear BX2
  obtain ⟨c0, c1, c2, c3, c4⟩ := five BX.out.hole
  obtain ⟨fp, p0, p1, p2, p3⟩ := four BX.out.P
  obtain ⟨fm, m0, m1, m2, m3⟩ := four BX.out.M
  obtain ⟨ff, d0, d1, d2, d3, d4, d5, d6⟩ := seven BX.out.fix
  have lP := BX.out.lP
  have lM := BX.out.lM
  have nPM : BP ≠ BM := by omega
  have nMP : BM ≠ BP := by omega
  go_wp2_with fail
  refine (CA.out.RE _ ⟨true, ps, pv, pn⟩ _ _).mono ?_
  rintro e w5 ⟨rfl, hb4⟩
  have BX2 := Lib.hid (BX.out.keep hb4)
  clear BX hb4
  clear c0 c1 c2 c3 c4 fp p0 p1 p2 p3 fm m0 m1 m2 m3 ff d0 d1 d2 d3 d4 d5 d6 lP lM nPM nMP
  have BX := BX2
  clear BX2
  obtain ⟨c0, c1, c2, c3, c4⟩ := five BX.out.hole
  obtain ⟨fp, p0, p1, p2, p3⟩ := four BX.out.P
  obtain ⟨fm, m0, m1, m2, m3⟩ := four BX.out.M
  obtain ⟨ff, d0, d1, d2, d3, d4, d5, d6⟩ := seven BX.out.fix
  have lP := BX.out.lP
  have lM := BX.out.lM
  have nPM : BP ≠ BM := by omega
  have nMP : BM ≠ BP := by omega
  go_wp2_with fail
  try simp only [Exit.inBlock, Exit.then]
  refine bodyPost_ret (by simp [results, Tryd.results23, go_sem, d0, d1, d2, d3, d4, d5, d6]; try rfl) rfl ?_
  refine ⟨rfl, ?_⟩
  have hw := BX.out.bel
  iterate 7 (refine Below.setCell ?_ (by dsimp only; omega) _)
  exact hw
set_option maxRecDepth 100000 in
set_option maxHeartbeats 8000000 in
theorem rl_isu_fit (k s a : Int) (pl ml : BA) (sec off : Int) (sv : Value) (ps pv pn ms mv mn : Int) (w : World) (D N : Bool) (FT : Int → Bool) (RF : Bool → Pt → Int → Fx) (RG : Bool → Pt → Int) (b1 : (ps == -2) = false) (hN : N = true) (b3 : (ps == sec) = true) (b4 : (ps != -1) = true) (hF : FT (wrap64 (wrap64 (pv + wrap64 (a - mv)) - off)) = true)
    (CA : Hid (Cal w k s a pl ml sec off sv (⟨true, ps, pv, pn⟩ : Pt) (⟨true, (-2), mv, mn⟩ : Pt) D N FT RF RG)) :
    Calls Tryd.prog 23 #[.agg #[.int .i64 k, .int .i64 s, .int .i64 a, .string pl, .string ml], .int .i64 sec, .int .i64 off, sv] w fun e w' => e = .returned (.tuple #[.agg #[.bool true, .int .i64 (wrap64 (wrap64 (pv + wrap64 (a - mv)) - off)), .bool false, .int .i64 0, .int .i64 0, .int .i64 0, .int .i64 0], .int .i64 0]) ∧ Below w.heap.size w w' := by
  go_enter Tryd.func23, Tryd.ntmps23
  go_wp2_with fail
  refine (CA.out.CK _).mono ?_
  rintro e w1 ⟨rfl, hb1⟩
  obtain ⟨g1, g2, hbw, hz⟩ := kept2 hb1
  obtain ⟨c0, c1, c2, c3, c4⟩ := five g1
  have HB := Lib.hid hbw
  have G1 := Lib.hid g1
  have G2 := Lib.hid g2
  have HZ := Lib.hid hz
  clear hb1 g1 g2 hbw hz
  go_wp2_with fail
  refine (CA.out.F1 _ HB.out).mono ?_
  rintro e w2 ⟨rfl, hb2⟩
  have g1 := kept_v hb2 G1.out
  have g2 := kept_v hb2 G2.out
  have hbw := Below.thn HB.out HB.out.size hb2
  have k1 := below1 w2 (.cells #[.bool true, .int .i64 pn, .int .i64 ps, .int .i64 pv] 88)
  have hz2 := Nat.le_trans HZ.out hb2.size
  have G1 := Lib.hid ((k1.block _ (heap_lt g1)).trans g1)
  have G2 := Lib.hid ((k1.block _ (heap_lt g2)).trans g2)
  have G3 := Lib.hid (heap_alloc_new w2 (.cells #[.bool true, .int .i64 pn, .int .i64 ps, .int .i64 pv] 88))
  have HB := Lib.hid (Below.thn hbw hbw.size k1)
  have HZ2 := Lib.hid hz2
  have HZ3 := Lib.hid (show w2.heap.size < (w2.alloc (.cells #[.bool true, .int .i64 pn, .int .i64 ps, .int .i64 pv] 88)).heap.size by simp)
  go_upto_region 5 with fail
  generalize (w2.alloc (.cells #[.bool true, .int .i64 pn, .int .i64 ps, .int .i64 pv] 88)) = V2 at *
  clear hb2 g1 g2 hbw k1 c0 c1 c2 c3 c4 hz2 HZ
  obtain ⟨c0, c1, c2, c3, c4⟩ := five G1.out
  go_wp2_with fail
  refine (CA.out.F2 _ HB.out).mono ?_
  rintro e w3 ⟨rfl, hb3⟩
  have k1 := below1 w3 (.cells #[.bool true, .int .i64 mn, .int .i64 (-2), .int .i64 mv] 88)
  have BX : Hid (Bx w k s a pl ml w2.heap.size w3.heap.size (⟨true, ps, pv, pn⟩ : Pt) (⟨true, (-2), mv, mn⟩ : Pt) (w3.alloc (.cells #[.bool true, .int .i64 mn, .int .i64 (-2), .int .i64 mv] 88))) :=
    Lib.hid ⟨kept_v k1 (kept_v hb3 G1.out), kept_v k1 (kept_v hb3 G2.out), kept_v k1 (kept_v hb3 G3.out), heap_alloc_new w3 _, Below.thn (Below.thn HB.out HB.out.size hb3) (Below.thn HB.out HB.out.size hb3).size k1, HZ2.out, Nat.lt_of_lt_of_le HZ3.out hb3.size⟩
  go_upto_region 6 with fail
  generalize (w3.alloc (.cells #[.bool true, .int .i64 mn, .int .i64 (-2), .int .i64 mv] 88)) = V3 at *
  generalize w3.heap.size = BM at *
  generalize w2.heap.size = BP at *
  clear hb3 k1 c0 c1 c2 c3 c4 G1 G2 G3 HB HZ2 HZ3
  obtain ⟨c0, c1, c2, c3, c4⟩ := five BX.out.hole
  obtain ⟨fp, p0, p1, p2, p3⟩ := four BX.out.P
  obtain ⟨fm, m0, m1, m2, m3⟩ := four BX.out.M
  obtain ⟨ff, d0, d1, d2, d3, d4, d5, d6⟩ := seven BX.out.fix
  have lP := BX.out.lP
  have lM := BX.out.lM
  have nPM : BP ≠ BM := by omega
  have nMP : BM ≠ BP := by omega
  go_upto_region 20 with fail
  have BX2 := Lib.hid (BxM BX.out)
  clear BX
  generalize ((((V3.setCell ⟨BM, 0, none⟩ (.bool false)).setCell ⟨BM, 1, none⟩ (.int .i64 0)).setCell ⟨BM, 2, none⟩ (.int .i64 0)).setCell ⟨BM, 3, none⟩ (.int .i64 0)) = V4 at *
  clear c0 c1 c2 c3 c4 fp p0 p1 p2 p3 fm m0 m1 m2 m3 ff d0 d1 d2 d3 d4 d5 d6 lP lM nPM nMP
  have BX := BX2
  clear BX2
  obtain ⟨c0, c1, c2, c3, c4⟩ := five BX.out.hole
  obtain ⟨fp, p0, p1, p2, p3⟩ := four BX.out.P
  obtain ⟨fm, m0, m1, m2, m3⟩ := four BX.out.M
  obtain ⟨ff, d0, d1, d2, d3, d4, d5, d6⟩ := seven BX.out.fix
  have lP := BX.out.lP
  have lM := BX.out.lM
  have nPM : BP ≠ BM := by omega
  have nMP : BM ≠ BP := by omega
  go_wp2_with fail
  refine (CA.out.NE _).mono ?_
  rintro e w4 ⟨rfl, hb4⟩
  have BX2 := Lib.hid (BX.out.keep hb4)
  clear BX hb4
  clear c0 c1 c2 c3 c4 fp p0 p1 p2 p3 fm m0 m1 m2 m3 ff d0 d1 d2 d3 d4 d5 d6 lP lM nPM nMP
  have BX := BX2
  clear BX2
  obtain ⟨c0, c1, c2, c3, c4⟩ := five BX.out.hole
  obtain ⟨fp, p0, p1, p2, p3⟩ := four BX.out.P
  obtain ⟨fm, m0, m1, m2, m3⟩ := four BX.out.M
  obtain ⟨ff, d0, d1, d2, d3, d4, d5, d6⟩ := seven BX.out.fix
  have lP := BX.out.lP
  have lM := BX.out.lM
  have nPM : BP ≠ BM := by omega
  have nMP : BM ≠ BP := by omega
  go_wp2_with fail
  refine (CA.out.FI _ _).mono ?_
  rintro e w5 ⟨rfl, hb4⟩
  have BX2 := Lib.hid (BX.out.keep hb4)
  clear BX hb4
  clear c0 c1 c2 c3 c4 fp p0 p1 p2 p3 fm m0 m1 m2 m3 ff d0 d1 d2 d3 d4 d5 d6 lP lM nPM nMP
  have BX := BX2
  clear BX2
  obtain ⟨c0, c1, c2, c3, c4⟩ := five BX.out.hole
  obtain ⟨fp, p0, p1, p2, p3⟩ := four BX.out.P
  obtain ⟨fm, m0, m1, m2, m3⟩ := four BX.out.M
  obtain ⟨ff, d0, d1, d2, d3, d4, d5, d6⟩ := seven BX.out.fix
  have lP := BX.out.lP
  have lM := BX.out.lM
  have nPM : BP ≠ BM := by omega
  have nMP : BM ≠ BP := by omega
  go_wp2_with fail
  try simp only [Exit.inBlock, Exit.then]
  refine bodyPost_ret (by simp [results, Tryd.results23, go_sem, d0, d1, d2, d3, d4, d5, d6]; try rfl) rfl ?_
  refine ⟨rfl, ?_⟩
  have hw := BX.out.bel
  iterate 7 (refine Below.setCell ?_ (by dsimp only; omega) _)
  exact hw
set_option maxRecDepth 100000 in
set_option maxHeartbeats 8000000 in
theorem rl_isu_bad (k s a : Int) (pl ml : BA) (sec off : Int) (sv : Value) (ps pv pn ms mv mn : Int) (w : World) (D N : Bool) (FT : Int → Bool) (RF : Bool → Pt → Int → Fx) (RG : Bool → Pt → Int) (b1 : (ps == -2) = false) (hN : N = true) (b3 : (ps == sec) = true) (b4 : (ps != -1) = true) (hF : FT (wrap64 (wrap64 (pv + wrap64 (a - mv)) - off)) = false)
    (CA : Hid (Cal w k s a pl ml sec off sv (⟨true, ps, pv, pn⟩ : Pt) (⟨true, (-2), mv, mn⟩ : Pt) D N FT RF RG)) :
    Calls Tryd.prog 23 #[.agg #[.int .i64 k, .int .i64 s, .int .i64 a, .string pl, .string ml], .int .i64 sec, .int .i64 off, sv] w fun e w' => e = .returned (.tuple #[.agg #[.bool false, .int .i64 0, .bool false, .int .i64 0, .int .i64 0, .int .i64 0, .int .i64 0], .int .i64 181]) ∧ Below w.heap.size w w' := by
  go_enter Tryd.func23, Tryd.ntmps23
  go_wp2_with fail
  refine (CA.out.CK _).mono ?_
  rintro e w1 ⟨rfl, hb1⟩
  obtain ⟨g1, g2, hbw, hz⟩ := kept2 hb1
  obtain ⟨c0, c1, c2, c3, c4⟩ := five g1
  have HB := Lib.hid hbw
  have G1 := Lib.hid g1
  have G2 := Lib.hid g2
  have HZ := Lib.hid hz
  clear hb1 g1 g2 hbw hz
  go_wp2_with fail
  refine (CA.out.F1 _ HB.out).mono ?_
  rintro e w2 ⟨rfl, hb2⟩
  have g1 := kept_v hb2 G1.out
  have g2 := kept_v hb2 G2.out
  have hbw := Below.thn HB.out HB.out.size hb2
  have k1 := below1 w2 (.cells #[.bool true, .int .i64 pn, .int .i64 ps, .int .i64 pv] 88)
  have hz2 := Nat.le_trans HZ.out hb2.size
  have G1 := Lib.hid ((k1.block _ (heap_lt g1)).trans g1)
  have G2 := Lib.hid ((k1.block _ (heap_lt g2)).trans g2)
  have G3 := Lib.hid (heap_alloc_new w2 (.cells #[.bool true, .int .i64 pn, .int .i64 ps, .int .i64 pv] 88))
  have HB := Lib.hid (Below.thn hbw hbw.size k1)
  have HZ2 := Lib.hid hz2
  have HZ3 := Lib.hid (show w2.heap.size < (w2.alloc (.cells #[.bool true, .int .i64 pn, .int .i64 ps, .int .i64 pv] 88)).heap.size by simp)
  go_upto_region 5 with fail
  generalize (w2.alloc (.cells #[.bool true, .int .i64 pn, .int .i64 ps, .int .i64 pv] 88)) = V2 at *
  clear hb2 g1 g2 hbw k1 c0 c1 c2 c3 c4 hz2 HZ
  obtain ⟨c0, c1, c2, c3, c4⟩ := five G1.out
  go_wp2_with fail
  refine (CA.out.F2 _ HB.out).mono ?_
  rintro e w3 ⟨rfl, hb3⟩
  have k1 := below1 w3 (.cells #[.bool true, .int .i64 mn, .int .i64 (-2), .int .i64 mv] 88)
  have BX : Hid (Bx w k s a pl ml w2.heap.size w3.heap.size (⟨true, ps, pv, pn⟩ : Pt) (⟨true, (-2), mv, mn⟩ : Pt) (w3.alloc (.cells #[.bool true, .int .i64 mn, .int .i64 (-2), .int .i64 mv] 88))) :=
    Lib.hid ⟨kept_v k1 (kept_v hb3 G1.out), kept_v k1 (kept_v hb3 G2.out), kept_v k1 (kept_v hb3 G3.out), heap_alloc_new w3 _, Below.thn (Below.thn HB.out HB.out.size hb3) (Below.thn HB.out HB.out.size hb3).size k1, HZ2.out, Nat.lt_of_lt_of_le HZ3.out hb3.size⟩
  go_upto_region 6 with fail
  generalize (w3.alloc (.cells #[.bool true, .int .i64 mn, .int .i64 (-2), .int .i64 mv] 88)) = V3 at *
  generalize w3.heap.size = BM at *
  generalize w2.heap.size = BP at *
  clear hb3 k1 c0 c1 c2 c3 c4 G1 G2 G3 HB HZ2 HZ3
  obtain ⟨c0, c1, c2, c3, c4⟩ := five BX.out.hole
  obtain ⟨fp, p0, p1, p2, p3⟩ := four BX.out.P
  obtain ⟨fm, m0, m1, m2, m3⟩ := four BX.out.M
  obtain ⟨ff, d0, d1, d2, d3, d4, d5, d6⟩ := seven BX.out.fix
  have lP := BX.out.lP
  have lM := BX.out.lM
  have nPM : BP ≠ BM := by omega
  have nMP : BM ≠ BP := by omega
  go_upto_region 20 with fail
  have BX2 := Lib.hid (BxM BX.out)
  clear BX
  generalize ((((V3.setCell ⟨BM, 0, none⟩ (.bool false)).setCell ⟨BM, 1, none⟩ (.int .i64 0)).setCell ⟨BM, 2, none⟩ (.int .i64 0)).setCell ⟨BM, 3, none⟩ (.int .i64 0)) = V4 at *
  clear c0 c1 c2 c3 c4 fp p0 p1 p2 p3 fm m0 m1 m2 m3 ff d0 d1 d2 d3 d4 d5 d6 lP lM nPM nMP
  have BX := BX2
  clear BX2
  obtain ⟨c0, c1, c2, c3, c4⟩ := five BX.out.hole
  obtain ⟨fp, p0, p1, p2, p3⟩ := four BX.out.P
  obtain ⟨fm, m0, m1, m2, m3⟩ := four BX.out.M
  obtain ⟨ff, d0, d1, d2, d3, d4, d5, d6⟩ := seven BX.out.fix
  have lP := BX.out.lP
  have lM := BX.out.lM
  have nPM : BP ≠ BM := by omega
  have nMP : BM ≠ BP := by omega
  go_wp2_with fail
  refine (CA.out.NE _).mono ?_
  rintro e w4 ⟨rfl, hb4⟩
  have BX2 := Lib.hid (BX.out.keep hb4)
  clear BX hb4
  clear c0 c1 c2 c3 c4 fp p0 p1 p2 p3 fm m0 m1 m2 m3 ff d0 d1 d2 d3 d4 d5 d6 lP lM nPM nMP
  have BX := BX2
  clear BX2
  obtain ⟨c0, c1, c2, c3, c4⟩ := five BX.out.hole
  obtain ⟨fp, p0, p1, p2, p3⟩ := four BX.out.P
  obtain ⟨fm, m0, m1, m2, m3⟩ := four BX.out.M
  obtain ⟨ff, d0, d1, d2, d3, d4, d5, d6⟩ := seven BX.out.fix
  have lP := BX.out.lP
  have lM := BX.out.lM
  have nPM : BP ≠ BM := by omega
  have nMP : BM ≠ BP := by omega
  go_wp2_with fail
  refine (CA.out.FI _ _).mono ?_
  rintro e w5 ⟨rfl, hb4⟩
  have BX2 := Lib.hid (BX.out.keep hb4)
  clear BX hb4
  clear c0 c1 c2 c3 c4 fp p0 p1 p2 p3 fm m0 m1 m2 m3 ff d0 d1 d2 d3 d4 d5 d6 lP lM nPM nMP
  have BX := BX2
  clear BX2
  obtain ⟨c0, c1, c2, c3, c4⟩ := five BX.out.hole
  obtain ⟨fp, p0, p1, p2, p3⟩ := four BX.out.P
  obtain ⟨fm, m0, m1, m2, m3⟩ := four BX.out.M
  obtain ⟨ff, d0, d1, d2, d3, d4, d5, d6⟩ := seven BX.out.fix
  have lP := BX.out.lP
  have lM := BX.out.lM
  have nPM : BP ≠ BM := by omega
  have nMP : BM ≠ BP := by omega
  go_wp2_with fail
  try simp only [Exit.inBlock, Exit.then]
  refine bodyPost_ret (by simp [results, Tryd.results23, go_sem, d0, d1, d2, d3, d4, d5, d6]; try rfl) rfl ?_
  refine ⟨rfl, ?_⟩
  have hw := BX.out.bel
  iterate 7 (refine Below.setCell ?_ (by dsimp only; omega) _)
  exact hw
end Go.Proofs.YtjkhgljlipljdaaDoor
