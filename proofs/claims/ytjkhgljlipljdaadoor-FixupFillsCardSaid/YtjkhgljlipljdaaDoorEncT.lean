/-
  What each call of fixup's Fill returns where a distance is filled in.
-/
import Derived.Test.YtjkhgljlipljdaaDoorEncS
namespace Go.Proofs.YtjkhgljlipljdaaDoor
open Go.RowKit
set_option linter.unusedVariables false
set_option linter.unusedSimpArgs false
theorem tdiv_4 (v : Int) (hv : -9223372036854775808 ≤ v ∧ v ≤ 9223372036854775807) : IntKind.i64.wrap (v.tdiv 4) = v.tdiv 4 := by
  have h : -9223372036854775808 ≤ v.tdiv 4 ∧ v.tdiv 4 ≤ 9223372036854775807 := by
    rcases Int.le_total 0 v with h | h
    · rw [Int.tdiv_eq_ediv_of_nonneg h]; omega
    · rw [show v = -(-v) by omega, Int.neg_tdiv, Int.tdiv_eq_ediv_of_nonneg (by omega)]; omega
  exact IntWalk.i64_in _ (by omega)
theorem tdiv_1 (v : Int) (hv : -9223372036854775808 ≤ v ∧ v ≤ 9223372036854775807) : IntKind.i64.wrap v = v.tdiv 1 := by
  rw [Int.tdiv_one]; exact IntWalk.i64_in _ (by omega)
set_option maxHeartbeats 2000000 in
theorem fill_near4 (h : Hl) (v : Int) (hv : -9223372036854775808 ≤ v ∧ v ≤ 9223372036854775807) (g off cap : Nat) (x0 x1 x2 x3 : Int) (w : World) (hG : Gd w) (hI : GI w)
    (a0 : 0 ≤ x0) (b0 : x0 < 256) (a1 : 0 ≤ x1) (b1 : x1 < 256) (a2 : 0 ≤ x2) (b2 : x2 < 256) (a3 : 0 ≤ x3) (b3 : x3 < 256)
    (c0 : w.cell? ⟨g, off, none⟩ = some (.int .u8 x0)) (c1 : w.cell? ⟨g, off + 1, none⟩ = some (.int .u8 x1)) (c2 : w.cell? ⟨g, off + 2, none⟩ = some (.int .u8 x2)) (c3 : w.cell? ⟨g, off + 3, none⟩ = some (.int .u8 x3))
    (hok : inOk h.k h.s 4 = true) (hf : filledB (shR h.k h.s) = true) (ht : (shR h.k h.s).t = 4) (hfit : fitsB (shR h.k h.s) v = true) (hn : nearB (shR h.k h.s) = true)
    (hbr : brOp (shR h.k h.s).o) (hsf : sfitB (v.tdiv (shR h.k h.s).t) (wiN (shR h.k h.s).o) = true)
    (hs : 0 ≤ setN (w4I x0 x1 x2 x3) (shR h.k h.s).o (v.tdiv (shR h.k h.s).t) ∧ setN (w4I x0 x1 x2 x3) (shR h.k h.s).o (v.tdiv (shR h.k h.s).t) < 4294967296) :
    Calls Tryd.prog 24 #[.slice (some ⟨g, off, none⟩) 4 cap, hlV h, .int .i64 v] w fun e w' => ∃ B, e = .returned (.tuple #[.slice (some ⟨B, 0, none⟩) 4 4, .int .i64 0]) ∧ w.heap.size ≤ B ∧
      w'.heap[B]? = some (.cells #[.int .u8 (setN (w4I x0 x1 x2 x3) (shR h.k h.s).o (v.tdiv (shR h.k h.s).t) % 256), .int .u8 (setN (w4I x0 x1 x2 x3) (shR h.k h.s).o (v.tdiv (shR h.k h.s).t) / 256 % 256), .int .u8 (setN (w4I x0 x1 x2 x3) (shR h.k h.s).o (v.tdiv (shR h.k h.s).t) / 65536 % 256), .int .u8 (setN (w4I x0 x1 x2 x3) (shR h.k h.s).o (v.tdiv (shR h.k h.s).t) / 16777216)] 117 (0, 0)) ∧ Below w.heap.size w w' := by
  have SI := Lib.hid (fun W hb => shapeIn_any h (some ⟨g, off, none⟩) 4 cap W (hG.keep hb))
  have IF := Lib.hid (fun W => isFilled_any (shR h.k h.s) W)
  have FI := Lib.hid (fun W => fits_any (shR h.k h.s) v W (by rw [ht]; decide) hv)
  have NE := Lib.hid (fun W => isNear_any (shR h.k h.s) W)
  have WO := Lib.hid (fun W (hb : Below w.heap.size w W) => word4_any x0 x1 x2 x3 g off cap W a0 b0 a1 b1 a2 b2 a3 b3 (cell_kept hb c0) (cell_kept hb c1) (cell_kept hb c2) (cell_kept hb c3))
  have ST := Lib.hid (fun W (hb : Below w.heap.size w W) => sets_any (w4I x0 x1 x2 x3) (shR h.k h.s).o (v.tdiv (shR h.k h.s).t) hbr hsf W (hI.keep hb))
  have BY := Lib.hid (fun W => bytes4_any (setN (w4I x0 x1 x2 x3) (shR h.k h.s).o (v.tdiv (shR h.k h.s).t)) W hs.1 hs.2)
  have hw : (shR h.k h.s).w = 4 := by
    have := hok
    simp [inOk] at this
    omega
  have WR := Lib.hid (tdiv_4 v hv)
  generalize setN (w4I x0 x1 x2 x3) (shR h.k h.s).o (v.tdiv (shR h.k h.s).t) = r at *
  generalize w4I x0 x1 x2 x3 = x at *
  have e1 : inR h.k h.s 4 = shR h.k h.s := by simp [inR, hok]
  have e2 : inE h.k h.s 4 = 0 := by simp [inE, hok]
  rw [e1, e2] at SI
  rw [hf] at IF
  rw [hfit] at FI
  rw [hn] at NE
  clear e1 e2 hf hfit hn hok hG hI hv hs hsf hbr a0 b0 a1 b1 a2 b2 a3 b3 c0 c1 c2 c3
  obtain ⟨k, s, ad, p, m⟩ := h
  unfold hlV at *
  simp only at SI IF FI NE hw ht ST ⊢
  generalize shR k s = sh at *
  obtain ⟨y0, y1, y2, y3, y4, y5, y6⟩ := sh
  unfold shV at *
  simp only at SI IF FI NE hw ht ST ⊢
  subst hw ht
  go_enter Tryd.func24, Tryd.ntmps24
  go_wp2_with fail
  refine (SI.out _ (below1 w _)).mono ?_
  rintro e w1 ⟨rfl, hb1⟩
  have HB1 := Lib.hid (Below.thn (below1 w _) (by simp) hb1)
  clear hb1 SI
  go_wp2_with fail
  have hs1 := heap_alloc_new w1 (.cells #[.int .i64 4, .int .i64 y1, .int .i64 y2, .int .i64 y3, .int .i64 y4, .int .i64 y5, .int .i64 4] 71)
  have HS1 := Lib.hid hs1
  have HBA := Lib.hid (HB1.out.alloc HB1.out.size (.cells #[.int .i64 4, .int .i64 y1, .int .i64 y2, .int .i64 y3, .int .i64 y4, .int .i64 y5, .int .i64 4] 71))
  generalize (w1.alloc (.cells #[.int .i64 4, .int .i64 y1, .int .i64 y2, .int .i64 y3, .int .i64 y4, .int .i64 y5, .int .i64 4] 71)) = W1 at *
  clear hs1 HB1
  refine (IF.out _).mono ?_
  rintro e w2 ⟨rfl, hb2⟩
  have hs2 := kept_v hb2 HS1.out
  have HS2 := Lib.hid hs2
  have HB2 := Lib.hid (HBA.out.trans (hb2.mono HBA.out.size))
  obtain ⟨f0, c0, c1, c2, c3, c4, c5, c6⟩ := seven hs2
  clear hb2 hs2 IF HBA HS1
  go_wp2_with fail
  clear f0 c0 c1 c2 c3 c4 c5 c6
  refine (FI.out _).mono ?_
  rintro e w3 ⟨rfl, hb3⟩
  have hs3 := kept_v hb3 HS2.out
  have HS3 := Lib.hid hs3
  have HB3 := Lib.hid (HB2.out.trans (hb3.mono HB2.out.size))
  obtain ⟨f0, c0, c1, c2, c3, c4, c5, c6⟩ := seven hs3
  clear hb3 hs3 FI HB2 HS2
  go_wp2_with fail
  clear f0 c0 c1 c2 c3 c4 c5 c6
  refine (NE.out _).mono ?_
  rintro e w4 ⟨rfl, hb4⟩
  have hs4 := kept_v hb4 HS3.out
  have HS4 := Lib.hid hs4
  have HB4 := Lib.hid (HB3.out.trans (hb4.mono HB3.out.size))
  obtain ⟨f0, c0, c1, c2, c3, c4, c5, c6⟩ := seven hs4
  clear hb4 hs4 NE HB3 HS3
  go_wp2_with fail
  refine (WO.out _ HB4.out).mono ?_
  rintro e w5 ⟨rfl, h5⟩
  have hs5 := h5 ▸ HS4.out
  have HS5 := Lib.hid hs5
  have HB5 := Lib.hid (show Below w.heap.size w w5 from h5 ▸ HB4.out)
  clear f0 c0 c1 c2 c3 c4 c5 c6
  obtain ⟨f0, c0, c1, c2, c3, c4, c5, c6⟩ := seven hs5
  clear hs5 h5 HS4 HB4 WO
  go_wp2_with fail
  have S0 : w5.cell? ⟨w1.heap.size, 3, none⟩ = some (.int .i64 y3) ∧ w5.cell? ⟨w1.heap.size, 6, none⟩ = some (.int .i64 4) := ⟨c3, c6⟩
  clear f0 c0 c1 c2 c3 c4 c5 c6 HS5
  go_region_held3 (fun w' => w'.cell? ⟨w1.heap.size, 3, none⟩ = some (.int .i64 y3) ∧ w'.cell? ⟨w1.heap.size, 6, none⟩ = some (.int .i64 4)) (first | with_reducible exact S0 | with_reducible exact S1 | exact S0 | exact S1) ((go_at_call 49; rw [WR.out]; (with_reducible refine (ST.out _ HB5.out.drew).mono ?_); rintro e w6 ⟨rfl, hb6⟩; have hc6 : Below w5.heap.size w5 w6 := Below.thn (Below.refl _ w5).drew (Nat.le_refl _) hb6; have S1 := And.intro (cell_kept hc6 S0.1) (cell_kept hc6 S0.2); have HB6 := Lib.hid (HB5.out.trans (hc6.mono HB5.out.size)); clear hb6 hc6))
  go_wp2_with fail
  refine (BY.out _).mono ?_
  rintro e w7 ⟨rfl, h7⟩
  have HX := Lib.hid (show w7.heap[w6.heap.size]? = _ from h7 ▸ heap_alloc_new w6 _)
  have HZ := Lib.hid HB6.out.size
  have HB7 := Lib.hid (show Below w.heap.size w w7 from h7 ▸ HB6.out.alloc HB6.out.size _)
  clear h7 BY
  go_wp2_with fail
  go_ret2
  exact ⟨_, rfl, HZ.out, HX.out, HB7.out⟩
set_option maxHeartbeats 2000000 in
theorem fill_near1 (h : Hl) (v : Int) (hv : -9223372036854775808 ≤ v ∧ v ≤ 9223372036854775807) (g off cap : Nat) (x0 x1 x2 x3 : Int) (w : World) (hG : Gd w) (hI : GI w)
    (a0 : 0 ≤ x0) (b0 : x0 < 256) (a1 : 0 ≤ x1) (b1 : x1 < 256) (a2 : 0 ≤ x2) (b2 : x2 < 256) (a3 : 0 ≤ x3) (b3 : x3 < 256)
    (c0 : w.cell? ⟨g, off, none⟩ = some (.int .u8 x0)) (c1 : w.cell? ⟨g, off + 1, none⟩ = some (.int .u8 x1)) (c2 : w.cell? ⟨g, off + 2, none⟩ = some (.int .u8 x2)) (c3 : w.cell? ⟨g, off + 3, none⟩ = some (.int .u8 x3))
    (hok : inOk h.k h.s 4 = true) (hf : filledB (shR h.k h.s) = true) (ht : (shR h.k h.s).t = 1) (hfit : fitsB (shR h.k h.s) v = true) (hn : nearB (shR h.k h.s) = true)
    (hbr : brOp (shR h.k h.s).o) (hsf : sfitB (v.tdiv (shR h.k h.s).t) (wiN (shR h.k h.s).o) = true)
    (hs : 0 ≤ setN (w4I x0 x1 x2 x3) (shR h.k h.s).o (v.tdiv (shR h.k h.s).t) ∧ setN (w4I x0 x1 x2 x3) (shR h.k h.s).o (v.tdiv (shR h.k h.s).t) < 4294967296) :
    Calls Tryd.prog 24 #[.slice (some ⟨g, off, none⟩) 4 cap, hlV h, .int .i64 v] w fun e w' => ∃ B, e = .returned (.tuple #[.slice (some ⟨B, 0, none⟩) 4 4, .int .i64 0]) ∧ w.heap.size ≤ B ∧
      w'.heap[B]? = some (.cells #[.int .u8 (setN (w4I x0 x1 x2 x3) (shR h.k h.s).o (v.tdiv (shR h.k h.s).t) % 256), .int .u8 (setN (w4I x0 x1 x2 x3) (shR h.k h.s).o (v.tdiv (shR h.k h.s).t) / 256 % 256), .int .u8 (setN (w4I x0 x1 x2 x3) (shR h.k h.s).o (v.tdiv (shR h.k h.s).t) / 65536 % 256), .int .u8 (setN (w4I x0 x1 x2 x3) (shR h.k h.s).o (v.tdiv (shR h.k h.s).t) / 16777216)] 117 (0, 0)) ∧ Below w.heap.size w w' := by
  have SI := Lib.hid (fun W hb => shapeIn_any h (some ⟨g, off, none⟩) 4 cap W (hG.keep hb))
  have IF := Lib.hid (fun W => isFilled_any (shR h.k h.s) W)
  have FI := Lib.hid (fun W => fits_any (shR h.k h.s) v W (by rw [ht]; decide) hv)
  have NE := Lib.hid (fun W => isNear_any (shR h.k h.s) W)
  have WO := Lib.hid (fun W (hb : Below w.heap.size w W) => word4_any x0 x1 x2 x3 g off cap W a0 b0 a1 b1 a2 b2 a3 b3 (cell_kept hb c0) (cell_kept hb c1) (cell_kept hb c2) (cell_kept hb c3))
  have ST := Lib.hid (fun W (hb : Below w.heap.size w W) => sets_any (w4I x0 x1 x2 x3) (shR h.k h.s).o (v.tdiv (shR h.k h.s).t) hbr hsf W (hI.keep hb))
  have BY := Lib.hid (fun W => bytes4_any (setN (w4I x0 x1 x2 x3) (shR h.k h.s).o (v.tdiv (shR h.k h.s).t)) W hs.1 hs.2)
  have hw : (shR h.k h.s).w = 4 := by
    have := hok
    simp [inOk] at this
    omega
  have WR := Lib.hid (tdiv_1 v hv)
  generalize setN (w4I x0 x1 x2 x3) (shR h.k h.s).o (v.tdiv (shR h.k h.s).t) = r at *
  generalize w4I x0 x1 x2 x3 = x at *
  have e1 : inR h.k h.s 4 = shR h.k h.s := by simp [inR, hok]
  have e2 : inE h.k h.s 4 = 0 := by simp [inE, hok]
  rw [e1, e2] at SI
  rw [hf] at IF
  rw [hfit] at FI
  rw [hn] at NE
  clear e1 e2 hf hfit hn hok hG hI hv hs hsf hbr a0 b0 a1 b1 a2 b2 a3 b3 c0 c1 c2 c3
  obtain ⟨k, s, ad, p, m⟩ := h
  unfold hlV at *
  simp only at SI IF FI NE hw ht ST ⊢
  generalize shR k s = sh at *
  obtain ⟨y0, y1, y2, y3, y4, y5, y6⟩ := sh
  unfold shV at *
  simp only at SI IF FI NE hw ht ST ⊢
  subst hw ht
  go_enter Tryd.func24, Tryd.ntmps24
  go_wp2_with fail
  refine (SI.out _ (below1 w _)).mono ?_
  rintro e w1 ⟨rfl, hb1⟩
  have HB1 := Lib.hid (Below.thn (below1 w _) (by simp) hb1)
  clear hb1 SI
  go_wp2_with fail
  have hs1 := heap_alloc_new w1 (.cells #[.int .i64 4, .int .i64 y1, .int .i64 y2, .int .i64 y3, .int .i64 y4, .int .i64 y5, .int .i64 1] 71)
  have HS1 := Lib.hid hs1
  have HBA := Lib.hid (HB1.out.alloc HB1.out.size (.cells #[.int .i64 4, .int .i64 y1, .int .i64 y2, .int .i64 y3, .int .i64 y4, .int .i64 y5, .int .i64 1] 71))
  generalize (w1.alloc (.cells #[.int .i64 4, .int .i64 y1, .int .i64 y2, .int .i64 y3, .int .i64 y4, .int .i64 y5, .int .i64 1] 71)) = W1 at *
  clear hs1 HB1
  refine (IF.out _).mono ?_
  rintro e w2 ⟨rfl, hb2⟩
  have hs2 := kept_v hb2 HS1.out
  have HS2 := Lib.hid hs2
  have HB2 := Lib.hid (HBA.out.trans (hb2.mono HBA.out.size))
  obtain ⟨f0, c0, c1, c2, c3, c4, c5, c6⟩ := seven hs2
  clear hb2 hs2 IF HBA HS1
  go_wp2_with fail
  clear f0 c0 c1 c2 c3 c4 c5 c6
  refine (FI.out _).mono ?_
  rintro e w3 ⟨rfl, hb3⟩
  have hs3 := kept_v hb3 HS2.out
  have HS3 := Lib.hid hs3
  have HB3 := Lib.hid (HB2.out.trans (hb3.mono HB2.out.size))
  obtain ⟨f0, c0, c1, c2, c3, c4, c5, c6⟩ := seven hs3
  clear hb3 hs3 FI HB2 HS2
  go_wp2_with fail
  clear f0 c0 c1 c2 c3 c4 c5 c6
  refine (NE.out _).mono ?_
  rintro e w4 ⟨rfl, hb4⟩
  have hs4 := kept_v hb4 HS3.out
  have HS4 := Lib.hid hs4
  have HB4 := Lib.hid (HB3.out.trans (hb4.mono HB3.out.size))
  obtain ⟨f0, c0, c1, c2, c3, c4, c5, c6⟩ := seven hs4
  clear hb4 hs4 NE HB3 HS3
  go_wp2_with fail
  refine (WO.out _ HB4.out).mono ?_
  rintro e w5 ⟨rfl, h5⟩
  have hs5 := h5 ▸ HS4.out
  have HS5 := Lib.hid hs5
  have HB5 := Lib.hid (show Below w.heap.size w w5 from h5 ▸ HB4.out)
  clear f0 c0 c1 c2 c3 c4 c5 c6
  obtain ⟨f0, c0, c1, c2, c3, c4, c5, c6⟩ := seven hs5
  clear hs5 h5 HS4 HB4 WO
  go_wp2_with fail
  have S0 : w5.cell? ⟨w1.heap.size, 3, none⟩ = some (.int .i64 y3) ∧ w5.cell? ⟨w1.heap.size, 6, none⟩ = some (.int .i64 1) := ⟨c3, c6⟩
  clear f0 c0 c1 c2 c3 c4 c5 c6 HS5
  go_region_held3 (fun w' => w'.cell? ⟨w1.heap.size, 3, none⟩ = some (.int .i64 y3) ∧ w'.cell? ⟨w1.heap.size, 6, none⟩ = some (.int .i64 1)) (first | with_reducible exact S0 | with_reducible exact S1 | exact S0 | exact S1) ((go_at_call 49; rw [WR.out]; (with_reducible refine (ST.out _ HB5.out.drew).mono ?_); rintro e w6 ⟨rfl, hb6⟩; have hc6 : Below w5.heap.size w5 w6 := Below.thn (Below.refl _ w5).drew (Nat.le_refl _) hb6; have S1 := And.intro (cell_kept hc6 S0.1) (cell_kept hc6 S0.2); have HB6 := Lib.hid (HB5.out.trans (hc6.mono HB5.out.size)); clear hb6 hc6))
  go_wp2_with fail
  refine (BY.out _).mono ?_
  rintro e w7 ⟨rfl, h7⟩
  have HX := Lib.hid (show w7.heap[w6.heap.size]? = _ from h7 ▸ heap_alloc_new w6 _)
  have HZ := Lib.hid HB6.out.size
  have HB7 := Lib.hid (show Below w.heap.size w w7 from h7 ▸ HB6.out.alloc HB6.out.size _)
  clear h7 BY
  go_wp2_with fail
  go_ret2
  exact ⟨_, rfl, HZ.out, HX.out, HB7.out⟩
end Go.Proofs.YtjkhgljlipljdaaDoor
