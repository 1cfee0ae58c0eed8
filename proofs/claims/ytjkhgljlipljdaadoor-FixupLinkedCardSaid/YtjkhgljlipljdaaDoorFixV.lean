/-
  The law FixupLinked returns true. Conditions: what the start left in the two tables (Gd), how the symbols and the rows of addresses lie, that a hole's number is within 64 bits.
-/
import Derived.Test.YtjkhgljlipljdaaDoorFixU
namespace Go.Proofs.YtjkhgljlipljdaaDoor
open Go.RowKit
set_option linter.unusedVariables false
set_option linter.unusedSimpArgs false

set_option maxRecDepth 100000 in
set_option maxHeartbeats 8000000 in
/-- the walk, from what Resolve and the addresses are -/
theorem linked_walk (k s a : Int) (p m : BA) (sec off : Int) (sa : Option Addr) (sn sc : Nat) (u1 u2 : Value) (w : World) (x0 : Bool) (x1 : Int) (x2 : Bool) (x3 x4 x5 x6 ee : Int) (pA mA hA : Int) (y : Sy) (q : Int) (g off2 : Nat) (j : Nat)
    (hl : sn ≤ 200) (hs : 0 ≤ sec) (hee : ee = 0)
    (LV : Hid (∀ W, Below w.heap.size w W → Calls Tryd.prog 9 #[] W fun e w' => e = .returned (.bool true) ∧ Below W.heap.size W w'))
    (R1 : Hid (∀ W, Below w.heap.size w W → Calls Tryd.prog 22 #[.agg #[.int .i64 k, .int .i64 s, .int .i64 a, .string p, .string m], .int .i64 sec, .int .i64 off, .slice sa sn sc] W fun e w' => e = .returned (.tuple #[.agg #[.bool x0, .int .i64 x1, .bool x2, .int .i64 x3, .int .i64 x4, .int .i64 x5, .int .i64 x6], .int .i64 ee]) ∧ Below W.heap.size W w'))
    (NE : Hid (∀ W, Calls Tryd.prog 30 #[.agg #[.int .i64 k, .int .i64 s, .int .i64 a, .string p, .string m]] W fun e w' => e = .returned (.bool (decide (k ≤ 6))) ∧ Below W.heap.size W w'))
    (AP : Hid (∀ W, Below w.heap.size w W → Calls Tryd.prog 31 #[.string p, .agg #[.int .i64 k, .int .i64 s, .int .i64 a, .string p, .string m, .int .i64 sec, .int .i64 off, .slice sa sn sc], u1, u2] W fun e w' => e = .returned (.tuple #[.int .i64 pA, .bool true]) ∧ Below W.heap.size W w'))
    (AM : Hid (∀ W, Below w.heap.size w W → Calls Tryd.prog 31 #[.string m, .agg #[.int .i64 k, .int .i64 s, .int .i64 a, .string p, .string m, .int .i64 sec, .int .i64 off, .slice sa sn sc], u1, u2] W fun e w' => e = .returned (.tuple #[.int .i64 mA, .bool true]) ∧ Below W.heap.size W w'))
    (AH : Hid (∀ W, Below w.heap.size w W → Calls Tryd.prog 31 #[.string ⟨#[46]⟩, .agg #[.int .i64 k, .int .i64 s, .int .i64 a, .string p, .string m, .int .i64 sec, .int .i64 off, .slice sa sn sc], u1, u2] W fun e w' => e = .returned (.tuple #[.int .i64 hA, .bool true]) ∧ Below W.heap.size W w'))
    (meant : Int) (hM : (if k ≤ 6 then wrap64 (wrap64 (wrap64 (a + pA) - mA) - hA) else wrap64 (wrap64 (a + pA) - mA)) = meant) (hP : x0 = true) (hV : x1 = meant) :
    Calls Tryd.prog 7 #[.agg #[.int .i64 k, .int .i64 s, .int .i64 a, .string p, .string m, .int .i64 sec, .int .i64 off, .slice sa sn sc], u1, u2] w fun e w' => e = .returned (.bool true) ∧ Below w.heap.size w w' := by
  subst hP hee
  have HB0 := Lib.hid (below1 w (.cells #[.int .i64 k, .int .i64 s, .int .i64 a, .string p, .string m, .int .i64 sec, .int .i64 off, .slice sa sn sc] 44))
  have hl' : ¬ (200 : Int) < (sn : Int) := by omega
  have hs' : ¬ sec < 0 := by omega
  have HM := Lib.hid hM
  have HV := Lib.hid hV
  clear hl hs hM hV
  go_enter Tryd.func7, Tryd.ntmps7
  go_wp2_with fail
  refine (LV.out _ HB0.out).mono ?_
  rintro e w1 ⟨rfl, hb1⟩
  obtain ⟨g1, hbw, hz⟩ := kept1 hb1
  obtain ⟨c0, c1, c2, c3, c4, c5, c6, c7⟩ := eight g1
  have G1 := Lib.hid g1
  have HB1 := Lib.hid hbw
  clear hb1 g1 hbw hz
  go_wp2_with fail
  refine (R1.out _ HB1.out).mono ?_
  rintro e w2 ⟨rfl, hb2⟩
  have k1 := below1 w2 (.cells #[.bool true, .int .i64 x1, .bool x2, .int .i64 x3, .int .i64 x4, .int .i64 x5, .int .i64 x6] 48)
  have G1 := Lib.hid (kept_v k1 (kept_v hb2 G1.out))
  have G2 := Lib.hid (heap_alloc_new w2 (.cells #[.bool true, .int .i64 x1, .bool x2, .int .i64 x3, .int .i64 x4, .int .i64 x5, .int .i64 x6] 48))
  have HB2 := Lib.hid (Below.thn (Below.thn HB1.out HB1.out.size hb2) (Below.thn HB1.out HB1.out.size hb2).size k1)
  go_upto_region 6 with fail
  generalize (w2.alloc (.cells #[.bool true, .int .i64 x1, .bool x2, .int .i64 x3, .int .i64 x4, .int .i64 x5, .int .i64 x6] 48)) = V2 at *
  generalize w2.heap.size = BF at *
  clear hb2 k1 c0 c1 c2 c3 c4 c5 c6 c7
  obtain ⟨c0, c1, c2, c3, c4, c5, c6, c7⟩ := eight G1.out
  go_wp2_with fail
  refine (AP.out _ HB2.out).mono ?_
  rintro e w3 ⟨rfl, hb⟩
  have G1 := Lib.hid (kept_v hb G1.out)
  have G2 := Lib.hid (kept_v hb G2.out)
  have HB3 := Lib.hid (Below.thn HB2.out HB2.out.size hb)
  clear hb c0 c1 c2 c3 c4 c5 c6 c7
  obtain ⟨c0, c1, c2, c3, c4, c5, c6, c7⟩ := eight G1.out
  go_wp2_with fail
  refine (AM.out _ HB3.out).mono ?_
  rintro e w4 ⟨rfl, hb⟩
  have G1 := Lib.hid (kept_v hb G1.out)
  have G2 := Lib.hid (kept_v hb G2.out)
  have HB4 := Lib.hid (Below.thn HB3.out HB3.out.size hb)
  clear hb c0 c1 c2 c3 c4 c5 c6 c7
  obtain ⟨c0, c1, c2, c3, c4, c5, c6, c7⟩ := eight G1.out
  go_wp2_with fail
  refine (AH.out _ HB4.out).mono ?_
  rintro e w5 ⟨rfl, hb⟩
  have G1 := Lib.hid (kept_v hb G1.out)
  have G2 := Lib.hid (kept_v hb G2.out)
  have HB5 := Lib.hid (Below.thn HB4.out HB4.out.size hb)
  clear hb c0 c1 c2 c3 c4 c5 c6 c7
  obtain ⟨c0, c1, c2, c3, c4, c5, c6, c7⟩ := eight G1.out
  go_wp2_with fail
  refine (NE.out _).mono ?_
  rintro e w6 ⟨rfl, hb⟩
  have G1 := Lib.hid (kept_v hb G1.out)
  have G2 := Lib.hid (kept_v hb G2.out)
  have HB6 := Lib.hid (Below.thn HB5.out HB5.out.size hb)
  clear hb c0 c1 c2 c3 c4 c5 c6 c7
  obtain ⟨c0, c1, c2, c3, c4, c5, c6, c7⟩ := eight G1.out
  obtain ⟨_, d0, d1, d2, d3, d4, d5, d6⟩ := seven G2.out
  by_cases h6 : k ≤ 6
  · have e1 : x1 = wrap64 (wrap64 (wrap64 (a + pA) - mA) - hA) := by rw [HV.out, ← HM.out, if_pos h6]
    subst e1
    rw [decide_eq_true h6] at *
    go_wp2_with fail
    go_ret
    exact ⟨ret1b (by simp), HB6.out⟩
  · have e1 : x1 = wrap64 (wrap64 (a + pA) - mA) := by rw [HV.out, ← HM.out, if_neg h6]
    subst e1
    rw [decide_eq_false h6] at *
    go_wp2_with fail
    go_ret
    exact ⟨ret1b (by simp), HB6.out⟩
set_option maxRecDepth 100000 in
set_option maxHeartbeats 8000000 in
/-- the walk, from what Resolve and the addresses are -/
theorem linked_reloc (k s a : Int) (p m : BA) (sec off : Int) (sa : Option Addr) (sn sc : Nat) (u1 u2 : Value) (w : World) (x0 : Bool) (x1 : Int) (x2 : Bool) (x3 x4 x5 x6 ee : Int) (pA mA hA : Int) (y : Sy) (q : Int) (g off2 : Nat) (j : Nat)
    (hl : sn ≤ 200) (hs : 0 ≤ sec) (hee : ee = 0)
    (LV : Hid (∀ W, Below w.heap.size w W → Calls Tryd.prog 9 #[] W fun e w' => e = .returned (.bool true) ∧ Below W.heap.size W w'))
    (R1 : Hid (∀ W, Below w.heap.size w W → Calls Tryd.prog 22 #[.agg #[.int .i64 k, .int .i64 s, .int .i64 a, .string p, .string m], .int .i64 sec, .int .i64 off, .slice sa sn sc] W fun e w' => e = .returned (.tuple #[.agg #[.bool x0, .int .i64 x1, .bool x2, .int .i64 x3, .int .i64 x4, .int .i64 x5, .int .i64 x6], .int .i64 ee]) ∧ Below W.heap.size W w'))
    (NE : Hid (∀ W, Calls Tryd.prog 30 #[.agg #[.int .i64 k, .int .i64 s, .int .i64 a, .string p, .string m]] W fun e w' => e = .returned (.bool (decide (k ≤ 6))) ∧ Below W.heap.size W w'))
    (AP : Hid (∀ W, Below w.heap.size w W → Calls Tryd.prog 31 #[.string p, .agg #[.int .i64 k, .int .i64 s, .int .i64 a, .string p, .string m, .int .i64 sec, .int .i64 off, .slice sa sn sc], u1, u2] W fun e w' => e = .returned (.tuple #[.int .i64 pA, .bool true]) ∧ Below W.heap.size W w'))
    (AM : Hid (∀ W, Below w.heap.size w W → Calls Tryd.prog 31 #[.string m, .agg #[.int .i64 k, .int .i64 s, .int .i64 a, .string p, .string m, .int .i64 sec, .int .i64 off, .slice sa sn sc], u1, u2] W fun e w' => e = .returned (.tuple #[.int .i64 mA, .bool true]) ∧ Below W.heap.size W w'))
    (AH : Hid (∀ W, Below w.heap.size w W → Calls Tryd.prog 31 #[.string ⟨#[46]⟩, .agg #[.int .i64 k, .int .i64 s, .int .i64 a, .string p, .string m, .int .i64 sec, .int .i64 off, .slice sa sn sc], u1, u2] W fun e w' => e = .returned (.tuple #[.int .i64 hA, .bool true]) ∧ Below W.heap.size W w'))
    (meant : Int) (hM : (if k ≤ 6 then wrap64 (wrap64 (wrap64 (a + pA) - mA) - hA) else wrap64 (wrap64 (a + pA) - mA)) = meant) (hP : x0 = false) (hO : off = x3) (hJ : x5 = (j : Int)) (hjl : j < sn)
    (SY : Hid (∀ W, Below w.heap.size w W → sa = some ⟨g, off2, none⟩ ∧ g < W.heap.size ∧ W.cell? ⟨g, off2 + j * 4, none⟩ = some (.string y.name)))
    (AY : Hid (∀ W, Below w.heap.size w W → Calls Tryd.prog 31 #[.string y.name, .agg #[.int .i64 k, .int .i64 s, .int .i64 a, .string p, .string m, .int .i64 sec, .int .i64 off, .slice sa sn sc], u1, u2] W fun e w' => e = .returned (.tuple #[.int .i64 q, .bool true]) ∧ Below W.heap.size W w'))
    (hV : (if k ≤ 6 ∨ x4 = 261 ∨ x4 = 260 then wrap64 (wrap64 (q + x6) - hA) else wrap64 (q + x6)) = meant) :
    Calls Tryd.prog 7 #[.agg #[.int .i64 k, .int .i64 s, .int .i64 a, .string p, .string m, .int .i64 sec, .int .i64 off, .slice sa sn sc], u1, u2] w fun e w' => e = .returned (.bool true) ∧ Below w.heap.size w w' := by
  subst hP hee hO hJ
  obtain ⟨yn, ys, yv, yg⟩ := y
  simp only at SY AY
  obtain rfl := (SY.out w (Below.refl _ _)).1
  have q0 : (0 : Int) ≤ (j : Int) := by omega
  have q1 : (j : Int) < (sn : Int) := by omega
  have q2 : ¬ (sn : Int) ≤ (j : Int) := by omega
  have HB0 := Lib.hid (below1 w (.cells #[.int .i64 k, .int .i64 s, .int .i64 a, .string p, .string m, .int .i64 sec, .int .i64 off, .slice (some ⟨g, off2, none⟩) sn sc] 44))
  have hl' : ¬ (200 : Int) < (sn : Int) := by omega
  have hs' : ¬ sec < 0 := by omega
  have HM := Lib.hid hM
  have HV := Lib.hid hV
  clear hl hs hM hV
  go_enter Tryd.func7, Tryd.ntmps7
  go_wp2_with fail
  refine (LV.out _ HB0.out).mono ?_
  rintro e w1 ⟨rfl, hb1⟩
  obtain ⟨g1, hbw, hz⟩ := kept1 hb1
  obtain ⟨c0, c1, c2, c3, c4, c5, c6, c7⟩ := eight g1
  have G1 := Lib.hid g1
  have HB1 := Lib.hid hbw
  clear hb1 g1 hbw hz
  go_wp2_with fail
  refine (R1.out _ HB1.out).mono ?_
  rintro e w2 ⟨rfl, hb2⟩
  have k1 := below1 w2 (.cells #[.bool false, .int .i64 x1, .bool x2, .int .i64 off, .int .i64 x4, .int .i64 (j : Int), .int .i64 x6] 48)
  have G1 := Lib.hid (kept_v k1 (kept_v hb2 G1.out))
  have G2 := Lib.hid (heap_alloc_new w2 (.cells #[.bool false, .int .i64 x1, .bool x2, .int .i64 off, .int .i64 x4, .int .i64 (j : Int), .int .i64 x6] 48))
  have HB2 := Lib.hid (Below.thn (Below.thn HB1.out HB1.out.size hb2) (Below.thn HB1.out HB1.out.size hb2).size k1)
  go_upto_region 6 with fail
  generalize (w2.alloc (.cells #[.bool false, .int .i64 x1, .bool x2, .int .i64 off, .int .i64 x4, .int .i64 (j : Int), .int .i64 x6] 48)) = V2 at *
  generalize w2.heap.size = BF at *
  clear hb2 k1 c0 c1 c2 c3 c4 c5 c6 c7
  obtain ⟨c0, c1, c2, c3, c4, c5, c6, c7⟩ := eight G1.out
  go_wp2_with fail
  refine (AP.out _ HB2.out).mono ?_
  rintro e w3 ⟨rfl, hb⟩
  have G1 := Lib.hid (kept_v hb G1.out)
  have G2 := Lib.hid (kept_v hb G2.out)
  have HB3 := Lib.hid (Below.thn HB2.out HB2.out.size hb)
  clear hb c0 c1 c2 c3 c4 c5 c6 c7
  obtain ⟨c0, c1, c2, c3, c4, c5, c6, c7⟩ := eight G1.out
  go_wp2_with fail
  refine (AM.out _ HB3.out).mono ?_
  rintro e w4 ⟨rfl, hb⟩
  have G1 := Lib.hid (kept_v hb G1.out)
  have G2 := Lib.hid (kept_v hb G2.out)
  have HB4 := Lib.hid (Below.thn HB3.out HB3.out.size hb)
  clear hb c0 c1 c2 c3 c4 c5 c6 c7
  obtain ⟨c0, c1, c2, c3, c4, c5, c6, c7⟩ := eight G1.out
  go_wp2_with fail
  refine (AH.out _ HB4.out).mono ?_
  rintro e w5 ⟨rfl, hb⟩
  have G1 := Lib.hid (kept_v hb G1.out)
  have G2 := Lib.hid (kept_v hb G2.out)
  have HB5 := Lib.hid (Below.thn HB4.out HB4.out.size hb)
  clear hb c0 c1 c2 c3 c4 c5 c6 c7
  obtain ⟨c0, c1, c2, c3, c4, c5, c6, c7⟩ := eight G1.out
  go_wp2_with fail
  refine (NE.out _).mono ?_
  rintro e w6 ⟨rfl, hb⟩
  have G1 := Lib.hid (kept_v hb G1.out)
  have G2 := Lib.hid (kept_v hb G2.out)
  have HB6 := Lib.hid (Below.thn HB5.out HB5.out.size hb)
  clear hb c0 c1 c2 c3 c4 c5 c6 c7
  obtain ⟨c0, c1, c2, c3, c4, c5, c6, c7⟩ := eight G1.out
  obtain ⟨_, d0, d1, d2, d3, d4, d5, d6⟩ := seven G2.out
  obtain ⟨_, hg6, z0⟩ := SY.out w6 HB6.out
  by_cases h6 : k ≤ 6
  · have E := Lib.hid (show wrap64 (wrap64 (q + x6) - hA) = wrap64 (wrap64 (wrap64 (a + pA) - mA) - hA) by have h1 := HM.out; have h2 := HV.out; rw [if_pos h6] at h1; rw [if_pos (.inl h6)] at h2; rw [h1, h2])
    rw [decide_eq_true h6] at NE ⊢
    clear HM HV h6
    go_upto_region 20 with fail
    have KS : Hid (∀ W : World, Below w6.heap.size w6 W → (W.cell? ⟨w.heap.size, 0, none⟩ = some (.int .i64 k) ∧ W.cell? ⟨w.heap.size, 1, none⟩ = some (.int .i64 s) ∧ W.cell? ⟨w.heap.size, 2, none⟩ = some (.int .i64 a) ∧ W.cell? ⟨w.heap.size, 3, none⟩ = some (.string p) ∧ W.cell? ⟨w.heap.size, 4, none⟩ = some (.string m) ∧ W.cell? ⟨w.heap.size, 5, none⟩ = some (.int .i64 sec) ∧ W.cell? ⟨w.heap.size, 6, none⟩ = some (.int .i64 off) ∧ W.cell? ⟨w.heap.size, 7, none⟩ = some (.slice (some ⟨g, off2, none⟩) sn sc) ∧ W.cell? ⟨BF, 0, none⟩ = some (.bool false) ∧ W.cell? ⟨BF, 1, none⟩ = some (.int .i64 x1) ∧ W.cell? ⟨BF, 2, none⟩ = some (.bool x2) ∧ W.cell? ⟨BF, 3, none⟩ = some (.int .i64 off) ∧ W.cell? ⟨BF, 4, none⟩ = some (.int .i64 x4) ∧ W.cell? ⟨BF, 5, none⟩ = some (.int .i64 (j : Int)) ∧ W.cell? ⟨BF, 6, none⟩ = some (.int .i64 x6) ∧ W.cell? ⟨g, off2 + j * 4, none⟩ = some (.string yn))) :=
      Lib.hid (fun W hb => ⟨cell_kept hb c0, cell_kept hb c1, cell_kept hb c2, cell_kept hb c3, cell_kept hb c4, cell_kept hb c5, cell_kept hb c6, cell_kept hb c7, cell_kept hb d0, cell_kept hb d1, cell_kept hb d2, cell_kept hb d3, cell_kept hb d4, cell_kept hb d5, cell_kept hb d6, cell_kept hb z0⟩)
    have B0 := Lib.hid ((Below.refl w6.heap.size w6).drew)
    clear c0 c1 c2 c3 c4 c5 c6 c7 d0 d1 d2 d3 d4 d5 d6 z0
    go_region_held3 (fun w' => w'.cell? ⟨w.heap.size, 0, none⟩ = some (.int .i64 k) ∧ w'.cell? ⟨w.heap.size, 1, none⟩ = some (.int .i64 s) ∧ w'.cell? ⟨w.heap.size, 2, none⟩ = some (.int .i64 a) ∧ w'.cell? ⟨w.heap.size, 3, none⟩ = some (.string p) ∧ w'.cell? ⟨w.heap.size, 4, none⟩ = some (.string m) ∧ w'.cell? ⟨w.heap.size, 5, none⟩ = some (.int .i64 sec) ∧ w'.cell? ⟨w.heap.size, 6, none⟩ = some (.int .i64 off) ∧ w'.cell? ⟨w.heap.size, 7, none⟩ = some (.slice (some ⟨g, off2, none⟩) sn sc) ∧ w'.cell? ⟨BF, 0, none⟩ = some (.bool false) ∧ w'.cell? ⟨BF, 1, none⟩ = some (.int .i64 x1) ∧ w'.cell? ⟨BF, 2, none⟩ = some (.bool x2) ∧ w'.cell? ⟨BF, 3, none⟩ = some (.int .i64 off) ∧ w'.cell? ⟨BF, 4, none⟩ = some (.int .i64 x4) ∧ w'.cell? ⟨BF, 5, none⟩ = some (.int .i64 (j : Int)) ∧ w'.cell? ⟨BF, 6, none⟩ = some (.int .i64 x6) ∧ w'.cell? ⟨g, off2 + j * 4, none⟩ = some (.string yn))
      (first | exact KS.out _ (Below.refl _ _) | exact KS.out _ B0.out | exact KS.out _ B1.out)
      ((go_at_call 31; (with_reducible refine (AY.out _ (Below.thn HB6.out HB6.out.size B0.out)).mono ?_); rintro e v1 ⟨rfl, hc⟩; have B1 : Hid (Below w6.heap.size w6 v1) := Lib.hid (Below.thn B0.out B0.out.size hc); clear hc))
    all_goals
      obtain ⟨c0, c1, c2, c3, c4, c5, c6, c7, d0, d1, d2, d3, d4, d5, d6, z0⟩ := KS.out v1 B1.out
      go_wp2_with fail
      refine (NE.out _).mono ?_
      rintro e v2 ⟨rfl, hb⟩
      have B2 := Lib.hid (Below.thn B1.out B1.out.size hb)
      clear hb c0 c1 c2 c3 c4 c5 c6 c7 d0 d1 d2 d3 d4 d5 d6 z0
      obtain ⟨c0, c1, c2, c3, c4, c5, c6, c7, d0, d1, d2, d3, d4, d5, d6, z0⟩ := KS.out v2 B2.out
      go_wp2_with fail
      go_ret
      exact ⟨ret1b (beq_iff_eq.2 E.out), Below.thn HB6.out HB6.out.size B2.out⟩
  by_cases t1 : x4 = 261
  · have E := Lib.hid (show wrap64 (wrap64 (q + x6) - hA) = wrap64 (wrap64 (a + pA) - mA) by have h1 := HM.out; have h2 := HV.out; rw [if_neg h6] at h1; rw [if_pos (.inr (.inl t1))] at h2; rw [h1, h2])
    have b1 := beq_t t1
    rw [decide_eq_false h6] at NE ⊢
    clear HM HV h6 t1
    go_upto_region 20 with fail
    have KS : Hid (∀ W : World, Below w6.heap.size w6 W → (W.cell? ⟨w.heap.size, 0, none⟩ = some (.int .i64 k) ∧ W.cell? ⟨w.heap.size, 1, none⟩ = some (.int .i64 s) ∧ W.cell? ⟨w.heap.size, 2, none⟩ = some (.int .i64 a) ∧ W.cell? ⟨w.heap.size, 3, none⟩ = some (.string p) ∧ W.cell? ⟨w.heap.size, 4, none⟩ = some (.string m) ∧ W.cell? ⟨w.heap.size, 5, none⟩ = some (.int .i64 sec) ∧ W.cell? ⟨w.heap.size, 6, none⟩ = some (.int .i64 off) ∧ W.cell? ⟨w.heap.size, 7, none⟩ = some (.slice (some ⟨g, off2, none⟩) sn sc) ∧ W.cell? ⟨BF, 0, none⟩ = some (.bool false) ∧ W.cell? ⟨BF, 1, none⟩ = some (.int .i64 x1) ∧ W.cell? ⟨BF, 2, none⟩ = some (.bool x2) ∧ W.cell? ⟨BF, 3, none⟩ = some (.int .i64 off) ∧ W.cell? ⟨BF, 4, none⟩ = some (.int .i64 x4) ∧ W.cell? ⟨BF, 5, none⟩ = some (.int .i64 (j : Int)) ∧ W.cell? ⟨BF, 6, none⟩ = some (.int .i64 x6) ∧ W.cell? ⟨g, off2 + j * 4, none⟩ = some (.string yn))) :=
      Lib.hid (fun W hb => ⟨cell_kept hb c0, cell_kept hb c1, cell_kept hb c2, cell_kept hb c3, cell_kept hb c4, cell_kept hb c5, cell_kept hb c6, cell_kept hb c7, cell_kept hb d0, cell_kept hb d1, cell_kept hb d2, cell_kept hb d3, cell_kept hb d4, cell_kept hb d5, cell_kept hb d6, cell_kept hb z0⟩)
    have B0 := Lib.hid ((Below.refl w6.heap.size w6).drew)
    clear c0 c1 c2 c3 c4 c5 c6 c7 d0 d1 d2 d3 d4 d5 d6 z0
    go_region_held3 (fun w' => w'.cell? ⟨w.heap.size, 0, none⟩ = some (.int .i64 k) ∧ w'.cell? ⟨w.heap.size, 1, none⟩ = some (.int .i64 s) ∧ w'.cell? ⟨w.heap.size, 2, none⟩ = some (.int .i64 a) ∧ w'.cell? ⟨w.heap.size, 3, none⟩ = some (.string p) ∧ w'.cell? ⟨w.heap.size, 4, none⟩ = some (.string m) ∧ w'.cell? ⟨w.heap.size, 5, none⟩ = some (.int .i64 sec) ∧ w'.cell? ⟨w.heap.size, 6, none⟩ = some (.int .i64 off) ∧ w'.cell? ⟨w.heap.size, 7, none⟩ = some (.slice (some ⟨g, off2, none⟩) sn sc) ∧ w'.cell? ⟨BF, 0, none⟩ = some (.bool false) ∧ w'.cell? ⟨BF, 1, none⟩ = some (.int .i64 x1) ∧ w'.cell? ⟨BF, 2, none⟩ = some (.bool x2) ∧ w'.cell? ⟨BF, 3, none⟩ = some (.int .i64 off) ∧ w'.cell? ⟨BF, 4, none⟩ = some (.int .i64 x4) ∧ w'.cell? ⟨BF, 5, none⟩ = some (.int .i64 (j : Int)) ∧ w'.cell? ⟨BF, 6, none⟩ = some (.int .i64 x6) ∧ w'.cell? ⟨g, off2 + j * 4, none⟩ = some (.string yn))
      (first | exact KS.out _ (Below.refl _ _) | exact KS.out _ B0.out | exact KS.out _ B1.out)
      ((go_at_call 31; (with_reducible refine (AY.out _ (Below.thn HB6.out HB6.out.size B0.out)).mono ?_); rintro e v1 ⟨rfl, hc⟩; have B1 : Hid (Below w6.heap.size w6 v1) := Lib.hid (Below.thn B0.out B0.out.size hc); clear hc))
    all_goals
      obtain ⟨c0, c1, c2, c3, c4, c5, c6, c7, d0, d1, d2, d3, d4, d5, d6, z0⟩ := KS.out v1 B1.out
      go_wp2_with fail
      refine (NE.out _).mono ?_
      rintro e v2 ⟨rfl, hb⟩
      have B2 := Lib.hid (Below.thn B1.out B1.out.size hb)
      clear hb c0 c1 c2 c3 c4 c5 c6 c7 d0 d1 d2 d3 d4 d5 d6 z0
      obtain ⟨c0, c1, c2, c3, c4, c5, c6, c7, d0, d1, d2, d3, d4, d5, d6, z0⟩ := KS.out v2 B2.out
      go_wp2_with fail
      go_ret
      exact ⟨ret1b (beq_iff_eq.2 E.out), Below.thn HB6.out HB6.out.size B2.out⟩
  have b1 := not_beq t1
  by_cases t2 : x4 = 260
  · have E := Lib.hid (show wrap64 (wrap64 (q + x6) - hA) = wrap64 (wrap64 (a + pA) - mA) by have h1 := HM.out; have h2 := HV.out; rw [if_neg h6] at h1; rw [if_pos (.inr (.inr t2))] at h2; rw [h1, h2])
    have b2 := beq_t t2
    rw [decide_eq_false h6] at NE ⊢
    clear HM HV h6 t1 t2
    go_upto_region 20 with fail
    have KS : Hid (∀ W : World, Below w6.heap.size w6 W → (W.cell? ⟨w.heap.size, 0, none⟩ = some (.int .i64 k) ∧ W.cell? ⟨w.heap.size, 1, none⟩ = some (.int .i64 s) ∧ W.cell? ⟨w.heap.size, 2, none⟩ = some (.int .i64 a) ∧ W.cell? ⟨w.heap.size, 3, none⟩ = some (.string p) ∧ W.cell? ⟨w.heap.size, 4, none⟩ = some (.string m) ∧ W.cell? ⟨w.heap.size, 5, none⟩ = some (.int .i64 sec) ∧ W.cell? ⟨w.heap.size, 6, none⟩ = some (.int .i64 off) ∧ W.cell? ⟨w.heap.size, 7, none⟩ = some (.slice (some ⟨g, off2, none⟩) sn sc) ∧ W.cell? ⟨BF, 0, none⟩ = some (.bool false) ∧ W.cell? ⟨BF, 1, none⟩ = some (.int .i64 x1) ∧ W.cell? ⟨BF, 2, none⟩ = some (.bool x2) ∧ W.cell? ⟨BF, 3, none⟩ = some (.int .i64 off) ∧ W.cell? ⟨BF, 4, none⟩ = some (.int .i64 x4) ∧ W.cell? ⟨BF, 5, none⟩ = some (.int .i64 (j : Int)) ∧ W.cell? ⟨BF, 6, none⟩ = some (.int .i64 x6) ∧ W.cell? ⟨g, off2 + j * 4, none⟩ = some (.string yn))) :=
      Lib.hid (fun W hb => ⟨cell_kept hb c0, cell_kept hb c1, cell_kept hb c2, cell_kept hb c3, cell_kept hb c4, cell_kept hb c5, cell_kept hb c6, cell_kept hb c7, cell_kept hb d0, cell_kept hb d1, cell_kept hb d2, cell_kept hb d3, cell_kept hb d4, cell_kept hb d5, cell_kept hb d6, cell_kept hb z0⟩)
    have B0 := Lib.hid ((Below.refl w6.heap.size w6).drew)
    clear c0 c1 c2 c3 c4 c5 c6 c7 d0 d1 d2 d3 d4 d5 d6 z0
    go_region_held3 (fun w' => w'.cell? ⟨w.heap.size, 0, none⟩ = some (.int .i64 k) ∧ w'.cell? ⟨w.heap.size, 1, none⟩ = some (.int .i64 s) ∧ w'.cell? ⟨w.heap.size, 2, none⟩ = some (.int .i64 a) ∧ w'.cell? ⟨w.heap.size, 3, none⟩ = some (.string p) ∧ w'.cell? ⟨w.heap.size, 4, none⟩ = some (.string m) ∧ w'.cell? ⟨w.heap.size, 5, none⟩ = some (.int .i64 sec) ∧ w'.cell? ⟨w.heap.size, 6, none⟩ = some (.int .i64 off) ∧ w'.cell? ⟨w.heap.size, 7, none⟩ = some (.slice (some ⟨g, off2, none⟩) sn sc) ∧ w'.cell? ⟨BF, 0, none⟩ = some (.bool false) ∧ w'.cell? ⟨BF, 1, none⟩ = some (.int .i64 x1) ∧ w'.cell? ⟨BF, 2, none⟩ = some (.bool x2) ∧ w'.cell? ⟨BF, 3, none⟩ = some (.int .i64 off) ∧ w'.cell? ⟨BF, 4, none⟩ = some (.int .i64 x4) ∧ w'.cell? ⟨BF, 5, none⟩ = some (.int .i64 (j : Int)) ∧ w'.cell? ⟨BF, 6, none⟩ = some (.int .i64 x6) ∧ w'.cell? ⟨g, off2 + j * 4, none⟩ = some (.string yn))
      (first | exact KS.out _ (Below.refl _ _) | exact KS.out _ B0.out | exact KS.out _ B1.out)
      ((go_at_call 31; (with_reducible refine (AY.out _ (Below.thn HB6.out HB6.out.size B0.out)).mono ?_); rintro e v1 ⟨rfl, hc⟩; have B1 : Hid (Below w6.heap.size w6 v1) := Lib.hid (Below.thn B0.out B0.out.size hc); clear hc))
    all_goals
      obtain ⟨c0, c1, c2, c3, c4, c5, c6, c7, d0, d1, d2, d3, d4, d5, d6, z0⟩ := KS.out v1 B1.out
      go_wp2_with fail
      refine (NE.out _).mono ?_
      rintro e v2 ⟨rfl, hb⟩
      have B2 := Lib.hid (Below.thn B1.out B1.out.size hb)
      clear hb c0 c1 c2 c3 c4 c5 c6 c7 d0 d1 d2 d3 d4 d5 d6 z0
      obtain ⟨c0, c1, c2, c3, c4, c5, c6, c7, d0, d1, d2, d3, d4, d5, d6, z0⟩ := KS.out v2 B2.out
      go_wp2_with fail
      go_ret
      exact ⟨ret1b (beq_iff_eq.2 E.out), Below.thn HB6.out HB6.out.size B2.out⟩
  · have b2 := not_beq t2
    have E := Lib.hid (show wrap64 (q + x6) = wrap64 (wrap64 (a + pA) - mA) by have h1 := HM.out; have h2 := HV.out; rw [if_neg h6] at h1; rw [if_neg (by intro hh; rcases hh with hh | hh | hh; exact h6 hh; exact t1 hh; exact t2 hh)] at h2; rw [h1, h2])
    rw [decide_eq_false h6] at NE ⊢
    clear HM HV h6 t1 t2
    go_upto_region 20 with fail
    have KS : Hid (∀ W : World, Below w6.heap.size w6 W → (W.cell? ⟨w.heap.size, 0, none⟩ = some (.int .i64 k) ∧ W.cell? ⟨w.heap.size, 1, none⟩ = some (.int .i64 s) ∧ W.cell? ⟨w.heap.size, 2, none⟩ = some (.int .i64 a) ∧ W.cell? ⟨w.heap.size, 3, none⟩ = some (.string p) ∧ W.cell? ⟨w.heap.size, 4, none⟩ = some (.string m) ∧ W.cell? ⟨w.heap.size, 5, none⟩ = some (.int .i64 sec) ∧ W.cell? ⟨w.heap.size, 6, none⟩ = some (.int .i64 off) ∧ W.cell? ⟨w.heap.size, 7, none⟩ = some (.slice (some ⟨g, off2, none⟩) sn sc) ∧ W.cell? ⟨BF, 0, none⟩ = some (.bool false) ∧ W.cell? ⟨BF, 1, none⟩ = some (.int .i64 x1) ∧ W.cell? ⟨BF, 2, none⟩ = some (.bool x2) ∧ W.cell? ⟨BF, 3, none⟩ = some (.int .i64 off) ∧ W.cell? ⟨BF, 4, none⟩ = some (.int .i64 x4) ∧ W.cell? ⟨BF, 5, none⟩ = some (.int .i64 (j : Int)) ∧ W.cell? ⟨BF, 6, none⟩ = some (.int .i64 x6) ∧ W.cell? ⟨g, off2 + j * 4, none⟩ = some (.string yn))) :=
      Lib.hid (fun W hb => ⟨cell_kept hb c0, cell_kept hb c1, cell_kept hb c2, cell_kept hb c3, cell_kept hb c4, cell_kept hb c5, cell_kept hb c6, cell_kept hb c7, cell_kept hb d0, cell_kept hb d1, cell_kept hb d2, cell_kept hb d3, cell_kept hb d4, cell_kept hb d5, cell_kept hb d6, cell_kept hb z0⟩)
    have B0 := Lib.hid ((Below.refl w6.heap.size w6).drew)
    clear c0 c1 c2 c3 c4 c5 c6 c7 d0 d1 d2 d3 d4 d5 d6 z0
    go_region_held3 (fun w' => w'.cell? ⟨w.heap.size, 0, none⟩ = some (.int .i64 k) ∧ w'.cell? ⟨w.heap.size, 1, none⟩ = some (.int .i64 s) ∧ w'.cell? ⟨w.heap.size, 2, none⟩ = some (.int .i64 a) ∧ w'.cell? ⟨w.heap.size, 3, none⟩ = some (.string p) ∧ w'.cell? ⟨w.heap.size, 4, none⟩ = some (.string m) ∧ w'.cell? ⟨w.heap.size, 5, none⟩ = some (.int .i64 sec) ∧ w'.cell? ⟨w.heap.size, 6, none⟩ = some (.int .i64 off) ∧ w'.cell? ⟨w.heap.size, 7, none⟩ = some (.slice (some ⟨g, off2, none⟩) sn sc) ∧ w'.cell? ⟨BF, 0, none⟩ = some (.bool false) ∧ w'.cell? ⟨BF, 1, none⟩ = some (.int .i64 x1) ∧ w'.cell? ⟨BF, 2, none⟩ = some (.bool x2) ∧ w'.cell? ⟨BF, 3, none⟩ = some (.int .i64 off) ∧ w'.cell? ⟨BF, 4, none⟩ = some (.int .i64 x4) ∧ w'.cell? ⟨BF, 5, none⟩ = some (.int .i64 (j : Int)) ∧ w'.cell? ⟨BF, 6, none⟩ = some (.int .i64 x6) ∧ w'.cell? ⟨g, off2 + j * 4, none⟩ = some (.string yn))
      (first | exact KS.out _ (Below.refl _ _) | exact KS.out _ B0.out | exact KS.out _ B1.out)
      ((go_at_call 31; (with_reducible refine (AY.out _ (Below.thn HB6.out HB6.out.size B0.out)).mono ?_); rintro e v1 ⟨rfl, hc⟩; have B1 : Hid (Below w6.heap.size w6 v1) := Lib.hid (Below.thn B0.out B0.out.size hc); clear hc))
    all_goals
      obtain ⟨c0, c1, c2, c3, c4, c5, c6, c7, d0, d1, d2, d3, d4, d5, d6, z0⟩ := KS.out v1 B1.out
      go_wp2_with fail
      refine (NE.out _).mono ?_
      rintro e v2 ⟨rfl, hb⟩
      have B2 := Lib.hid (Below.thn B1.out B1.out.size hb)
      clear hb c0 c1 c2 c3 c4 c5 c6 c7 d0 d1 d2 d3 d4 d5 d6 z0
      obtain ⟨c0, c1, c2, c3, c4, c5, c6, c7, d0, d1, d2, d3, d4, d5, d6, z0⟩ := KS.out v2 B2.out
      go_wp2_with fail
      go_ret
      exact ⟨ret1b (beq_iff_eq.2 E.out), Below.thn HB6.out HB6.out.size B2.out⟩
end Go.Proofs.YtjkhgljlipljdaaDoor
