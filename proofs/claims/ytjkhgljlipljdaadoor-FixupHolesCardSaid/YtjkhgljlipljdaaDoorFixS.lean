/-
  The law FixupHoles returns true. Conditions: what the start left in the two tables (Gd).
-/
import Derived.Test.YtjkhgljlipljdaaDoorFixR
namespace Go.Proofs.YtjkhgljlipljdaaDoor
open Go.RowKit
set_option linter.unusedVariables false
set_option linter.unusedSimpArgs false

theorem not_nilH (w : World) : (binOp BinOp.eql 33 (Value.func (Fn.func 35) #[] #[]) Value.nilFunc).run Tryd.prog w = .ok (.bool false) w := by
  kernel_rfl
set_option maxRecDepth 100000 in
set_option maxHeartbeats 8000000 in
theorem holes_law (h : Hl) (far : Bool) (w : World) (hG : Gd w) :
    Calls Tryd.prog 3 #[hlV h, .bool far] w fun e w' => e = .returned (.bool true) ∧ Below w.heap.size w w' := by
  have LV := Lib.hid (fun W (hb : Below w.heap.size w W) => live_any W (hG.keep hb))
  have R1 := Lib.hid (fun W (hb : Below w.heap.size w W) => reach_any h W (hG.keep hb))
  have R2 := Lib.hid (fun W => rreach_any h W)
  have T1 := Lib.hid (fun W (hb : Below w.heap.size w W) => type_any h far W (hG.keep hb))
  have T2 := Lib.hid (fun W => rtype_any h far W)
  have HO := Lib.hid (fun W => holes_any W)
  have C1 := Lib.hid (fun W => check_any h W)
  have C2 := Lib.hid (fun W => rcheck_any h W)
  have W1 := Lib.hid (fun W (hb : Below w.heap.size w W) => width_any h W (hG.keep hb))
  have W2 := Lib.hid (fun W => rwidth_any h W)
  have CO := Lib.hid (fun W => collect_holes W)
  have RH := Lib.hid (fun W => rholes_any W)
  have EQ := Lib.hid (fun s1 s2 W h1 h2 => equal_holes s1 s2 W h1 h2)
  have NN := not_nilH
  obtain ⟨k, s, a, p, m⟩ := h
  unfold hlV at *
  simp only at *
  generalize filledB (shR k s) = fb at *
  generalize (shR k s).l = rl at *
  generalize (shR k s).m = rm at *
  generalize (shR k s).t = rt at *
  generalize (shR k s).w = rw' at *
  generalize typI k s far = ti at *
  generalize typE k s far = te at *
  generalize chkI k s = ck at *
  clear hG
  have HB0 := Lib.hid (below1 w (.cells #[.int .i64 k, .int .i64 s, .int .i64 a, .string p, .string m] 25))
  go_enter Tryd.func3, Tryd.ntmps3
  go_wp2_with fail
  refine (LV.out _ HB0.out).mono ?_
  rintro e w1 ⟨rfl, hb1⟩
  obtain ⟨g1, hbw, hz⟩ := kept1 hb1
  obtain ⟨c0, c1, c2, c3, c4⟩ := five g1
  have G1 := Lib.hid g1
  have HB1 := Lib.hid hbw
  clear hb1 g1 hbw hz
  go_wp2_with fail
  refine (R1.out _ HB1.out).mono ?_
  rintro e w2 ⟨rfl, hb2⟩
  have G2 := Lib.hid (kept_v hb2 G1.out)
  have HB2 := Lib.hid (Below.thn HB1.out HB1.out.size hb2)
  clear hb2 c0 c1 c2 c3 c4
  obtain ⟨c0, c1, c2, c3, c4⟩ := five G2.out
  go_wp2_with fail
  refine (R2.out _).mono ?_
  rintro e w3 ⟨rfl, hb3⟩
  have G3 := Lib.hid (kept_v hb3 G2.out)
  have HB3 := Lib.hid (Below.thn HB2.out HB2.out.size hb3)
  clear hb3 c0 c1 c2 c3 c4
  obtain ⟨c0, c1, c2, c3, c4⟩ := five G3.out
  go_wp2_with fail
  refine (T1.out _ HB3.out).mono ?_
  rintro e w4 ⟨rfl, hb4⟩
  have G4 := Lib.hid (kept_v hb4 G3.out)
  have HB4 := Lib.hid (Below.thn HB3.out HB3.out.size hb4)
  clear hb4 c0 c1 c2 c3 c4
  obtain ⟨c0, c1, c2, c3, c4⟩ := five G4.out
  go_wp2_with fail
  refine (T2.out _).mono ?_
  rintro e w5 ⟨rfl, hb5⟩
  have G5 := Lib.hid (kept_v hb5 G4.out)
  have HB5 := Lib.hid (Below.thn HB4.out HB4.out.size hb5)
  clear hb5 c0 c1 c2 c3 c4
  obtain ⟨c0, c1, c2, c3, c4⟩ := five G5.out
  go_wp2_with fail
  refine (HO.out _).mono ?_
  rintro e w6 ⟨rfl, rfl⟩
  go_upto_region 10 with fail
  have KS : Hid (∀ W : World, Below w5.heap.size w5 W → (W.cell? ⟨w.heap.size, 0, none⟩ = some (.int .i64 k) ∧ W.cell? ⟨w.heap.size, 1, none⟩ = some (.int .i64 s) ∧ W.cell? ⟨w.heap.size, 2, none⟩ = some (.int .i64 a) ∧ W.cell? ⟨w.heap.size, 3, none⟩ = some (.string p) ∧ W.cell? ⟨w.heap.size, 4, none⟩ = some (.string m))) :=
    Lib.hid (fun W hb => ⟨cell_kept hb c0, cell_kept hb c1, cell_kept hb c2, cell_kept hb c3, cell_kept hb c4⟩)
  have B0 := Lib.hid ((Below.refl w5.heap.size w5).drew)
  go_region_held3 (fun w' => w'.cell? ⟨w.heap.size, 0, none⟩ = some (.int .i64 k) ∧ w'.cell? ⟨w.heap.size, 1, none⟩ = some (.int .i64 s) ∧ w'.cell? ⟨w.heap.size, 2, none⟩ = some (.int .i64 a) ∧ w'.cell? ⟨w.heap.size, 3, none⟩ = some (.string p) ∧ w'.cell? ⟨w.heap.size, 4, none⟩ = some (.string m))
    (first | exact KS.out _ (Below.refl _ _) | exact KS.out _ B0.out | exact KS.out _ B1.out | exact KS.out _ B2.out | exact KS.out _ B3.out | exact KS.out _ B4.out | exact KS.out _ B5.out | exact KS.out _ B6.out | exact KS.out _ B7.out)
    (first
      | (go_at_call 15; (with_reducible refine (C1.out _).mono ?_); rintro e v1 ⟨rfl, hc⟩; have B1 : Hid (Below w5.heap.size w5 v1) := Lib.hid (Below.thn B0.out B0.out.size hc); clear hc)
      | (go_at_call 16; (with_reducible refine (C2.out _).mono ?_); rintro e v2 ⟨rfl, hc⟩; have B2 : Hid (Below w5.heap.size w5 v2) := Lib.hid (Below.thn B1.out B1.out.size hc); clear hc)
      | (go_at_call 17; (with_reducible refine (W1.out _ (Below.thn HB5.out HB5.out.size B2.out)).mono ?_); rintro e v3 ⟨rfl, hc⟩; have B3 : Hid (Below w5.heap.size w5 v3) := Lib.hid (Below.thn B2.out B2.out.size hc); clear hc)
      | (go_at_call 18; (with_reducible refine (W2.out _).mono ?_); rintro e v4 ⟨rfl, hc⟩; have B4 : Hid (Below w5.heap.size w5 v4) := Lib.hid (Below.thn B3.out B3.out.size hc); clear hc)
      | (go_at_call 20; (with_reducible refine (CO.out _).mono ?_); rintro e v5 ⟨⟨q1, rfl, hr⟩, hc⟩; obtain ⟨qa, qc, rfl⟩ := own_sliceN hr; have O1 := Lib.hid (holes_rows hr); have B5 : Hid (Below w5.heap.size w5 v5) := Lib.hid (Below.thn B4.out B4.out.size hc); clear hc hr)
      | (go_at_call 21; (with_reducible refine (RH.out _).mono ?_); rintro e v6 ⟨⟨q2, rfl, hr⟩, hc⟩; obtain ⟨qb, qd, rfl⟩ := own_sliceN hr; have O2 := Lib.hid (holes_rows hr); have O3 := Lib.hid (O1.out.keep hc); have B6 : Hid (Below w5.heap.size w5 v6) := Lib.hid (Below.thn B5.out B5.out.size hc); clear hc hr)
      | (go_at_call 19; (with_reducible refine (EQ.out _ _ _ O3.out O2.out).mono ?_); rintro e v7 ⟨rfl, hc⟩; have B7 : Hid (Below w5.heap.size w5 v7) := Lib.hid (Below.thn B6.out B6.out.size hc); clear hc))
  all_goals
    go_wp2_with fail
    go_ret
    exact ⟨rfl, Below.thn HB5.out HB5.out.size B7.out⟩
end Go.Proofs.YtjkhgljlipljdaaDoor
