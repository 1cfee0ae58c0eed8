/-
  What each call of inst.Reach returns at the classes of near holes: that they tell a distance.
-/
import Derived.Test.YtjkhgljlipljdaaDoorEncI
namespace Go.Proofs.YtjkhgljlipljdaaDoor
open Go.RowKit
set_option linter.unusedVariables false
set_option linter.unusedSimpArgs false
/-- what inst's variables hold -/
structure GI (W : World) : Prop where
  a0 : W.cell? ⟨2, 0, none⟩ = some (.int .i64 0)
  a1 : W.cell? ⟨2, 1, none⟩ = some (.int .i64 1)
  b0 : W.cell? ⟨3, 0, none⟩ = some (.int .i64 0)
  b1 : W.cell? ⟨3, 1, none⟩ = some (.int .i64 31)
theorem GI.keep {W W' : World} (h : GI W) (hb : Below W.heap.size W W') : GI W' := ⟨cell_kept hb h.a0, cell_kept hb h.a1, cell_kept hb h.b0, cell_kept hb h.b1⟩
def loQ (n : Int) : Int := wrap64 (-2 ^ (n.toNat - 1))
def hiQ (n : Int) : Int := bits .xor .i64 (-1) (wrap64 (-2 ^ (n.toNat - 1)))
set_option maxHeartbeats 400000 in
theorem signed_any (n : Int) (h1 : 1 ≤ n) (h2 : n ≤ 64) (w : World) :
    Calls Tryd.prog 98 #[.int .i64 n] w fun e w' => e = .returned (.agg #[.int .i64 (loQ n), .int .i64 (hiQ n)]) ∧ Below w.heap.size w w' := by
  go_enter Tryd.func98, Tryd.ntmps98
  go_wp2_with fail
  refine bodyPost_ret (by simp [results, Tryd.results98, go_sem]; try rfl) rfl ?_
  exact ⟨rfl, below1 w _⟩
theorem unitOf_any (op : Int) (h : brOp op) (w : World) :
    Calls Tryd.prog 79 #[.int .i64 op, .bool false] w fun e w' => (∃ x : Int, x ≠ 0 ∧ e = .returned (.int .i64 x)) ∧ Below w.heap.size w w' := by
  rcases h with rfl | rfl | rfl | rfl | rfl
  all_goals
    go_enter Tryd.func79, Tryd.ntmps79
    go_wp2_with fail
    go_ret
    exact ⟨⟨_, by decide, rfl⟩, Below.refl _ _⟩
theorem gi_cells {W W' : World} (hb : Below W.heap.size W W') {c d : Nat} {v u v' u' : Value} (h : W.cell? ⟨c, 0, none⟩ = some v ∧ W.cell? ⟨c, 1, none⟩ = some u ∧ W.cell? ⟨d, 0, none⟩ = some v' ∧ W.cell? ⟨d, 1, none⟩ = some u') : W'.cell? ⟨c, 0, none⟩ = some v ∧ W'.cell? ⟨c, 1, none⟩ = some u ∧ W'.cell? ⟨d, 0, none⟩ = some v' ∧ W'.cell? ⟨d, 1, none⟩ = some u' :=
  ⟨cell_kept hb h.1, cell_kept hb h.2.1, cell_kept hb h.2.2.1, cell_kept hb h.2.2.2⟩
theorem gi_set {W : World} {B c d : Nat} {vs : List Value} {v u v' u' : Value} (hc : c ≠ B) (hd : d ≠ B) (h : W.cell? ⟨c, 0, none⟩ = some v ∧ W.cell? ⟨c, 1, none⟩ = some u ∧ W.cell? ⟨d, 0, none⟩ = some v' ∧ W.cell? ⟨d, 1, none⟩ = some u') : (W.setCells B 0 vs).cell? ⟨c, 0, none⟩ = some v ∧ (W.setCells B 0 vs).cell? ⟨c, 1, none⟩ = some u ∧ (W.setCells B 0 vs).cell? ⟨d, 0, none⟩ = some v' ∧ (W.setCells B 0 vs).cell? ⟨d, 1, none⟩ = some u' :=
  ⟨(World.cell?_setCells_out B vs 0 W _ (fun e => absurd e hc)).trans h.1, (World.cell?_setCells_out B vs 0 W _ (fun e => absurd e hc)).trans h.2.1, (World.cell?_setCells_out B vs 0 W _ (fun e => absurd e hd)).trans h.2.2.1, (World.cell?_setCells_out B vs 0 W _ (fun e => absurd e hd)).trans h.2.2.2⟩
theorem cell_lt {W : World} {b o : Nat} {v : Value} (h : W.cell? ⟨b, o, none⟩ = some v) : b < W.heap.size := by
  rcases Nat.lt_or_ge b W.heap.size with g | g
  · exact g
  · simp [World.cell?, Array.getElem?_eq_none g] at h
set_option maxRecDepth 20000 in
set_option maxHeartbeats 4000000 in
theorem iB_any (w : World) (hG : GI w) :
    Calls Tryd.prog 89 #[.int .i64 8] w fun e w' => e = .returned (.agg #[.int .i64 0, .int .i64 0, .int .i64 0, .int .i64 0, .int .i64 0, .int .i64 1, .int .i64 0, .int .i64 0, .int .i64 0, .int .i64 0, .int .i64 0, .int .i64 0, .int .i64 0, .int .i64 0, .int .i64 (loQ 26), .int .i64 (hiQ 26), .int .i64 0, .int .i64 0, .int .i64 0, .int .i64 0]) ∧ Below w.heap.size w w' := by
  have SG := Lib.hid (fun W => signed_any 26 (by decide) (by decide) W)
  generalize loQ 26 = lo at *
  generalize hiQ 26 = hi at *
  have HI0 := Lib.hid (show (Tryd.prog.info? 136).map (·.size) = some ([.int .i64 0, .int .i64 0, .int .i64 0, .int .i64 0, .int .i64 0, .int .i64 1, .int .i64 0, .int .i64 0, .int .i64 0, .int .i64 0, .int .i64 0, .int .i64 0, .int .i64 0, .int .i64 0, .int .i64 lo, .int .i64 hi, .int .i64 0, .int .i64 0, .int .i64 0, .int .i64 0] : List Value).length by kernel_rfl)
  have HO := Lib.hid (show ∀ v ∈ ([.int .i64 0, .int .i64 0, .int .i64 0, .int .i64 0, .int .i64 0, .int .i64 1, .int .i64 0, .int .i64 0, .int .i64 0, .int .i64 0, .int .i64 0, .int .i64 0, .int .i64 0, .int .i64 0, .int .i64 lo, .int .i64 hi, .int .i64 0, .int .i64 0, .int .i64 0, .int .i64 0] : List Value), v.oneCell' = true by
    simp only [List.forall_mem_cons]
    exact ⟨rfl, rfl, rfl, rfl, rfl, rfl, rfl, rfl, rfl, rfl, rfl, rfl, rfl, rfl, rfl, rfl, rfl, rfl, rfl, rfl, fun _ h => absurd h (by simp)⟩)
  have HB0 := Lib.hid (below1 w (.cells #[.int .i64 0, .int .i64 0, .int .i64 0, .int .i64 0, .int .i64 0, .int .i64 0, .int .i64 0, .int .i64 0, .int .i64 0, .int .i64 0, .int .i64 0, .int .i64 0, .int .i64 0, .int .i64 0, .int .i64 0, .int .i64 0, .int .i64 0, .int .i64 0, .int .i64 0, .int .i64 0] 136))
  have HT0 := Lib.hid (heap_alloc_new w (.cells #[.int .i64 0, .int .i64 0, .int .i64 0, .int .i64 0, .int .i64 0, .int .i64 0, .int .i64 0, .int .i64 0, .int .i64 0, .int .i64 0, .int .i64 0, .int .i64 0, .int .i64 0, .int .i64 0, .int .i64 0, .int .i64 0, .int .i64 0, .int .i64 0, .int .i64 0, .int .i64 0] 136))
  have hg1 := hG.keep HB0.out
  have S0 : (w.alloc (.cells #[.int .i64 0, .int .i64 0, .int .i64 0, .int .i64 0, .int .i64 0, .int .i64 0, .int .i64 0, .int .i64 0, .int .i64 0, .int .i64 0, .int .i64 0, .int .i64 0, .int .i64 0, .int .i64 0, .int .i64 0, .int .i64 0, .int .i64 0, .int .i64 0, .int .i64 0, .int .i64 0] 136)).cell? ⟨2, 0, none⟩ = some (.int .i64 0) ∧ (w.alloc (.cells #[.int .i64 0, .int .i64 0, .int .i64 0, .int .i64 0, .int .i64 0, .int .i64 0, .int .i64 0, .int .i64 0, .int .i64 0, .int .i64 0, .int .i64 0, .int .i64 0, .int .i64 0, .int .i64 0, .int .i64 0, .int .i64 0, .int .i64 0, .int .i64 0, .int .i64 0, .int .i64 0] 136)).cell? ⟨2, 1, none⟩ = some (.int .i64 1) ∧ (w.alloc (.cells #[.int .i64 0, .int .i64 0, .int .i64 0, .int .i64 0, .int .i64 0, .int .i64 0, .int .i64 0, .int .i64 0, .int .i64 0, .int .i64 0, .int .i64 0, .int .i64 0, .int .i64 0, .int .i64 0, .int .i64 0, .int .i64 0, .int .i64 0, .int .i64 0, .int .i64 0, .int .i64 0] 136)).cell? ⟨3, 0, none⟩ = some (.int .i64 0) ∧ (w.alloc (.cells #[.int .i64 0, .int .i64 0, .int .i64 0, .int .i64 0, .int .i64 0, .int .i64 0, .int .i64 0, .int .i64 0, .int .i64 0, .int .i64 0, .int .i64 0, .int .i64 0, .int .i64 0, .int .i64 0, .int .i64 0, .int .i64 0, .int .i64 0, .int .i64 0, .int .i64 0, .int .i64 0] 136)).cell? ⟨3, 1, none⟩ = some (.int .i64 31) := ⟨hg1.a0, hg1.a1, hg1.b0, hg1.b1⟩
  have n1 : Hid (2 ≠ w.heap.size) := Lib.hid (Nat.ne_of_lt (cell_lt hG.a0))
  have n2 : Hid (3 ≠ w.heap.size) := Lib.hid (Nat.ne_of_lt (cell_lt hG.b0))
  clear hg1 hG
  go_enter Tryd.func89, Tryd.ntmps89
  go_wp2_with fail
  generalize (w.alloc (.cells #[.int .i64 0, .int .i64 0, .int .i64 0, .int .i64 0, .int .i64 0, .int .i64 0, .int .i64 0, .int .i64 0, .int .i64 0, .int .i64 0, .int .i64 0, .int .i64 0, .int .i64 0, .int .i64 0, .int .i64 0, .int .i64 0, .int .i64 0, .int .i64 0, .int .i64 0, .int .i64 0] 136)) = W0 at *
  go_region_held3 (fun w' => w'.cell? ⟨2, 0, none⟩ = some (.int .i64 0) ∧ w'.cell? ⟨2, 1, none⟩ = some (.int .i64 1) ∧ w'.cell? ⟨3, 0, none⟩ = some (.int .i64 0) ∧ w'.cell? ⟨3, 1, none⟩ = some (.int .i64 31)) (first | with_reducible exact S0 | with_reducible exact S1 | with_reducible exact SS | exact SS | exact S0 | exact S1) ((go_at_call 98; (with_reducible refine (SG.out _).mono ?_); rintro e w1 ⟨rfl, hb1⟩; have hc1 : Below W0.heap.size W0 w1 := Below.thn (Below.refl _ W0).drew (Nat.le_refl _) hb1; have S1 := gi_cells hc1 S0; have HT1 := Lib.hid (kept_v hc1 HT0.out); have HB1 := Lib.hid (Below.thn HB0.out HB0.out.size hc1); have HTT := there_row HT1.out ([.int .i64 0, .int .i64 0, .int .i64 0, .int .i64 0, .int .i64 0, .int .i64 1, .int .i64 0, .int .i64 0, .int .i64 0, .int .i64 0, .int .i64 0, .int .i64 0, .int .i64 0, .int .i64 0, .int .i64 lo, .int .i64 hi, .int .i64 0, .int .i64 0, .int .i64 0, .int .i64 0] : List Value).length (by rfl); have HIs := HI0.out; have HOs := HO.out; have SS := gi_set (vs := [.int .i64 0, .int .i64 0, .int .i64 0, .int .i64 0, .int .i64 0, .int .i64 1, .int .i64 0, .int .i64 0, .int .i64 0, .int .i64 0, .int .i64 0, .int .i64 0, .int .i64 0, .int .i64 0, .int .i64 lo, .int .i64 hi, .int .i64 0, .int .i64 0, .int .i64 0, .int .i64 0]) n1.out n2.out S1; clear hb1 hc1))
  all_goals
    have HRG := Lib.hid (World.rangeAt_setCells_same w1 w.heap.size 0 [.int .i64 0, .int .i64 0, .int .i64 0, .int .i64 0, .int .i64 0, .int .i64 1, .int .i64 0, .int .i64 0, .int .i64 0, .int .i64 0, .int .i64 0, .int .i64 0, .int .i64 0, .int .i64 0, .int .i64 lo, .int .i64 hi, .int .i64 0, .int .i64 0, .int .i64 0, .int .i64 0] HTT)
    have HBZ := Lib.hid (HB1.out.trans (below_setCells w.heap.size [.int .i64 0, .int .i64 0, .int .i64 0, .int .i64 0, .int .i64 0, .int .i64 1, .int .i64 0, .int .i64 0, .int .i64 0, .int .i64 0, .int .i64 0, .int .i64 0, .int .i64 0, .int .i64 0, .int .i64 lo, .int .i64 hi, .int .i64 0, .int .i64 0, .int .i64 0, .int .i64 0] 0 w1))
    clear HTT HIs HOs SS
    generalize w1.setCells w.heap.size 0 [.int .i64 0, .int .i64 0, .int .i64 0, .int .i64 0, .int .i64 0, .int .i64 1, .int .i64 0, .int .i64 0, .int .i64 0, .int .i64 0, .int .i64 0, .int .i64 0, .int .i64 0, .int .i64 0, .int .i64 lo, .int .i64 hi, .int .i64 0, .int .i64 0, .int .i64 0, .int .i64 0] = WS at *
    go_wp2_with fail
    refine bodyPost_ret (results_mid (P := Tryd.prog) (p := 2) (ty := 136) (cs := [.int .i64 0, .int .i64 0, .int .i64 0, .int .i64 0, .int .i64 0, .int .i64 1, .int .i64 0, .int .i64 0, .int .i64 0, .int .i64 0, .int .i64 0, .int .i64 0, .int .i64 0, .int .i64 0, .int .i64 lo, .int .i64 hi, .int .i64 0, .int .i64 0, .int .i64 0, .int .i64 0]) Tryd.results89 _ _ w.heap.size (.array 10 134) rfl (by simpa using HRG.out) (by kernel_rfl) (by rfl) HI0.out) rfl ?_
    exact ⟨rfl, HBZ.out⟩
set_option maxRecDepth 20000 in
set_option maxHeartbeats 4000000 in
theorem iBCond_any (w : World) (hG : GI w) :
    Calls Tryd.prog 89 #[.int .i64 7] w fun e w' => e = .returned (.agg #[.int .i64 0, .int .i64 0, .int .i64 0, .int .i64 0, .int .i64 0, .int .i64 0, .int .i64 0, .int .i64 0, .int .i64 0, .int .i64 0, .int .i64 0, .int .i64 0, .int .i64 0, .int .i64 0, .int .i64 (loQ 19), .int .i64 (hiQ 19), .int .i64 0, .int .i64 15, .int .i64 0, .int .i64 0]) ∧ Below w.heap.size w w' := by
  have SG := Lib.hid (fun W => signed_any 19 (by decide) (by decide) W)
  generalize loQ 19 = lo at *
  generalize hiQ 19 = hi at *
  have HI0 := Lib.hid (show (Tryd.prog.info? 136).map (·.size) = some ([.int .i64 0, .int .i64 0, .int .i64 0, .int .i64 0, .int .i64 0, .int .i64 0, .int .i64 0, .int .i64 0, .int .i64 0, .int .i64 0, .int .i64 0, .int .i64 0, .int .i64 0, .int .i64 0, .int .i64 lo, .int .i64 hi, .int .i64 0, .int .i64 15, .int .i64 0, .int .i64 0] : List Value).length by kernel_rfl)
  have HO := Lib.hid (show ∀ v ∈ ([.int .i64 0, .int .i64 0, .int .i64 0, .int .i64 0, .int .i64 0, .int .i64 0, .int .i64 0, .int .i64 0, .int .i64 0, .int .i64 0, .int .i64 0, .int .i64 0, .int .i64 0, .int .i64 0, .int .i64 lo, .int .i64 hi, .int .i64 0, .int .i64 15, .int .i64 0, .int .i64 0] : List Value), v.oneCell' = true by
    simp only [List.forall_mem_cons]
    exact ⟨rfl, rfl, rfl, rfl, rfl, rfl, rfl, rfl, rfl, rfl, rfl, rfl, rfl, rfl, rfl, rfl, rfl, rfl, rfl, rfl, fun _ h => absurd h (by simp)⟩)
  have HB0 := Lib.hid (below1 w (.cells #[.int .i64 0, .int .i64 0, .int .i64 0, .int .i64 0, .int .i64 0, .int .i64 0, .int .i64 0, .int .i64 0, .int .i64 0, .int .i64 0, .int .i64 0, .int .i64 0, .int .i64 0, .int .i64 0, .int .i64 0, .int .i64 0, .int .i64 0, .int .i64 0, .int .i64 0, .int .i64 0] 136))
  have HT0 := Lib.hid (heap_alloc_new w (.cells #[.int .i64 0, .int .i64 0, .int .i64 0, .int .i64 0, .int .i64 0, .int .i64 0, .int .i64 0, .int .i64 0, .int .i64 0, .int .i64 0, .int .i64 0, .int .i64 0, .int .i64 0, .int .i64 0, .int .i64 0, .int .i64 0, .int .i64 0, .int .i64 0, .int .i64 0, .int .i64 0] 136))
  have hg1 := hG.keep HB0.out
  have S0 : (w.alloc (.cells #[.int .i64 0, .int .i64 0, .int .i64 0, .int .i64 0, .int .i64 0, .int .i64 0, .int .i64 0, .int .i64 0, .int .i64 0, .int .i64 0, .int .i64 0, .int .i64 0, .int .i64 0, .int .i64 0, .int .i64 0, .int .i64 0, .int .i64 0, .int .i64 0, .int .i64 0, .int .i64 0] 136)).cell? ⟨2, 0, none⟩ = some (.int .i64 0) ∧ (w.alloc (.cells #[.int .i64 0, .int .i64 0, .int .i64 0, .int .i64 0, .int .i64 0, .int .i64 0, .int .i64 0, .int .i64 0, .int .i64 0, .int .i64 0, .int .i64 0, .int .i64 0, .int .i64 0, .int .i64 0, .int .i64 0, .int .i64 0, .int .i64 0, .int .i64 0, .int .i64 0, .int .i64 0] 136)).cell? ⟨2, 1, none⟩ = some (.int .i64 1) ∧ (w.alloc (.cells #[.int .i64 0, .int .i64 0, .int .i64 0, .int .i64 0, .int .i64 0, .int .i64 0, .int .i64 0, .int .i64 0, .int .i64 0, .int .i64 0, .int .i64 0, .int .i64 0, .int .i64 0, .int .i64 0, .int .i64 0, .int .i64 0, .int .i64 0, .int .i64 0, .int .i64 0, .int .i64 0] 136)).cell? ⟨3, 0, none⟩ = some (.int .i64 0) ∧ (w.alloc (.cells #[.int .i64 0, .int .i64 0, .int .i64 0, .int .i64 0, .int .i64 0, .int .i64 0, .int .i64 0, .int .i64 0, .int .i64 0, .int .i64 0, .int .i64 0, .int .i64 0, .int .i64 0, .int .i64 0, .int .i64 0, .int .i64 0, .int .i64 0, .int .i64 0, .int .i64 0, .int .i64 0] 136)).cell? ⟨3, 1, none⟩ = some (.int .i64 31) := ⟨hg1.a0, hg1.a1, hg1.b0, hg1.b1⟩
  have n1 : Hid (2 ≠ w.heap.size) := Lib.hid (Nat.ne_of_lt (cell_lt hG.a0))
  have n2 : Hid (3 ≠ w.heap.size) := Lib.hid (Nat.ne_of_lt (cell_lt hG.b0))
  clear hg1 hG
  go_enter Tryd.func89, Tryd.ntmps89
  go_wp2_with fail
  generalize (w.alloc (.cells #[.int .i64 0, .int .i64 0, .int .i64 0, .int .i64 0, .int .i64 0, .int .i64 0, .int .i64 0, .int .i64 0, .int .i64 0, .int .i64 0, .int .i64 0, .int .i64 0, .int .i64 0, .int .i64 0, .int .i64 0, .int .i64 0, .int .i64 0, .int .i64 0, .int .i64 0, .int .i64 0] 136)) = W0 at *
  refine (SG.out _).mono ?_
  rintro e w1 ⟨rfl, hb1⟩
  have hc1 : Below W0.heap.size W0 w1 := hb1
  have S1 := gi_cells hc1 S0
  have HT1 := Lib.hid (kept_v hc1 HT0.out)
  have HB1 := Lib.hid (Below.thn HB0.out HB0.out.size hc1)
  have HTT := there_row HT1.out ([.int .i64 0, .int .i64 0, .int .i64 0, .int .i64 0, .int .i64 0, .int .i64 0, .int .i64 0, .int .i64 0, .int .i64 0, .int .i64 0, .int .i64 0, .int .i64 0, .int .i64 0, .int .i64 0, .int .i64 lo, .int .i64 hi, .int .i64 0, .int .i64 15, .int .i64 0, .int .i64 0] : List Value).length (by rfl)
  have HIs := HI0.out
  have HOs := HO.out
  have SS := gi_set (vs := [.int .i64 0, .int .i64 0, .int .i64 0, .int .i64 0, .int .i64 0, .int .i64 0, .int .i64 0, .int .i64 0, .int .i64 0, .int .i64 0, .int .i64 0, .int .i64 0, .int .i64 0, .int .i64 0, .int .i64 lo, .int .i64 hi, .int .i64 0, .int .i64 15, .int .i64 0, .int .i64 0]) n1.out n2.out S1
  clear hb1 hc1
  rename_i hk
  show _
  refine hk _ _ ?_
  refine wpList_step (fun K hK => ?_)
  go_simp
  refine hK _ _ ?_
  refine wpList_step (fun K2 hK2 => ?_)
  go_simp
  refine hK2 _ _ ?_
  refine wpList_store_mid rfl _ _ _ rfl w.heap.size 0 _ rfl rfl HTT HIs (all_oneCell_toArray HOs) ?_
  simp only [List.toList_toArray]
  · skip
    have HRG := Lib.hid (World.rangeAt_setCells_same w1 w.heap.size 0 [.int .i64 0, .int .i64 0, .int .i64 0, .int .i64 0, .int .i64 0, .int .i64 0, .int .i64 0, .int .i64 0, .int .i64 0, .int .i64 0, .int .i64 0, .int .i64 0, .int .i64 0, .int .i64 0, .int .i64 lo, .int .i64 hi, .int .i64 0, .int .i64 15, .int .i64 0, .int .i64 0] HTT)
    have HBZ := Lib.hid (HB1.out.trans (below_setCells w.heap.size [.int .i64 0, .int .i64 0, .int .i64 0, .int .i64 0, .int .i64 0, .int .i64 0, .int .i64 0, .int .i64 0, .int .i64 0, .int .i64 0, .int .i64 0, .int .i64 0, .int .i64 0, .int .i64 0, .int .i64 lo, .int .i64 hi, .int .i64 0, .int .i64 15, .int .i64 0, .int .i64 0] 0 w1))
    clear HTT HIs HOs SS
    generalize w1.setCells w.heap.size 0 [.int .i64 0, .int .i64 0, .int .i64 0, .int .i64 0, .int .i64 0, .int .i64 0, .int .i64 0, .int .i64 0, .int .i64 0, .int .i64 0, .int .i64 0, .int .i64 0, .int .i64 0, .int .i64 0, .int .i64 lo, .int .i64 hi, .int .i64 0, .int .i64 15, .int .i64 0, .int .i64 0] = WS at *
    go_wp2_with fail
    refine bodyPost_ret (results_mid (P := Tryd.prog) (p := 2) (ty := 136) (cs := [.int .i64 0, .int .i64 0, .int .i64 0, .int .i64 0, .int .i64 0, .int .i64 0, .int .i64 0, .int .i64 0, .int .i64 0, .int .i64 0, .int .i64 0, .int .i64 0, .int .i64 0, .int .i64 0, .int .i64 lo, .int .i64 hi, .int .i64 0, .int .i64 15, .int .i64 0, .int .i64 0]) Tryd.results89 _ _ w.heap.size (.array 10 134) rfl (by simpa using HRG.out) (by kernel_rfl) (by rfl) HI0.out) rfl ?_
    exact ⟨rfl, HBZ.out⟩
set_option maxRecDepth 20000 in
set_option maxHeartbeats 4000000 in
theorem iTb_any (w : World) (hG : GI w) :
    Calls Tryd.prog 89 #[.int .i64 10] w fun e w' => e = .returned (.agg #[.int .i64 0, .int .i64 0, .int .i64 0, .int .i64 0, .int .i64 0, .int .i64 0, .int .i64 0, .int .i64 31, .int .i64 0, .int .i64 0, .int .i64 0, .int .i64 0, .int .i64 0, .int .i64 0, .int .i64 (loQ 14), .int .i64 (hiQ 14), .int .i64 0, .int .i64 1, .int .i64 0, .int .i64 63]) ∧ Below w.heap.size w w' := by
  have SG := Lib.hid (fun W => signed_any 14 (by decide) (by decide) W)
  generalize loQ 14 = lo at *
  generalize hiQ 14 = hi at *
  have HI0 := Lib.hid (show (Tryd.prog.info? 136).map (·.size) = some ([.int .i64 0, .int .i64 0, .int .i64 0, .int .i64 0, .int .i64 0, .int .i64 0, .int .i64 0, .int .i64 31, .int .i64 0, .int .i64 0, .int .i64 0, .int .i64 0, .int .i64 0, .int .i64 0, .int .i64 lo, .int .i64 hi, .int .i64 0, .int .i64 1, .int .i64 0, .int .i64 63] : List Value).length by kernel_rfl)
  have HO := Lib.hid (show ∀ v ∈ ([.int .i64 0, .int .i64 0, .int .i64 0, .int .i64 0, .int .i64 0, .int .i64 0, .int .i64 0, .int .i64 31, .int .i64 0, .int .i64 0, .int .i64 0, .int .i64 0, .int .i64 0, .int .i64 0, .int .i64 lo, .int .i64 hi, .int .i64 0, .int .i64 1, .int .i64 0, .int .i64 63] : List Value), v.oneCell' = true by
    simp only [List.forall_mem_cons]
    exact ⟨rfl, rfl, rfl, rfl, rfl, rfl, rfl, rfl, rfl, rfl, rfl, rfl, rfl, rfl, rfl, rfl, rfl, rfl, rfl, rfl, fun _ h => absurd h (by simp)⟩)
  have HB0 := Lib.hid (below1 w (.cells #[.int .i64 0, .int .i64 0, .int .i64 0, .int .i64 0, .int .i64 0, .int .i64 0, .int .i64 0, .int .i64 0, .int .i64 0, .int .i64 0, .int .i64 0, .int .i64 0, .int .i64 0, .int .i64 0, .int .i64 0, .int .i64 0, .int .i64 0, .int .i64 0, .int .i64 0, .int .i64 0] 136))
  have HT0 := Lib.hid (heap_alloc_new w (.cells #[.int .i64 0, .int .i64 0, .int .i64 0, .int .i64 0, .int .i64 0, .int .i64 0, .int .i64 0, .int .i64 0, .int .i64 0, .int .i64 0, .int .i64 0, .int .i64 0, .int .i64 0, .int .i64 0, .int .i64 0, .int .i64 0, .int .i64 0, .int .i64 0, .int .i64 0, .int .i64 0] 136))
  have hg1 := hG.keep HB0.out
  have S0 : (w.alloc (.cells #[.int .i64 0, .int .i64 0, .int .i64 0, .int .i64 0, .int .i64 0, .int .i64 0, .int .i64 0, .int .i64 0, .int .i64 0, .int .i64 0, .int .i64 0, .int .i64 0, .int .i64 0, .int .i64 0, .int .i64 0, .int .i64 0, .int .i64 0, .int .i64 0, .int .i64 0, .int .i64 0] 136)).cell? ⟨2, 0, none⟩ = some (.int .i64 0) ∧ (w.alloc (.cells #[.int .i64 0, .int .i64 0, .int .i64 0, .int .i64 0, .int .i64 0, .int .i64 0, .int .i64 0, .int .i64 0, .int .i64 0, .int .i64 0, .int .i64 0, .int .i64 0, .int .i64 0, .int .i64 0, .int .i64 0, .int .i64 0, .int .i64 0, .int .i64 0, .int .i64 0, .int .i64 0] 136)).cell? ⟨2, 1, none⟩ = some (.int .i64 1) ∧ (w.alloc (.cells #[.int .i64 0, .int .i64 0, .int .i64 0, .int .i64 0, .int .i64 0, .int .i64 0, .int .i64 0, .int .i64 0, .int .i64 0, .int .i64 0, .int .i64 0, .int .i64 0, .int .i64 0, .int .i64 0, .int .i64 0, .int .i64 0, .int .i64 0, .int .i64 0, .int .i64 0, .int .i64 0] 136)).cell? ⟨3, 0, none⟩ = some (.int .i64 0) ∧ (w.alloc (.cells #[.int .i64 0, .int .i64 0, .int .i64 0, .int .i64 0, .int .i64 0, .int .i64 0, .int .i64 0, .int .i64 0, .int .i64 0, .int .i64 0, .int .i64 0, .int .i64 0, .int .i64 0, .int .i64 0, .int .i64 0, .int .i64 0, .int .i64 0, .int .i64 0, .int .i64 0, .int .i64 0] 136)).cell? ⟨3, 1, none⟩ = some (.int .i64 31) := ⟨hg1.a0, hg1.a1, hg1.b0, hg1.b1⟩
  have n1 : Hid (2 ≠ w.heap.size) := Lib.hid (Nat.ne_of_lt (cell_lt hG.a0))
  have n2 : Hid (3 ≠ w.heap.size) := Lib.hid (Nat.ne_of_lt (cell_lt hG.b0))
  clear hg1 hG
  go_enter Tryd.func89, Tryd.ntmps89
  go_wp2_with fail
  generalize (w.alloc (.cells #[.int .i64 0, .int .i64 0, .int .i64 0, .int .i64 0, .int .i64 0, .int .i64 0, .int .i64 0, .int .i64 0, .int .i64 0, .int .i64 0, .int .i64 0, .int .i64 0, .int .i64 0, .int .i64 0, .int .i64 0, .int .i64 0, .int .i64 0, .int .i64 0, .int .i64 0, .int .i64 0] 136)) = W0 at *
  go_region_held3 (fun w' => w'.cell? ⟨2, 0, none⟩ = some (.int .i64 0) ∧ w'.cell? ⟨2, 1, none⟩ = some (.int .i64 1) ∧ w'.cell? ⟨3, 0, none⟩ = some (.int .i64 0) ∧ w'.cell? ⟨3, 1, none⟩ = some (.int .i64 31)) (first | with_reducible exact S0 | with_reducible exact S1 | with_reducible exact SS | exact SS | exact S0 | exact S1) ((go_at_call 98; (with_reducible refine (SG.out _).mono ?_); rintro e w1 ⟨rfl, hb1⟩; have hc1 : Below W0.heap.size W0 w1 := Below.thn (Below.refl _ W0).drew (Nat.le_refl _) hb1; have S1 := gi_cells hc1 S0; have HT1 := Lib.hid (kept_v hc1 HT0.out); have HB1 := Lib.hid (Below.thn HB0.out HB0.out.size hc1); have HTT := there_row HT1.out ([.int .i64 0, .int .i64 0, .int .i64 0, .int .i64 0, .int .i64 0, .int .i64 0, .int .i64 0, .int .i64 31, .int .i64 0, .int .i64 0, .int .i64 0, .int .i64 0, .int .i64 0, .int .i64 0, .int .i64 lo, .int .i64 hi, .int .i64 0, .int .i64 1, .int .i64 0, .int .i64 63] : List Value).length (by rfl); have HIs := HI0.out; have HOs := HO.out; have SS := gi_set (vs := [.int .i64 0, .int .i64 0, .int .i64 0, .int .i64 0, .int .i64 0, .int .i64 0, .int .i64 0, .int .i64 31, .int .i64 0, .int .i64 0, .int .i64 0, .int .i64 0, .int .i64 0, .int .i64 0, .int .i64 lo, .int .i64 hi, .int .i64 0, .int .i64 1, .int .i64 0, .int .i64 63]) n1.out n2.out S1; clear hb1 hc1))
  all_goals
    have HRG := Lib.hid (World.rangeAt_setCells_same w1 w.heap.size 0 [.int .i64 0, .int .i64 0, .int .i64 0, .int .i64 0, .int .i64 0, .int .i64 0, .int .i64 0, .int .i64 31, .int .i64 0, .int .i64 0, .int .i64 0, .int .i64 0, .int .i64 0, .int .i64 0, .int .i64 lo, .int .i64 hi, .int .i64 0, .int .i64 1, .int .i64 0, .int .i64 63] HTT)
    have HBZ := Lib.hid (HB1.out.trans (below_setCells w.heap.size [.int .i64 0, .int .i64 0, .int .i64 0, .int .i64 0, .int .i64 0, .int .i64 0, .int .i64 0, .int .i64 31, .int .i64 0, .int .i64 0, .int .i64 0, .int .i64 0, .int .i64 0, .int .i64 0, .int .i64 lo, .int .i64 hi, .int .i64 0, .int .i64 1, .int .i64 0, .int .i64 63] 0 w1))
    clear HTT HIs HOs SS
    generalize w1.setCells w.heap.size 0 [.int .i64 0, .int .i64 0, .int .i64 0, .int .i64 0, .int .i64 0, .int .i64 0, .int .i64 0, .int .i64 31, .int .i64 0, .int .i64 0, .int .i64 0, .int .i64 0, .int .i64 0, .int .i64 0, .int .i64 lo, .int .i64 hi, .int .i64 0, .int .i64 1, .int .i64 0, .int .i64 63] = WS at *
    go_wp2_with fail
    refine bodyPost_ret (results_mid (P := Tryd.prog) (p := 2) (ty := 136) (cs := [.int .i64 0, .int .i64 0, .int .i64 0, .int .i64 0, .int .i64 0, .int .i64 0, .int .i64 0, .int .i64 31, .int .i64 0, .int .i64 0, .int .i64 0, .int .i64 0, .int .i64 0, .int .i64 0, .int .i64 lo, .int .i64 hi, .int .i64 0, .int .i64 1, .int .i64 0, .int .i64 63]) Tryd.results89 _ _ w.heap.size (.array 10 134) rfl (by simpa using HRG.out) (by kernel_rfl) (by rfl) HI0.out) rfl ?_
    exact ⟨rfl, HBZ.out⟩
set_option maxRecDepth 20000 in
set_option maxHeartbeats 4000000 in
theorem iLdLit_any (w : World) (hG : GI w) :
    Calls Tryd.prog 90 #[.int .i64 18] w fun e w' => e = .returned (.agg #[.int .i64 0, .int .i64 0, .int .i64 0, .int .i64 0, .int .i64 0, .int .i64 0, .int .i64 0, .int .i64 31, .int .i64 0, .int .i64 0, .int .i64 0, .int .i64 0, .int .i64 0, .int .i64 0, .int .i64 (loQ 19), .int .i64 (hiQ 19), .int .i64 0, .int .i64 3, .int .i64 0, .int .i64 0]) ∧ Below w.heap.size w w' := by
  have SG := Lib.hid (fun W => signed_any 19 (by decide) (by decide) W)
  generalize loQ 19 = lo at *
  generalize hiQ 19 = hi at *
  have HI0 := Lib.hid (show (Tryd.prog.info? 136).map (·.size) = some ([.int .i64 0, .int .i64 0, .int .i64 0, .int .i64 0, .int .i64 0, .int .i64 0, .int .i64 0, .int .i64 31, .int .i64 0, .int .i64 0, .int .i64 0, .int .i64 0, .int .i64 0, .int .i64 0, .int .i64 lo, .int .i64 hi, .int .i64 0, .int .i64 3, .int .i64 0, .int .i64 0] : List Value).length by kernel_rfl)
  have HO := Lib.hid (show ∀ v ∈ ([.int .i64 0, .int .i64 0, .int .i64 0, .int .i64 0, .int .i64 0, .int .i64 0, .int .i64 0, .int .i64 31, .int .i64 0, .int .i64 0, .int .i64 0, .int .i64 0, .int .i64 0, .int .i64 0, .int .i64 lo, .int .i64 hi, .int .i64 0, .int .i64 3, .int .i64 0, .int .i64 0] : List Value), v.oneCell' = true by
    simp only [List.forall_mem_cons]
    exact ⟨rfl, rfl, rfl, rfl, rfl, rfl, rfl, rfl, rfl, rfl, rfl, rfl, rfl, rfl, rfl, rfl, rfl, rfl, rfl, rfl, fun _ h => absurd h (by simp)⟩)
  have HB0 := Lib.hid (below1 w (.cells #[.int .i64 0, .int .i64 0, .int .i64 0, .int .i64 0, .int .i64 0, .int .i64 0, .int .i64 0, .int .i64 0, .int .i64 0, .int .i64 0, .int .i64 0, .int .i64 0, .int .i64 0, .int .i64 0, .int .i64 0, .int .i64 0, .int .i64 0, .int .i64 0, .int .i64 0, .int .i64 0] 136))
  have HT0 := Lib.hid (heap_alloc_new w (.cells #[.int .i64 0, .int .i64 0, .int .i64 0, .int .i64 0, .int .i64 0, .int .i64 0, .int .i64 0, .int .i64 0, .int .i64 0, .int .i64 0, .int .i64 0, .int .i64 0, .int .i64 0, .int .i64 0, .int .i64 0, .int .i64 0, .int .i64 0, .int .i64 0, .int .i64 0, .int .i64 0] 136))
  have hg1 := hG.keep HB0.out
  have S0 : (w.alloc (.cells #[.int .i64 0, .int .i64 0, .int .i64 0, .int .i64 0, .int .i64 0, .int .i64 0, .int .i64 0, .int .i64 0, .int .i64 0, .int .i64 0, .int .i64 0, .int .i64 0, .int .i64 0, .int .i64 0, .int .i64 0, .int .i64 0, .int .i64 0, .int .i64 0, .int .i64 0, .int .i64 0] 136)).cell? ⟨2, 0, none⟩ = some (.int .i64 0) ∧ (w.alloc (.cells #[.int .i64 0, .int .i64 0, .int .i64 0, .int .i64 0, .int .i64 0, .int .i64 0, .int .i64 0, .int .i64 0, .int .i64 0, .int .i64 0, .int .i64 0, .int .i64 0, .int .i64 0, .int .i64 0, .int .i64 0, .int .i64 0, .int .i64 0, .int .i64 0, .int .i64 0, .int .i64 0] 136)).cell? ⟨2, 1, none⟩ = some (.int .i64 1) ∧ (w.alloc (.cells #[.int .i64 0, .int .i64 0, .int .i64 0, .int .i64 0, .int .i64 0, .int .i64 0, .int .i64 0, .int .i64 0, .int .i64 0, .int .i64 0, .int .i64 0, .int .i64 0, .int .i64 0, .int .i64 0, .int .i64 0, .int .i64 0, .int .i64 0, .int .i64 0, .int .i64 0, .int .i64 0] 136)).cell? ⟨3, 0, none⟩ = some (.int .i64 0) ∧ (w.alloc (.cells #[.int .i64 0, .int .i64 0, .int .i64 0, .int .i64 0, .int .i64 0, .int .i64 0, .int .i64 0, .int .i64 0, .int .i64 0, .int .i64 0, .int .i64 0, .int .i64 0, .int .i64 0, .int .i64 0, .int .i64 0, .int .i64 0, .int .i64 0, .int .i64 0, .int .i64 0, .int .i64 0] 136)).cell? ⟨3, 1, none⟩ = some (.int .i64 31) := ⟨hg1.a0, hg1.a1, hg1.b0, hg1.b1⟩
  have n1 : Hid (2 ≠ w.heap.size) := Lib.hid (Nat.ne_of_lt (cell_lt hG.a0))
  have n2 : Hid (3 ≠ w.heap.size) := Lib.hid (Nat.ne_of_lt (cell_lt hG.b0))
  clear hg1 hG
  go_enter Tryd.func90, Tryd.ntmps90
  go_wp2_with fail
  generalize (w.alloc (.cells #[.int .i64 0, .int .i64 0, .int .i64 0, .int .i64 0, .int .i64 0, .int .i64 0, .int .i64 0, .int .i64 0, .int .i64 0, .int .i64 0, .int .i64 0, .int .i64 0, .int .i64 0, .int .i64 0, .int .i64 0, .int .i64 0, .int .i64 0, .int .i64 0, .int .i64 0, .int .i64 0] 136)) = W0 at *
  go_region_held3 (fun w' => w'.cell? ⟨2, 0, none⟩ = some (.int .i64 0) ∧ w'.cell? ⟨2, 1, none⟩ = some (.int .i64 1) ∧ w'.cell? ⟨3, 0, none⟩ = some (.int .i64 0) ∧ w'.cell? ⟨3, 1, none⟩ = some (.int .i64 31)) (first | with_reducible exact S0 | with_reducible exact S1 | with_reducible exact SS | exact SS | exact S0 | exact S1) ((go_at_call 98; (with_reducible refine (SG.out _).mono ?_); rintro e w1 ⟨rfl, hb1⟩; have hc1 : Below W0.heap.size W0 w1 := Below.thn (Below.refl _ W0).drew (Nat.le_refl _) hb1; have S1 := gi_cells hc1 S0; have HT1 := Lib.hid (kept_v hc1 HT0.out); have HB1 := Lib.hid (Below.thn HB0.out HB0.out.size hc1); have HTT := there_row HT1.out ([.int .i64 0, .int .i64 0, .int .i64 0, .int .i64 0, .int .i64 0, .int .i64 0, .int .i64 0, .int .i64 31, .int .i64 0, .int .i64 0, .int .i64 0, .int .i64 0, .int .i64 0, .int .i64 0, .int .i64 lo, .int .i64 hi, .int .i64 0, .int .i64 3, .int .i64 0, .int .i64 0] : List Value).length (by rfl); have HIs := HI0.out; have HOs := HO.out; have SS := gi_set (vs := [.int .i64 0, .int .i64 0, .int .i64 0, .int .i64 0, .int .i64 0, .int .i64 0, .int .i64 0, .int .i64 31, .int .i64 0, .int .i64 0, .int .i64 0, .int .i64 0, .int .i64 0, .int .i64 0, .int .i64 lo, .int .i64 hi, .int .i64 0, .int .i64 3, .int .i64 0, .int .i64 0]) n1.out n2.out S1; clear hb1 hc1))
  all_goals
    have HRG := Lib.hid (World.rangeAt_setCells_same w1 w.heap.size 0 [.int .i64 0, .int .i64 0, .int .i64 0, .int .i64 0, .int .i64 0, .int .i64 0, .int .i64 0, .int .i64 31, .int .i64 0, .int .i64 0, .int .i64 0, .int .i64 0, .int .i64 0, .int .i64 0, .int .i64 lo, .int .i64 hi, .int .i64 0, .int .i64 3, .int .i64 0, .int .i64 0] HTT)
    have HBZ := Lib.hid (HB1.out.trans (below_setCells w.heap.size [.int .i64 0, .int .i64 0, .int .i64 0, .int .i64 0, .int .i64 0, .int .i64 0, .int .i64 0, .int .i64 31, .int .i64 0, .int .i64 0, .int .i64 0, .int .i64 0, .int .i64 0, .int .i64 0, .int .i64 lo, .int .i64 hi, .int .i64 0, .int .i64 3, .int .i64 0, .int .i64 0] 0 w1))
    clear HTT HIs HOs SS
    generalize w1.setCells w.heap.size 0 [.int .i64 0, .int .i64 0, .int .i64 0, .int .i64 0, .int .i64 0, .int .i64 0, .int .i64 0, .int .i64 31, .int .i64 0, .int .i64 0, .int .i64 0, .int .i64 0, .int .i64 0, .int .i64 0, .int .i64 lo, .int .i64 hi, .int .i64 0, .int .i64 3, .int .i64 0, .int .i64 0] = WS at *
    go_wp2_with fail
    refine bodyPost_ret (results_mid (P := Tryd.prog) (p := 2) (ty := 136) (cs := [.int .i64 0, .int .i64 0, .int .i64 0, .int .i64 0, .int .i64 0, .int .i64 0, .int .i64 0, .int .i64 31, .int .i64 0, .int .i64 0, .int .i64 0, .int .i64 0, .int .i64 0, .int .i64 0, .int .i64 lo, .int .i64 hi, .int .i64 0, .int .i64 3, .int .i64 0, .int .i64 0]) Tryd.results90 _ _ w.heap.size (.array 10 134) rfl (by simpa using HRG.out) (by kernel_rfl) (by rfl) HI0.out) rfl ?_
    exact ⟨rfl, HBZ.out⟩
set_option maxRecDepth 20000 in
set_option maxHeartbeats 4000000 in
theorem iAdr_any (w : World) (hG : GI w) :
    Calls Tryd.prog 88 #[.int .i64 1] w fun e w' => e = .returned (.agg #[.int .i64 0, .int .i64 0, .int .i64 0, .int .i64 1, .int .i64 0, .int .i64 0, .int .i64 0, .int .i64 31, .int .i64 0, .int .i64 0, .int .i64 0, .int .i64 0, .int .i64 0, .int .i64 0, .int .i64 (loQ 21), .int .i64 (hiQ 21), .int .i64 0, .int .i64 0, .int .i64 0, .int .i64 0]) ∧ Below w.heap.size w w' := by
  have SG := Lib.hid (fun W => signed_any 21 (by decide) (by decide) W)
  generalize loQ 21 = lo at *
  generalize hiQ 21 = hi at *
  have HI0 := Lib.hid (show (Tryd.prog.info? 136).map (·.size) = some ([.int .i64 0, .int .i64 0, .int .i64 0, .int .i64 1, .int .i64 0, .int .i64 0, .int .i64 0, .int .i64 31, .int .i64 0, .int .i64 0, .int .i64 0, .int .i64 0, .int .i64 0, .int .i64 0, .int .i64 lo, .int .i64 hi, .int .i64 0, .int .i64 0, .int .i64 0, .int .i64 0] : List Value).length by kernel_rfl)
  have HO := Lib.hid (show ∀ v ∈ ([.int .i64 0, .int .i64 0, .int .i64 0, .int .i64 1, .int .i64 0, .int .i64 0, .int .i64 0, .int .i64 31, .int .i64 0, .int .i64 0, .int .i64 0, .int .i64 0, .int .i64 0, .int .i64 0, .int .i64 lo, .int .i64 hi, .int .i64 0, .int .i64 0, .int .i64 0, .int .i64 0] : List Value), v.oneCell' = true by
    simp only [List.forall_mem_cons]
    exact ⟨rfl, rfl, rfl, rfl, rfl, rfl, rfl, rfl, rfl, rfl, rfl, rfl, rfl, rfl, rfl, rfl, rfl, rfl, rfl, rfl, fun _ h => absurd h (by simp)⟩)
  have HB0 := Lib.hid (below1 w (.cells #[.int .i64 0, .int .i64 0, .int .i64 0, .int .i64 0, .int .i64 0, .int .i64 0, .int .i64 0, .int .i64 0, .int .i64 0, .int .i64 0, .int .i64 0, .int .i64 0, .int .i64 0, .int .i64 0, .int .i64 0, .int .i64 0, .int .i64 0, .int .i64 0, .int .i64 0, .int .i64 0] 136))
  have HT0 := Lib.hid (heap_alloc_new w (.cells #[.int .i64 0, .int .i64 0, .int .i64 0, .int .i64 0, .int .i64 0, .int .i64 0, .int .i64 0, .int .i64 0, .int .i64 0, .int .i64 0, .int .i64 0, .int .i64 0, .int .i64 0, .int .i64 0, .int .i64 0, .int .i64 0, .int .i64 0, .int .i64 0, .int .i64 0, .int .i64 0] 136))
  have hg1 := hG.keep HB0.out
  have S0 : (w.alloc (.cells #[.int .i64 0, .int .i64 0, .int .i64 0, .int .i64 0, .int .i64 0, .int .i64 0, .int .i64 0, .int .i64 0, .int .i64 0, .int .i64 0, .int .i64 0, .int .i64 0, .int .i64 0, .int .i64 0, .int .i64 0, .int .i64 0, .int .i64 0, .int .i64 0, .int .i64 0, .int .i64 0] 136)).cell? ⟨2, 0, none⟩ = some (.int .i64 0) ∧ (w.alloc (.cells #[.int .i64 0, .int .i64 0, .int .i64 0, .int .i64 0, .int .i64 0, .int .i64 0, .int .i64 0, .int .i64 0, .int .i64 0, .int .i64 0, .int .i64 0, .int .i64 0, .int .i64 0, .int .i64 0, .int .i64 0, .int .i64 0, .int .i64 0, .int .i64 0, .int .i64 0, .int .i64 0] 136)).cell? ⟨2, 1, none⟩ = some (.int .i64 1) ∧ (w.alloc (.cells #[.int .i64 0, .int .i64 0, .int .i64 0, .int .i64 0, .int .i64 0, .int .i64 0, .int .i64 0, .int .i64 0, .int .i64 0, .int .i64 0, .int .i64 0, .int .i64 0, .int .i64 0, .int .i64 0, .int .i64 0, .int .i64 0, .int .i64 0, .int .i64 0, .int .i64 0, .int .i64 0] 136)).cell? ⟨3, 0, none⟩ = some (.int .i64 0) ∧ (w.alloc (.cells #[.int .i64 0, .int .i64 0, .int .i64 0, .int .i64 0, .int .i64 0, .int .i64 0, .int .i64 0, .int .i64 0, .int .i64 0, .int .i64 0, .int .i64 0, .int .i64 0, .int .i64 0, .int .i64 0, .int .i64 0, .int .i64 0, .int .i64 0, .int .i64 0, .int .i64 0, .int .i64 0] 136)).cell? ⟨3, 1, none⟩ = some (.int .i64 31) := ⟨hg1.a0, hg1.a1, hg1.b0, hg1.b1⟩
  have n1 : Hid (2 ≠ w.heap.size) := Lib.hid (Nat.ne_of_lt (cell_lt hG.a0))
  have n2 : Hid (3 ≠ w.heap.size) := Lib.hid (Nat.ne_of_lt (cell_lt hG.b0))
  clear hg1 hG
  go_enter Tryd.func88, Tryd.ntmps88
  go_wp2_with fail
  generalize (w.alloc (.cells #[.int .i64 0, .int .i64 0, .int .i64 0, .int .i64 0, .int .i64 0, .int .i64 0, .int .i64 0, .int .i64 0, .int .i64 0, .int .i64 0, .int .i64 0, .int .i64 0, .int .i64 0, .int .i64 0, .int .i64 0, .int .i64 0, .int .i64 0, .int .i64 0, .int .i64 0, .int .i64 0] 136)) = W0 at *
  go_region_held3 (fun w' => w'.cell? ⟨2, 0, none⟩ = some (.int .i64 0) ∧ w'.cell? ⟨2, 1, none⟩ = some (.int .i64 1) ∧ w'.cell? ⟨3, 0, none⟩ = some (.int .i64 0) ∧ w'.cell? ⟨3, 1, none⟩ = some (.int .i64 31)) (first | with_reducible exact S0 | with_reducible exact S1 | with_reducible exact SS | exact SS | exact S0 | exact S1) ((go_at_call 98; (with_reducible refine (SG.out _).mono ?_); rintro e w1 ⟨rfl, hb1⟩; have hc1 : Below W0.heap.size W0 w1 := Below.thn (Below.refl _ W0).drew (Nat.le_refl _) hb1; have S1 := gi_cells hc1 S0; have HT1 := Lib.hid (kept_v hc1 HT0.out); have HB1 := Lib.hid (Below.thn HB0.out HB0.out.size hc1); have HTT := there_row HT1.out ([.int .i64 0, .int .i64 0, .int .i64 0, .int .i64 1, .int .i64 0, .int .i64 0, .int .i64 0, .int .i64 31, .int .i64 0, .int .i64 0, .int .i64 0, .int .i64 0, .int .i64 0, .int .i64 0, .int .i64 lo, .int .i64 hi, .int .i64 0, .int .i64 0, .int .i64 0, .int .i64 0] : List Value).length (by rfl); have HIs := HI0.out; have HOs := HO.out; have SS := gi_set (vs := [.int .i64 0, .int .i64 0, .int .i64 0, .int .i64 1, .int .i64 0, .int .i64 0, .int .i64 0, .int .i64 31, .int .i64 0, .int .i64 0, .int .i64 0, .int .i64 0, .int .i64 0, .int .i64 0, .int .i64 lo, .int .i64 hi, .int .i64 0, .int .i64 0, .int .i64 0, .int .i64 0]) n1.out n2.out S1; clear hb1 hc1))
  all_goals
    have HRG := Lib.hid (World.rangeAt_setCells_same w1 w.heap.size 0 [.int .i64 0, .int .i64 0, .int .i64 0, .int .i64 1, .int .i64 0, .int .i64 0, .int .i64 0, .int .i64 31, .int .i64 0, .int .i64 0, .int .i64 0, .int .i64 0, .int .i64 0, .int .i64 0, .int .i64 lo, .int .i64 hi, .int .i64 0, .int .i64 0, .int .i64 0, .int .i64 0] HTT)
    have HBZ := Lib.hid (HB1.out.trans (below_setCells w.heap.size [.int .i64 0, .int .i64 0, .int .i64 0, .int .i64 1, .int .i64 0, .int .i64 0, .int .i64 0, .int .i64 31, .int .i64 0, .int .i64 0, .int .i64 0, .int .i64 0, .int .i64 0, .int .i64 0, .int .i64 lo, .int .i64 hi, .int .i64 0, .int .i64 0, .int .i64 0, .int .i64 0] 0 w1))
    clear HTT HIs HOs SS
    generalize w1.setCells w.heap.size 0 [.int .i64 0, .int .i64 0, .int .i64 0, .int .i64 1, .int .i64 0, .int .i64 0, .int .i64 0, .int .i64 31, .int .i64 0, .int .i64 0, .int .i64 0, .int .i64 0, .int .i64 0, .int .i64 0, .int .i64 lo, .int .i64 hi, .int .i64 0, .int .i64 0, .int .i64 0, .int .i64 0] = WS at *
    go_wp2_with fail
    refine bodyPost_ret (results_mid (P := Tryd.prog) (p := 2) (ty := 136) (cs := [.int .i64 0, .int .i64 0, .int .i64 0, .int .i64 1, .int .i64 0, .int .i64 0, .int .i64 0, .int .i64 31, .int .i64 0, .int .i64 0, .int .i64 0, .int .i64 0, .int .i64 0, .int .i64 0, .int .i64 lo, .int .i64 hi, .int .i64 0, .int .i64 0, .int .i64 0, .int .i64 0]) Tryd.results88 _ _ w.heap.size (.array 10 134) rfl (by simpa using HRG.out) (by kernel_rfl) (by rfl) HI0.out) rfl ?_
    exact ⟨rfl, HBZ.out⟩
end Go.Proofs.YtjkhgljlipljdaaDoor
