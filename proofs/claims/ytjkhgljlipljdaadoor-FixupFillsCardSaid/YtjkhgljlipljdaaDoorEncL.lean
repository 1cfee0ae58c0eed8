/-
  What each call of inst.classOf, inst.Reach returns at the classes of near holes.
-/
import Derived.Test.YtjkhgljlipljdaaDoorEncJ
namespace Go.Proofs.YtjkhgljlipljdaaDoor
open Go.RowKit
set_option linter.unusedVariables false
set_option linter.unusedSimpArgs false
set_option maxRecDepth 20000 in
set_option maxHeartbeats 1000000 in
theorem class_br (op : Int) (h1 : 6 < op) (h2 : op ≤ 17) (L : List Value) (hl : 20 = L.length) (ho : ∀ v ∈ L, v.oneCell' = true) (w : World)
    (hc : ∀ W, Below w.heap.size w W → Calls Tryd.prog 89 #[.int .i64 op] W fun e w' => e = .returned (.agg L.toArray) ∧ Below W.heap.size W w') :
    Calls Tryd.prog 80 #[.int .i64 op] w fun e w' => e = .returned (.agg L.toArray) ∧ Below w.heap.size w w' := by
  have CO := Lib.hid hc
  have HL := Lib.hid hl
  have HO := Lib.hid ho
  have HI := Lib.hid (show (Tryd.prog.info? 136).map (·.size) = some L.length by rw [← hl]; kernel_rfl)
  have HB0 := Lib.hid (below1 w (.cells #[.int .i64 0, .int .i64 0, .int .i64 0, .int .i64 0, .int .i64 0, .int .i64 0, .int .i64 0, .int .i64 0, .int .i64 0, .int .i64 0, .int .i64 0, .int .i64 0, .int .i64 0, .int .i64 0, .int .i64 0, .int .i64 0, .int .i64 0, .int .i64 0, .int .i64 0, .int .i64 0] 136))
  have HT0 := Lib.hid (heap_alloc_new w (.cells #[.int .i64 0, .int .i64 0, .int .i64 0, .int .i64 0, .int .i64 0, .int .i64 0, .int .i64 0, .int .i64 0, .int .i64 0, .int .i64 0, .int .i64 0, .int .i64 0, .int .i64 0, .int .i64 0, .int .i64 0, .int .i64 0, .int .i64 0, .int .i64 0, .int .i64 0, .int .i64 0] 136))
  clear hl ho hc
  go_enter Tryd.func80, Tryd.ntmps80
  go_wp2_with fail
  refine (CO.out _ HB0.out).mono ?_
  rintro e w1 ⟨rfl, hb⟩
  have ht := kept_v hb HT0.out
  have HB1 := Lib.hid (HB0.out.trans (hb.mono HB0.out.size))
  obtain ⟨WS, hst, hrg, hbs⟩ := store_row (P := Tryd.prog) ht L HL.out HO.out
  have HR := Lib.hid hrg
  have HBS := Lib.hid (HB1.out.trans hbs)
  have hll : L.length = 20 := HL.out.symm
  clear hb HT0 HB0 ht hrg hbs HB1
  go_wp2_with fail
  refine bodyPost_ret (results_mid (P := Tryd.prog) (p := 2) (ty := 136) (cs := L) Tryd.results80 _ _ w.heap.size (.array 10 134) rfl (by simpa using HR.out) (by kernel_rfl) (by rfl) HI.out) rfl ?_
  exact ⟨rfl, HBS.out⟩
set_option maxRecDepth 20000 in
set_option maxHeartbeats 1000000 in
theorem class_im (op : Int) (h2 : op ≤ 6) (L : List Value) (hl : 20 = L.length) (ho : ∀ v ∈ L, v.oneCell' = true) (w : World)
    (hc : ∀ W, Below w.heap.size w W → Calls Tryd.prog 88 #[.int .i64 op] W fun e w' => e = .returned (.agg L.toArray) ∧ Below W.heap.size W w') :
    Calls Tryd.prog 80 #[.int .i64 op] w fun e w' => e = .returned (.agg L.toArray) ∧ Below w.heap.size w w' := by
  have CO := Lib.hid hc
  have HL := Lib.hid hl
  have HO := Lib.hid ho
  have HI := Lib.hid (show (Tryd.prog.info? 136).map (·.size) = some L.length by rw [← hl]; kernel_rfl)
  have HB0 := Lib.hid (below1 w (.cells #[.int .i64 0, .int .i64 0, .int .i64 0, .int .i64 0, .int .i64 0, .int .i64 0, .int .i64 0, .int .i64 0, .int .i64 0, .int .i64 0, .int .i64 0, .int .i64 0, .int .i64 0, .int .i64 0, .int .i64 0, .int .i64 0, .int .i64 0, .int .i64 0, .int .i64 0, .int .i64 0] 136))
  have HT0 := Lib.hid (heap_alloc_new w (.cells #[.int .i64 0, .int .i64 0, .int .i64 0, .int .i64 0, .int .i64 0, .int .i64 0, .int .i64 0, .int .i64 0, .int .i64 0, .int .i64 0, .int .i64 0, .int .i64 0, .int .i64 0, .int .i64 0, .int .i64 0, .int .i64 0, .int .i64 0, .int .i64 0, .int .i64 0, .int .i64 0] 136))
  clear hl ho hc
  go_enter Tryd.func80, Tryd.ntmps80
  go_wp2_with fail
  refine (CO.out _ HB0.out).mono ?_
  rintro e w1 ⟨rfl, hb⟩
  have ht := kept_v hb HT0.out
  have HB1 := Lib.hid (HB0.out.trans (hb.mono HB0.out.size))
  obtain ⟨WS, hst, hrg, hbs⟩ := store_row (P := Tryd.prog) ht L HL.out HO.out
  have HR := Lib.hid hrg
  have HBS := Lib.hid (HB1.out.trans hbs)
  have hll : L.length = 20 := HL.out.symm
  clear hb HT0 HB0 ht hrg hbs HB1
  go_wp2_with fail
  refine bodyPost_ret (results_mid (P := Tryd.prog) (p := 2) (ty := 136) (cs := L) Tryd.results80 _ _ w.heap.size (.array 10 134) rfl (by simpa using HR.out) (by kernel_rfl) (by rfl) HI.out) rfl ?_
  exact ⟨rfl, HBS.out⟩
set_option maxRecDepth 20000 in
set_option maxHeartbeats 1000000 in
theorem class_ld (op : Int) (h1 : 17 < op) (h2 : op ≤ 23) (L : List Value) (hl : 20 = L.length) (ho : ∀ v ∈ L, v.oneCell' = true) (w : World)
    (hc : ∀ W, Below w.heap.size w W → Calls Tryd.prog 90 #[.int .i64 op] W fun e w' => e = .returned (.agg L.toArray) ∧ Below W.heap.size W w') :
    Calls Tryd.prog 80 #[.int .i64 op] w fun e w' => e = .returned (.agg L.toArray) ∧ Below w.heap.size w w' := by
  have CO := Lib.hid hc
  have HL := Lib.hid hl
  have HO := Lib.hid ho
  have HI := Lib.hid (show (Tryd.prog.info? 136).map (·.size) = some L.length by rw [← hl]; kernel_rfl)
  have HB0 := Lib.hid (below1 w (.cells #[.int .i64 0, .int .i64 0, .int .i64 0, .int .i64 0, .int .i64 0, .int .i64 0, .int .i64 0, .int .i64 0, .int .i64 0, .int .i64 0, .int .i64 0, .int .i64 0, .int .i64 0, .int .i64 0, .int .i64 0, .int .i64 0, .int .i64 0, .int .i64 0, .int .i64 0, .int .i64 0] 136))
  have HT0 := Lib.hid (heap_alloc_new w (.cells #[.int .i64 0, .int .i64 0, .int .i64 0, .int .i64 0, .int .i64 0, .int .i64 0, .int .i64 0, .int .i64 0, .int .i64 0, .int .i64 0, .int .i64 0, .int .i64 0, .int .i64 0, .int .i64 0, .int .i64 0, .int .i64 0, .int .i64 0, .int .i64 0, .int .i64 0, .int .i64 0] 136))
  clear hl ho hc
  go_enter Tryd.func80, Tryd.ntmps80
  go_wp2_with fail
  refine (CO.out _ HB0.out).mono ?_
  rintro e w1 ⟨rfl, hb⟩
  have ht := kept_v hb HT0.out
  have HB1 := Lib.hid (HB0.out.trans (hb.mono HB0.out.size))
  obtain ⟨WS, hst, hrg, hbs⟩ := store_row (P := Tryd.prog) ht L HL.out HO.out
  have HR := Lib.hid hrg
  have HBS := Lib.hid (HB1.out.trans hbs)
  have hll : L.length = 20 := HL.out.symm
  clear hb HT0 HB0 ht hrg hbs HB1
  go_wp2_with fail
  refine bodyPost_ret (results_mid (P := Tryd.prog) (p := 2) (ty := 136) (cs := L) Tryd.results80 _ _ w.heap.size (.array 10 134) rfl (by simpa using HR.out) (by kernel_rfl) (by rfl) HI.out) rfl ?_
  exact ⟨rfl, HBS.out⟩
set_option maxHeartbeats 1000000 in
theorem reach_of (op : Int) (h : brOp op) (L : List Value) (lo hi : Int) (hx : ∀ W, (Instr.index 136 (.agg L.toArray) (.int .i64 7)).run Tryd.prog W = .ok (.agg #[.int .i64 lo, .int .i64 hi]) W) (w : World)
    (hc : ∀ W, Below w.heap.size w W → Calls Tryd.prog 80 #[.int .i64 op] W fun e w' => e = .returned (.agg L.toArray) ∧ Below W.heap.size W w') :
    Calls Tryd.prog 66 #[.int .i64 op, .bool false] w fun e w' => (∃ x y : Int, e = .returned (.tuple #[.int .i64 x, .int .i64 y, .bool true])) ∧ Below w.heap.size w w' := by
  have CO := Lib.hid hc
  have UN := Lib.hid (fun W => unitOf_any op h W)
  clear h hc
  go_enter Tryd.func66, Tryd.ntmps66
  go_wp2_with fail
  refine (UN.out _).mono ?_
  rintro e w1 ⟨⟨u, hu, rfl⟩, hb⟩
  have HB1 := Lib.hid hb
  clear hb
  have hu' : (u == 0) = false := by simpa using hu
  go_wp2_with fail
  refine (CO.out _ HB1.out).mono ?_
  rintro e w2 ⟨rfl, hb2⟩
  have HB2 := Lib.hid (HB1.out.trans (hb2.mono HB1.out.size))
  clear hb2
  go_wp2_with fail
  go_region
  all_goals
    go_wp2_with fail
    refine bodyPost_ret (results_tmp3 rfl _ _ _) rfl ?_
    exact ⟨⟨_, _, rfl⟩, (HB2.out.trans ((below1 w2 _).mono HB2.out.size)).drew⟩
theorem tells_reach (op : Int) (h : brOp op) (w : World) (hG : GI w) :
    Calls Tryd.prog 66 #[.int .i64 op, .bool false] w fun e w' => (∃ x y : Int, e = .returned (.tuple #[.int .i64 x, .int .i64 y, .bool true])) ∧ Below w.heap.size w w' := by
  rcases h with rfl | rfl | rfl | rfl | rfl
  · exact reach_of 8 (by unfold brOp; decide) [.int .i64 0, .int .i64 0, .int .i64 0, .int .i64 0, .int .i64 0, .int .i64 1, .int .i64 0, .int .i64 0, .int .i64 0, .int .i64 0, .int .i64 0, .int .i64 0, .int .i64 0, .int .i64 0, .int .i64 (loQ 26), .int .i64 (hiQ 26), .int .i64 0, .int .i64 0, .int .i64 0, .int .i64 0] (loQ 26) (hiQ 26) (fun W => by kernel_rfl) w (fun W hb => class_br 8 (by decide) (by decide) [.int .i64 0, .int .i64 0, .int .i64 0, .int .i64 0, .int .i64 0, .int .i64 1, .int .i64 0, .int .i64 0, .int .i64 0, .int .i64 0, .int .i64 0, .int .i64 0, .int .i64 0, .int .i64 0, .int .i64 (loQ 26), .int .i64 (hiQ 26), .int .i64 0, .int .i64 0, .int .i64 0, .int .i64 0] (by rfl) (by simp only [List.forall_mem_cons]; exact ⟨rfl, rfl, rfl, rfl, rfl, rfl, rfl, rfl, rfl, rfl, rfl, rfl, rfl, rfl, rfl, rfl, rfl, rfl, rfl, rfl, fun _ h => absurd h (by simp)⟩) W (fun W' hb' => iB_any W' (hG.keep (hb.trans (hb'.mono hb.size)))))
  · exact reach_of 7 (by unfold brOp; decide) [.int .i64 0, .int .i64 0, .int .i64 0, .int .i64 0, .int .i64 0, .int .i64 0, .int .i64 0, .int .i64 0, .int .i64 0, .int .i64 0, .int .i64 0, .int .i64 0, .int .i64 0, .int .i64 0, .int .i64 (loQ 19), .int .i64 (hiQ 19), .int .i64 0, .int .i64 15, .int .i64 0, .int .i64 0] (loQ 19) (hiQ 19) (fun W => by kernel_rfl) w (fun W hb => class_br 7 (by decide) (by decide) [.int .i64 0, .int .i64 0, .int .i64 0, .int .i64 0, .int .i64 0, .int .i64 0, .int .i64 0, .int .i64 0, .int .i64 0, .int .i64 0, .int .i64 0, .int .i64 0, .int .i64 0, .int .i64 0, .int .i64 (loQ 19), .int .i64 (hiQ 19), .int .i64 0, .int .i64 15, .int .i64 0, .int .i64 0] (by rfl) (by simp only [List.forall_mem_cons]; exact ⟨rfl, rfl, rfl, rfl, rfl, rfl, rfl, rfl, rfl, rfl, rfl, rfl, rfl, rfl, rfl, rfl, rfl, rfl, rfl, rfl, fun _ h => absurd h (by simp)⟩) W (fun W' hb' => iBCond_any W' (hG.keep (hb.trans (hb'.mono hb.size)))))
  · exact reach_of 10 (by unfold brOp; decide) [.int .i64 0, .int .i64 0, .int .i64 0, .int .i64 0, .int .i64 0, .int .i64 0, .int .i64 0, .int .i64 31, .int .i64 0, .int .i64 0, .int .i64 0, .int .i64 0, .int .i64 0, .int .i64 0, .int .i64 (loQ 14), .int .i64 (hiQ 14), .int .i64 0, .int .i64 1, .int .i64 0, .int .i64 63] (loQ 14) (hiQ 14) (fun W => by kernel_rfl) w (fun W hb => class_br 10 (by decide) (by decide) [.int .i64 0, .int .i64 0, .int .i64 0, .int .i64 0, .int .i64 0, .int .i64 0, .int .i64 0, .int .i64 31, .int .i64 0, .int .i64 0, .int .i64 0, .int .i64 0, .int .i64 0, .int .i64 0, .int .i64 (loQ 14), .int .i64 (hiQ 14), .int .i64 0, .int .i64 1, .int .i64 0, .int .i64 63] (by rfl) (by simp only [List.forall_mem_cons]; exact ⟨rfl, rfl, rfl, rfl, rfl, rfl, rfl, rfl, rfl, rfl, rfl, rfl, rfl, rfl, rfl, rfl, rfl, rfl, rfl, rfl, fun _ h => absurd h (by simp)⟩) W (fun W' hb' => iTb_any W' (hG.keep (hb.trans (hb'.mono hb.size)))))
  · exact reach_of 18 (by unfold brOp; decide) [.int .i64 0, .int .i64 0, .int .i64 0, .int .i64 0, .int .i64 0, .int .i64 0, .int .i64 0, .int .i64 31, .int .i64 0, .int .i64 0, .int .i64 0, .int .i64 0, .int .i64 0, .int .i64 0, .int .i64 (loQ 19), .int .i64 (hiQ 19), .int .i64 0, .int .i64 3, .int .i64 0, .int .i64 0] (loQ 19) (hiQ 19) (fun W => by kernel_rfl) w (fun W hb => class_ld 18 (by decide) (by decide) [.int .i64 0, .int .i64 0, .int .i64 0, .int .i64 0, .int .i64 0, .int .i64 0, .int .i64 0, .int .i64 31, .int .i64 0, .int .i64 0, .int .i64 0, .int .i64 0, .int .i64 0, .int .i64 0, .int .i64 (loQ 19), .int .i64 (hiQ 19), .int .i64 0, .int .i64 3, .int .i64 0, .int .i64 0] (by rfl) (by simp only [List.forall_mem_cons]; exact ⟨rfl, rfl, rfl, rfl, rfl, rfl, rfl, rfl, rfl, rfl, rfl, rfl, rfl, rfl, rfl, rfl, rfl, rfl, rfl, rfl, fun _ h => absurd h (by simp)⟩) W (fun W' hb' => iLdLit_any W' (hG.keep (hb.trans (hb'.mono hb.size)))))
  · exact reach_of 1 (by unfold brOp; decide) [.int .i64 0, .int .i64 0, .int .i64 0, .int .i64 1, .int .i64 0, .int .i64 0, .int .i64 0, .int .i64 31, .int .i64 0, .int .i64 0, .int .i64 0, .int .i64 0, .int .i64 0, .int .i64 0, .int .i64 (loQ 21), .int .i64 (hiQ 21), .int .i64 0, .int .i64 0, .int .i64 0, .int .i64 0] (loQ 21) (hiQ 21) (fun W => by kernel_rfl) w (fun W hb => class_im 1 (by decide) [.int .i64 0, .int .i64 0, .int .i64 0, .int .i64 1, .int .i64 0, .int .i64 0, .int .i64 0, .int .i64 31, .int .i64 0, .int .i64 0, .int .i64 0, .int .i64 0, .int .i64 0, .int .i64 0, .int .i64 (loQ 21), .int .i64 (hiQ 21), .int .i64 0, .int .i64 0, .int .i64 0, .int .i64 0] (by rfl) (by simp only [List.forall_mem_cons]; exact ⟨rfl, rfl, rfl, rfl, rfl, rfl, rfl, rfl, rfl, rfl, rfl, rfl, rfl, rfl, rfl, rfl, rfl, rfl, rfl, rfl, fun _ h => absurd h (by simp)⟩) W (fun W' hb' => iAdr_any W' (hG.keep (hb.trans (hb'.mono hb.size)))))
end Go.Proofs.YtjkhgljlipljdaaDoor
