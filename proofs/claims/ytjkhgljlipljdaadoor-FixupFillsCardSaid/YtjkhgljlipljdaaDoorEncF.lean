/-
  What each call of enc's shapeOf, wordOf, distanceBits returns. Conditions: the classes of branches; only A is not zero.
-/
import Derived.Test.YtjkhgljlipljdaaDoorEncE
namespace Go.Proofs.YtjkhgljlipljdaaDoor
open Go.RowKit
set_option linter.unusedVariables false
set_option linter.unusedSimpArgs false
theorem store_row {P : Program} {T : TypeId} {b : Nat} {W : World} {C0 : Array Value} (hb : W.heap[b]? = some (.cells C0 T (0, 0))) (L : List Value) (hl : C0.size = L.length) (h1 : ∀ v ∈ L, v.oneCell' = true) :
    ∃ W', (storeCells ⟨b, 0, none⟩ L).run P W = .ok () W' ∧ W'.rangeAt b 0 L ∧ Below b W W' := by
  have ht := there_row hb L.length hl
  have this := run_storeCells_cells (P := P) b 0 L 0 W (fun j hj => by simpa using (ht j (by simpa using hj)).1) (fun j hj => by simpa using (ht j (by simpa using hj)).2) h1
  exact ⟨W.setCells b 0 L, by simpa using this, World.rangeAt_setCells_same W b 0 L ht, below_setCells b L 0 W⟩
set_option maxRecDepth 20000 in
set_option maxHeartbeats 1000000 in
theorem shape_br (op a : Int) (h1 : 6 < op) (h2 : op ≤ 11) (L : List Value) (hl : 30 = L.length) (ho : ∀ v ∈ L, v.oneCell' = true)
    (hc : ∀ W, Calls Tryd.prog 93 #[inV op a] W fun e w' => e = .returned (.agg L.toArray) ∧ Below W.heap.size W w') (w : World) :
    Calls Tryd.prog 82 #[inV op a] w fun e w' => e = .returned (.agg L.toArray) ∧ Below w.heap.size w w' := by
  have CO := Lib.hid hc
  have HL := Lib.hid hl
  have HO := Lib.hid ho
  have HI := Lib.hid (show (Tryd.prog.info? 143).map (·.size) = some L.length by rw [← hl]; kernel_rfl)
  unfold inV at *
  have a0 := below1 w (.cells #[.int .i64 op, .bool false, .bool false, .int .i64 0, .int .i64 0, .int .i64 0, .int .i64 0, .int .i64 a, .int .i64 0, .int .i64 0] 125)
  have a1 := below1 (w.alloc (.cells #[.int .i64 op, .bool false, .bool false, .int .i64 0, .int .i64 0, .int .i64 0, .int .i64 0, .int .i64 a, .int .i64 0, .int .i64 0] 125)) (.cells #[.int .u32 0, .int .i64 0, .bool false, .int .u32 0, .int .i64 0, .bool false, .int .u32 0, .int .i64 0, .bool false, .int .u32 0, .int .i64 0, .bool false, .int .u32 0, .int .i64 0, .bool false, .int .u32 0, .int .i64 0, .bool false, .int .u32 0, .int .i64 0, .bool false, .int .u32 0, .int .i64 0, .bool false, .int .u32 0, .int .i64 0, .bool false, .int .u32 0, .int .i64 0, .bool false] 143)
  have HT0 := Lib.hid (heap_alloc2_new w (.cells #[.int .i64 op, .bool false, .bool false, .int .i64 0, .int .i64 0, .int .i64 0, .int .i64 0, .int .i64 a, .int .i64 0, .int .i64 0] 125) (.cells #[.int .u32 0, .int .i64 0, .bool false, .int .u32 0, .int .i64 0, .bool false, .int .u32 0, .int .i64 0, .bool false, .int .u32 0, .int .i64 0, .bool false, .int .u32 0, .int .i64 0, .bool false, .int .u32 0, .int .i64 0, .bool false, .int .u32 0, .int .i64 0, .bool false, .int .u32 0, .int .i64 0, .bool false, .int .u32 0, .int .i64 0, .bool false, .int .u32 0, .int .i64 0, .bool false] 143))
  have HB0 := Lib.hid (a0.trans (a1.mono a0.size))
  clear hl ho hc a0 a1
  go_enter Tryd.func82, Tryd.ntmps82
  go_wp2_with fail
  refine (CO.out _).mono ?_
  rintro e w1 ⟨rfl, hb⟩
  have ht := kept_v hb HT0.out
  have HB1 := Lib.hid (HB0.out.trans (hb.mono HB0.out.size))
  obtain ⟨WS, hst, hrg, hbs⟩ := store_row (P := Tryd.prog) ht L HL.out HO.out
  have HR := Lib.hid hrg
  have HBS := Lib.hid (HB1.out.trans (hbs.mono (Nat.le_succ _)))
  have hll : L.length = 30 := HL.out.symm
  clear hb HT0 HB0 ht hrg hbs HB1
  go_wp2_with fail
  refine bodyPost_ret (results_mid (P := Tryd.prog) (p := 2) (ty := 143) (cs := L) Tryd.results82 _ _ (w.heap.size + 1) (.array 10 141) rfl (by simpa using HR.out) (by kernel_rfl) (by rfl) HI.out) rfl ?_
  exact ⟨rfl, HBS.out⟩
set_option maxRecDepth 20000 in
set_option maxHeartbeats 1000000 in
theorem shape_im (op a : Int) (h2 : op ≤ 6) (L : List Value) (hl : 30 = L.length) (ho : ∀ v ∈ L, v.oneCell' = true)
    (hc : ∀ W, Calls Tryd.prog 92 #[inV op a] W fun e w' => e = .returned (.agg L.toArray) ∧ Below W.heap.size W w') (w : World) :
    Calls Tryd.prog 82 #[inV op a] w fun e w' => e = .returned (.agg L.toArray) ∧ Below w.heap.size w w' := by
  have CO := Lib.hid hc
  have HL := Lib.hid hl
  have HO := Lib.hid ho
  have HI := Lib.hid (show (Tryd.prog.info? 143).map (·.size) = some L.length by rw [← hl]; kernel_rfl)
  unfold inV at *
  have a0 := below1 w (.cells #[.int .i64 op, .bool false, .bool false, .int .i64 0, .int .i64 0, .int .i64 0, .int .i64 0, .int .i64 a, .int .i64 0, .int .i64 0] 125)
  have a1 := below1 (w.alloc (.cells #[.int .i64 op, .bool false, .bool false, .int .i64 0, .int .i64 0, .int .i64 0, .int .i64 0, .int .i64 a, .int .i64 0, .int .i64 0] 125)) (.cells #[.int .u32 0, .int .i64 0, .bool false, .int .u32 0, .int .i64 0, .bool false, .int .u32 0, .int .i64 0, .bool false, .int .u32 0, .int .i64 0, .bool false, .int .u32 0, .int .i64 0, .bool false, .int .u32 0, .int .i64 0, .bool false, .int .u32 0, .int .i64 0, .bool false, .int .u32 0, .int .i64 0, .bool false, .int .u32 0, .int .i64 0, .bool false, .int .u32 0, .int .i64 0, .bool false] 143)
  have HT0 := Lib.hid (heap_alloc2_new w (.cells #[.int .i64 op, .bool false, .bool false, .int .i64 0, .int .i64 0, .int .i64 0, .int .i64 0, .int .i64 a, .int .i64 0, .int .i64 0] 125) (.cells #[.int .u32 0, .int .i64 0, .bool false, .int .u32 0, .int .i64 0, .bool false, .int .u32 0, .int .i64 0, .bool false, .int .u32 0, .int .i64 0, .bool false, .int .u32 0, .int .i64 0, .bool false, .int .u32 0, .int .i64 0, .bool false, .int .u32 0, .int .i64 0, .bool false, .int .u32 0, .int .i64 0, .bool false, .int .u32 0, .int .i64 0, .bool false, .int .u32 0, .int .i64 0, .bool false] 143))
  have HB0 := Lib.hid (a0.trans (a1.mono a0.size))
  clear hl ho hc a0 a1
  go_enter Tryd.func82, Tryd.ntmps82
  go_wp2_with fail
  refine (CO.out _).mono ?_
  rintro e w1 ⟨rfl, hb⟩
  have ht := kept_v hb HT0.out
  have HB1 := Lib.hid (HB0.out.trans (hb.mono HB0.out.size))
  obtain ⟨WS, hst, hrg, hbs⟩ := store_row (P := Tryd.prog) ht L HL.out HO.out
  have HR := Lib.hid hrg
  have HBS := Lib.hid (HB1.out.trans (hbs.mono (Nat.le_succ _)))
  have hll : L.length = 30 := HL.out.symm
  clear hb HT0 HB0 ht hrg hbs HB1
  go_wp2_with fail
  refine bodyPost_ret (results_mid (P := Tryd.prog) (p := 2) (ty := 143) (cs := L) Tryd.results82 _ _ (w.heap.size + 1) (.array 10 141) rfl (by simpa using HR.out) (by kernel_rfl) (by rfl) HI.out) rfl ?_
  exact ⟨rfl, HBS.out⟩
set_option maxRecDepth 20000 in
set_option maxHeartbeats 1000000 in
theorem shape_ld (op a : Int) (h1 : 17 < op) (h2 : op ≤ 23) (L : List Value) (hl : 30 = L.length) (ho : ∀ v ∈ L, v.oneCell' = true)
    (hc : ∀ W, Calls Tryd.prog 95 #[inV op a] W fun e w' => e = .returned (.agg L.toArray) ∧ Below W.heap.size W w') (w : World) :
    Calls Tryd.prog 82 #[inV op a] w fun e w' => e = .returned (.agg L.toArray) ∧ Below w.heap.size w w' := by
  have CO := Lib.hid hc
  have HL := Lib.hid hl
  have HO := Lib.hid ho
  have HI := Lib.hid (show (Tryd.prog.info? 143).map (·.size) = some L.length by rw [← hl]; kernel_rfl)
  unfold inV at *
  have a0 := below1 w (.cells #[.int .i64 op, .bool false, .bool false, .int .i64 0, .int .i64 0, .int .i64 0, .int .i64 0, .int .i64 a, .int .i64 0, .int .i64 0] 125)
  have a1 := below1 (w.alloc (.cells #[.int .i64 op, .bool false, .bool false, .int .i64 0, .int .i64 0, .int .i64 0, .int .i64 0, .int .i64 a, .int .i64 0, .int .i64 0] 125)) (.cells #[.int .u32 0, .int .i64 0, .bool false, .int .u32 0, .int .i64 0, .bool false, .int .u32 0, .int .i64 0, .bool false, .int .u32 0, .int .i64 0, .bool false, .int .u32 0, .int .i64 0, .bool false, .int .u32 0, .int .i64 0, .bool false, .int .u32 0, .int .i64 0, .bool false, .int .u32 0, .int .i64 0, .bool false, .int .u32 0, .int .i64 0, .bool false, .int .u32 0, .int .i64 0, .bool false] 143)
  have HT0 := Lib.hid (heap_alloc2_new w (.cells #[.int .i64 op, .bool false, .bool false, .int .i64 0, .int .i64 0, .int .i64 0, .int .i64 0, .int .i64 a, .int .i64 0, .int .i64 0] 125) (.cells #[.int .u32 0, .int .i64 0, .bool false, .int .u32 0, .int .i64 0, .bool false, .int .u32 0, .int .i64 0, .bool false, .int .u32 0, .int .i64 0, .bool false, .int .u32 0, .int .i64 0, .bool false, .int .u32 0, .int .i64 0, .bool false, .int .u32 0, .int .i64 0, .bool false, .int .u32 0, .int .i64 0, .bool false, .int .u32 0, .int .i64 0, .bool false, .int .u32 0, .int .i64 0, .bool false] 143))
  have HB0 := Lib.hid (a0.trans (a1.mono a0.size))
  clear hl ho hc a0 a1
  go_enter Tryd.func82, Tryd.ntmps82
  go_wp2_with fail
  refine (CO.out _).mono ?_
  rintro e w1 ⟨rfl, hb⟩
  have ht := kept_v hb HT0.out
  have HB1 := Lib.hid (HB0.out.trans (hb.mono HB0.out.size))
  obtain ⟨WS, hst, hrg, hbs⟩ := store_row (P := Tryd.prog) ht L HL.out HO.out
  have HR := Lib.hid hrg
  have HBS := Lib.hid (HB1.out.trans (hbs.mono (Nat.le_succ _)))
  have hll : L.length = 30 := HL.out.symm
  clear hb HT0 HB0 ht hrg hbs HB1
  go_wp2_with fail
  refine bodyPost_ret (results_mid (P := Tryd.prog) (p := 2) (ty := 143) (cs := L) Tryd.results82 _ _ (w.heap.size + 1) (.array 10 141) rfl (by simpa using HR.out) (by kernel_rfl) (by rfl) HI.out) rfl ?_
  exact ⟨rfl, HBS.out⟩
end Go.Proofs.YtjkhgljlipljdaaDoor
