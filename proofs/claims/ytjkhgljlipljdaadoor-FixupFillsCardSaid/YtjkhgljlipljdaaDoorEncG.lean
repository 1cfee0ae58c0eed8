/-
  What each call of enc's wordOf returns, given its shape's parts.
-/
import Derived.Test.YtjkhgljlipljdaaDoorEncF
namespace Go.Proofs.YtjkhgljlipljdaaDoor
open Go.RowKit
set_option linter.unusedVariables false
set_option linter.unusedSimpArgs false
set_option maxRecDepth 20000 in
set_option maxHeartbeats 1000000 in
theorem word_of (op a : Int) (L : List Value) (P : Nat → Pa) (hP : ∀ j, j < 10 → okP (P j)) (hl : L.length = 30)
    (hC : ∀ W (j : Nat), j < 10 → (Instr.index 143 (.agg L.toArray) (.int .i64 (j : Int))).run Tryd.prog W = .ok (paV (P j)) W)
    (hs : ∀ W, Calls Tryd.prog 82 #[inV op a] W fun e w' => e = .returned (.agg L.toArray) ∧ Below W.heap.size W w') (w : World) :
    Calls Tryd.prog 70 #[inV op a] w fun e w' => e = .returned (.int .u32 (foldW P 0 10)) ∧ Below w.heap.size w w' := by
  have SH := Lib.hid hs
  have TE := Lib.hid (fun B W h => tell_of B 0 L hl P hP hC W h)
  generalize foldW P 0 10 = R at *
  clear hs hC hP hl
  unfold inV at *
  have a0 := below1 w (.cells #[.int .i64 op, .bool false, .bool false, .int .i64 0, .int .i64 0, .int .i64 0, .int .i64 0, .int .i64 a, .int .i64 0, .int .i64 0] 125)
  have a1 := below1 (w.alloc (.cells #[.int .i64 op, .bool false, .bool false, .int .i64 0, .int .i64 0, .int .i64 0, .int .i64 0, .int .i64 a, .int .i64 0, .int .i64 0] 125)) (.cells #[.int .u32 0] 139)
  have HT0 := Lib.hid (heap_alloc2_new w (.cells #[.int .i64 op, .bool false, .bool false, .int .i64 0, .int .i64 0, .int .i64 0, .int .i64 0, .int .i64 a, .int .i64 0, .int .i64 0] 125) (.cells #[.int .u32 0] 139))
  have HB0 := Lib.hid (a0.trans (a1.mono a0.size))
  clear a0 a1
  go_enter Tryd.func70, Tryd.ntmps70
  go_wp2_with fail
  refine (SH.out _).mono ?_
  rintro e w1 ⟨rfl, hb⟩
  have HT1 := Lib.hid (kept_v hb HT0.out)
  have HB1 := Lib.hid (HB0.out.trans (hb.mono HB0.out.size))
  clear hb HT0 HB0
  go_wp2_with fail
  refine (TE.out _ _ HT1.out).mono ?_
  rintro e w2 ⟨⟨v, rfl⟩, ht, kb⟩
  have HB2 := Lib.hid (HB1.out.trans (kb.bel.mono (Nat.le_succ _)))
  have c0 := Lib.cell_of_heap ht 0
  have hz := heap_lt ht
  clear ht kb HB1 HT1
  go_wp2_with fail
  go_ret
  exact ⟨rfl, HB2.out⟩
end Go.Proofs.YtjkhgljlipljdaaDoor
