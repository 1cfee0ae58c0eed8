/-
  live returns true. Conditions: what the start left in the two tables (Gd).
-/
import Derived.Test.YtjkhgljlipljdaaDoorFixN
namespace Go.Proofs.YtjkhgljlipljdaaDoor
open Go.RowKit
set_option linter.unusedVariables false
set_option linter.unusedSimpArgs false

def fB : BA := ⟨#[102]⟩
theorem syms_one {W : World} {g : Nat} {y : Sy} {T : TypeId} (h : W.heap[g]? = some (.cells #[.string y.name, .int .i64 y.sec, .int .i64 y.val, .bool y.gl] T (0, 0))) : SymsO W (.slice (some ⟨g, 0, none⟩) 1 1) [y] := by
  refine .inr ⟨g, 0, 1, rfl, by simp, by unfold maxLen; decide, heap_lt h, fun k x hx j v hv => ?_⟩
  match k, hx with
  | 0, hx =>
    cases hx
    have hj : j < 4 := (List.getElem?_eq_some_iff.1 hv).1
    have e := Lib.cell_of_heap h j
    rw [show (0 + 0 * 4 + j) = j by omega, e]
    match j, hv with
    | 0, hv => cases hv; rfl
    | 1, hv => cases hv; rfl
    | 2, hv => cases hv; rfl
    | 3, hv => cases hv; rfl
  | k + 1, hx => cases hx
theorem live1 : resO ⟨2, 0, 0, fB, ⟨#[]⟩⟩ 0 4 [⟨fB, 0, 12, false⟩] = (⟨true, 8, false, 0, 0, 0, 0⟩, 0) := by decide +kernel
theorem live2 : resO ⟨2, 0, 0, fB, ⟨#[]⟩⟩ 0 4 [⟨fB, -1, 0, false⟩] = (⟨false, 0, true, 4, 283, 0, 0⟩, 0) := by decide +kernel
set_option maxHeartbeats 4000000 in
theorem live_any (w : World) (hG : Gd w) :
    Calls Tryd.prog 9 #[] w fun e w' => e = .returned (.bool true) ∧ Below w.heap.size w w' := by
  have R1 := Lib.hid (fun W sv (hb : Below w.heap.size w W) (hS : SymsO W sv [⟨fB, 0, 12, false⟩]) => resolve_any ⟨2, 0, 0, fB, ⟨#[]⟩⟩ 0 4 sv _ W (hG.keep hb) hS (by unfold in64; decide))
  have R2 := Lib.hid (fun W sv (hb : Below w.heap.size w W) (hS : SymsO W sv [⟨fB, -1, 0, false⟩]) => resolve_any ⟨2, 0, 0, fB, ⟨#[]⟩⟩ 0 4 sv _ W (hG.keep hb) hS (by unfold in64; decide))
  rw [live1] at R1
  rw [live2] at R2
  unfold hlV fxV fB at *
  simp only at *
  clear hG
  go_enter Tryd.func9, Tryd.ntmps9
  go_wp2_with fail
  have HB0 := Lib.hid (below2 w (.cells #[.int .i64 2, .int .i64 0, .int .i64 0, .string ⟨#[102]⟩, .string ⟨#[]⟩] 25) (.cells #[.string ⟨#[102]⟩, .int .i64 0, .int .i64 12, .bool false] 67))
  have HS0 := Lib.hid (syms_one (y := ⟨⟨#[102]⟩, 0, 12, false⟩) (heap_new2 w (.cells #[.int .i64 2, .int .i64 0, .int .i64 0, .string ⟨#[102]⟩, .string ⟨#[]⟩] 25) (.cells #[.string ⟨#[102]⟩, .int .i64 0, .int .i64 12, .bool false] 67)))
  refine (R1.out _ _ HB0.out HS0.out).mono ?_
  rintro e w1 ⟨rfl, hb1⟩
  obtain ⟨g1, g2, hbw, hz⟩ := kept2 hb1
  have k1 := below1 w1 (.cells #[.bool true, .int .i64 8, .bool false, .int .i64 0, .int .i64 0, .int .i64 0, .int .i64 0] 48)
  have G1 := Lib.hid ((k1.block _ (heap_lt g1)).trans g1)
  have G3 := Lib.hid (heap_alloc_new w1 (.cells #[.bool true, .int .i64 8, .bool false, .int .i64 0, .int .i64 0, .int .i64 0, .int .i64 0] 48))
  have HB1 := Lib.hid (Below.thn hbw hbw.size k1)
  go_upto_region 3 with fail
  generalize (w1.alloc (.cells #[.bool true, .int .i64 8, .bool false, .int .i64 0, .int .i64 0, .int .i64 0, .int .i64 0] 48)) = V1 at *
  obtain ⟨c0, c1, c2, c3, c4⟩ := five G1.out
  clear hb1 g1 g2 hbw hz k1 HB0 HS0
  go_wp2_with fail
  have HS1 := Lib.hid (syms_one (y := ⟨⟨#[102]⟩, -1, 0, false⟩) (heap_alloc_new V1 (.cells #[.string ⟨#[102]⟩, .int .i64 (-1), .int .i64 0, .bool false] 67)))
  have HB2 := Lib.hid (HB1.out.alloc HB1.out.size (.cells #[.string ⟨#[102]⟩, .int .i64 (-1), .int .i64 0, .bool false] 67))
  refine (R2.out _ _ HB2.out HS1.out).mono ?_
  rintro e w2 ⟨rfl, hb2⟩
  obtain ⟨g2, hbw, hz⟩ := kept1 hb2
  have g3 := kept_v hbw G3.out
  have k1 := below1 w2 (.cells #[.bool false, .int .i64 0, .bool true, .int .i64 4, .int .i64 283, .int .i64 0, .int .i64 0] 48)
  have G3 := Lib.hid ((k1.block _ (heap_lt g3)).trans g3)
  have G5 := Lib.hid (heap_alloc_new w2 (.cells #[.bool false, .int .i64 0, .bool true, .int .i64 4, .int .i64 283, .int .i64 0, .int .i64 0] 48))
  have HB3 := Lib.hid (Below.thn (Below.thn HB1.out HB1.out.size hbw) (Below.thn HB1.out HB1.out.size hbw).size k1)
  go_upto_region 4 with fail
  generalize (w2.alloc (.cells #[.bool false, .int .i64 0, .bool true, .int .i64 4, .int .i64 283, .int .i64 0, .int .i64 0] 48)) = V2 at *
  clear hb2 g2 hbw hz g3 k1 c0 c1 c2 c3 c4 G1
  obtain ⟨_, d0, d1, d2, d3, d4, d5, d6⟩ := seven G3.out
  obtain ⟨_, b0, b1, b2, b3, b4, b5, b6⟩ := seven G5.out
  go_wp2_with fail
  go_ret
  exact ⟨rfl, HB3.out⟩
end Go.Proofs.YtjkhgljlipljdaaDoor
