/-
  The law FixupResolves returns true. Conditions: what the start left in the two tables (Gd), how the symbols lie, that a hole's number is within 64 bits.
-/
import Derived.Test.YtjkhgljlipljdaaDoorFixO
namespace Go.Proofs.YtjkhgljlipljdaaDoor
open Go.RowKit
set_option linter.unusedVariables false
set_option linter.unusedSimpArgs false

/-- a case -/
def csV (h : Hl) (sec off : Int) (sv : Value) : Value := .agg #[.int .i64 h.k, .int .i64 h.s, .int .i64 h.a, .string h.p, .string h.m, .int .i64 sec, .int .i64 off, sv]
theorem eight {W : World} {B : Nat} {T : TypeId} {v0 v1 v2 v3 v4 v5 v6 v7 : Value} (h : W.heap[B]? = some (.cells #[v0, v1, v2, v3, v4, v5, v6, v7] T (0, 0))) :
    W.cell? ⟨B, 0, none⟩ = some v0 ∧ W.cell? ⟨B, 1, none⟩ = some v1 ∧ W.cell? ⟨B, 2, none⟩ = some v2 ∧ W.cell? ⟨B, 3, none⟩ = some v3 ∧ W.cell? ⟨B, 4, none⟩ = some v4 ∧ W.cell? ⟨B, 5, none⟩ = some v5 ∧ W.cell? ⟨B, 6, none⟩ = some v6 ∧ W.cell? ⟨B, 7, none⟩ = some v7 :=
  ⟨Lib.cell_of_heap h 0, Lib.cell_of_heap h 1, Lib.cell_of_heap h 2, Lib.cell_of_heap h 3, Lib.cell_of_heap h 4, Lib.cell_of_heap h 5, Lib.cell_of_heap h 6, Lib.cell_of_heap h 7⟩
set_option maxHeartbeats 4000000 in
theorem resolves_law (h : Hl) (sec off : Int) (sv : Value) (L : List Sy) (w : World) (hG : Gd w) (hS : SymsO w sv L) (ha : in64 h.a) :
    Calls Tryd.prog 4 #[csV h sec off sv] w fun e w' => e = .returned (.bool true) ∧ Below w.heap.size w w' := by
  have LV := Lib.hid (fun W (hb : Below w.heap.size w W) => live_any W (hG.keep hb))
  have R1 := Lib.hid (fun W (hb : Below w.heap.size w W) => resolve_any h sec off sv L W (hG.keep hb) (hS.keep hb) ha)
  have R2 := Lib.hid (fun W (hb : Below w.heap.size w W) => rresolve_any h sec off sv L W (hS.keep hb))
  generalize resO h sec off L = R at *
  obtain ⟨⟨x0, x1, x2, x3, x4, x5, x6⟩, ee⟩ := R
  obtain ⟨sa, sc, rfl⟩ := hS.slice
  obtain ⟨k, s, a, p, m⟩ := h
  unfold csV hlV fxV at *
  simp only at *
  clear hG hS ha
  have HB0 := Lib.hid (below1 w (.cells #[.int .i64 k, .int .i64 s, .int .i64 a, .string p, .string m, .int .i64 sec, .int .i64 off, .slice sa L.length sc] 44))
  go_enter Tryd.func4, Tryd.ntmps4
  go_wp2_with fail
  refine (LV.out _ HB0.out).mono ?_
  rintro e w1 ⟨rfl, hb1⟩
  obtain ⟨g1, hbw, hz⟩ := kept1 hb1
  obtain ⟨c0, c1, c2, c3, c4, c5, c6, c7⟩ := eight g1
  have G1 := Lib.hid g1
  have HB1 := Lib.hid hbw
  clear hb1 g1 hbw hz
  by_cases hl : (200 : Int) < (L.length : Int)
  · go_wp2_with fail
    go_ret
    exact ⟨rfl, HB1.out⟩
  · go_wp2_with fail
    refine (R1.out _ HB1.out).mono ?_
    rintro e w2 ⟨rfl, hb2⟩
    have k1 := below1 w2 (.cells #[.bool x0, .int .i64 x1, .bool x2, .int .i64 x3, .int .i64 x4, .int .i64 x5, .int .i64 x6] 48)
    have G1 := Lib.hid (kept_v k1 (kept_v hb2 G1.out))
    have G2 := Lib.hid (heap_alloc_new w2 (.cells #[.bool x0, .int .i64 x1, .bool x2, .int .i64 x3, .int .i64 x4, .int .i64 x5, .int .i64 x6] 48))
    have HB2 := Lib.hid (Below.thn (Below.thn HB1.out HB1.out.size hb2) (Below.thn HB1.out HB1.out.size hb2).size k1)
    go_upto_region 6 with fail
    generalize (w2.alloc (.cells #[.bool x0, .int .i64 x1, .bool x2, .int .i64 x3, .int .i64 x4, .int .i64 x5, .int .i64 x6] 48)) = V2 at *
    clear hb2 k1 c0 c1 c2 c3 c4 c5 c6 c7
    obtain ⟨c0, c1, c2, c3, c4, c5, c6, c7⟩ := eight G1.out
    go_wp2_with fail
    refine (R2.out _ HB2.out).mono ?_
    rintro e w3 ⟨rfl, hb3⟩
    have k1 := below1 w3 (.cells #[.bool x0, .int .i64 x1, .bool x2, .int .i64 x3, .int .i64 x4, .int .i64 x5, .int .i64 x6] 48)
    have G2 := Lib.hid (kept_v k1 (kept_v hb3 G2.out))
    have G3 := Lib.hid (heap_alloc_new w3 (.cells #[.bool x0, .int .i64 x1, .bool x2, .int .i64 x3, .int .i64 x4, .int .i64 x5, .int .i64 x6] 48))
    have HB3 := Lib.hid (Below.thn (Below.thn HB2.out HB2.out.size hb3) (Below.thn HB2.out HB2.out.size hb3).size k1)
    go_upto_region 7 with fail
    generalize (w3.alloc (.cells #[.bool x0, .int .i64 x1, .bool x2, .int .i64 x3, .int .i64 x4, .int .i64 x5, .int .i64 x6] 48)) = V3 at *
    clear hb3 k1 c0 c1 c2 c3 c4 c5 c6 c7
    obtain ⟨_, d0, d1, d2, d3, d4, d5, d6⟩ := seven G2.out
    obtain ⟨_, b0, b1, b2, b3, b4, b5, b6⟩ := seven G3.out
    go_wp2_with fail
    go_ret
    exact ⟨rfl, HB3.out⟩
end Go.Proofs.YtjkhgljlipljdaaDoor
