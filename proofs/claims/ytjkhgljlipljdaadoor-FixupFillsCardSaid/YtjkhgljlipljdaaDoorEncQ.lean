/-
  What each call of fixup's shapeIn, lowBytes returns. Conditions: what the start left in the two tables (Gd); widths of 1, 4, 8.
-/
import Derived.Test.YtjkhgljlipljdaaDoorEncP
namespace Go.Proofs.YtjkhgljlipljdaaDoor
open Go.RowKit
set_option linter.unusedVariables false
set_option linter.unusedSimpArgs false
/-- a hole that there is, and bytes as many as it has -/
def inOk (k s : Int) (len : Nat) : Bool := holeOk k s && decide ((len : Int) = (shR k s).w)
def inR (k s : Int) (len : Nat) : Sh := if inOk k s len = true then shR k s else sh0
def inE (k s : Int) (len : Nat) : Int := if inOk k s len = true then 0 else 1
set_option maxHeartbeats 1000000 in
theorem shapeIn_any (h : Hl) (a : Option Addr) (len cap : Nat) (w : World) (hG : Gd w) :
    Calls Tryd.prog 45 #[.slice a len cap, hlV h] w fun e w' => e = .returned (.tuple #[shV (inR h.k h.s len), .int .i64 (inE h.k h.s len)]) ∧ Below w.heap.size w w' := by
  have SO := Lib.hid (fun W hb => shapeOf_any h W (hG.keep hb))
  clear hG
  obtain ⟨k, s, ad, p, m⟩ := h
  unfold hlV at *
  simp only at SO ⊢
  have hz := Lib.hid (below1 w (.cells #[.int .i64 k, .int .i64 s, .int .i64 ad, .string p, .string m] 25))
  cases hok : holeOk k s with
  | false =>
    have e1 : chkI k s = 1 := by simp [chkI, hok]
    have e2 : shR k s = sh0 := by simp [shR, hok]
    have e3 : inR k s len = sh0 := by simp [inR, inOk, hok]
    have e4 : inE k s len = 1 := by simp [inE, inOk, hok]
    rw [e1, e2] at SO
    rw [e3, e4]
    unfold shV sh0 at *
    simp only at SO ⊢
    clear e1 e2 e3 e4 hok hz
    go_enter Tryd.func45, Tryd.ntmps45
    go_wp2_with fail
    refine (SO.out _ (below2 w _ _)).mono ?_
    rintro e w1 ⟨rfl, hb1⟩
    obtain ⟨g1, g2, hbw, hz⟩ := kept2 hb1
    skip
    have HB1 := Lib.hid hbw
    have HG2 := Lib.hid g2
    have z0 : w.heap.size < w1.heap.size := by omega
    have z1 : w.heap.size + 1 < w1.heap.size := by omega
    have n1 : w1.heap.size ≠ w.heap.size := by omega
    have n2 : w1.heap.size ≠ w.heap.size + 1 := by omega
    clear hb1 g1 g2 hbw hz SO
    go_upto_region 2 with fail
    have HW := Lib.hid (show (w1.alloc (.cells #[.int .i64 0, .int .i64 0, .int .i64 0, .int .i64 0, .int .i64 0, .int .i64 0, .int .i64 0] 71)).heap[w.heap.size + 1]? = _ ∧ Below w.heap.size w (w1.alloc (.cells #[.int .i64 0, .int .i64 0, .int .i64 0, .int .i64 0, .int .i64 0, .int .i64 0, .int .i64 0] 71)) ∧ _ from
      ⟨((below1 w1 _).block _ z1).trans HG2.out, HB1.out.alloc HB1.out.size _, heap_alloc_new w1 (.cells #[.int .i64 0, .int .i64 0, .int .i64 0, .int .i64 0, .int .i64 0, .int .i64 0, .int .i64 0] 71)⟩)
    generalize (w1.alloc (.cells #[.int .i64 0, .int .i64 0, .int .i64 0, .int .i64 0, .int .i64 0, .int .i64 0, .int .i64 0] 71)) = W2 at *
    obtain ⟨f0, d0, d1, d2, d3, d4, d5, d6⟩ := seven HW.out.1
    obtain ⟨_, b0, b1, b2, b3, b4, b5, b6⟩ := seven HW.out.2.2
    go_wp2_with fail
    refine bodyPost_ret (by simp [results, Tryd.results45, go_sem, d0, d1, d2, d3, d4, d5, d6]; try rfl) rfl ?_
    refine ⟨rfl, ?_⟩
    have hw := HW.out.2.1
    iterate 7 (refine Below.setCell ?_ (by dsimp only; omega) _)
    exact hw
  | true =>
    have e1 : chkI k s = 0 := by simp [chkI, hok]
    by_cases hl : (len : Int) = (shR k s).w
    · have e3 : inR k s len = shR k s := by simp [inR, inOk, hok, hl]
      have e4 : inE k s len = 0 := by simp [inE, inOk, hok, hl]
      rw [e1] at SO
      rw [e3, e4]
      generalize shR k s = sh at *
      obtain ⟨y0, y1, y2, y3, y4, y5, y6⟩ := sh
      unfold shV at *
      simp only at SO hl ⊢
      subst hl
      clear e1 e3 e4 hok hz
      go_enter Tryd.func45, Tryd.ntmps45
      go_wp2_with fail
      refine (SO.out _ (below2 w _ _)).mono ?_
      rintro e w1 ⟨rfl, hb1⟩
      obtain ⟨g1, g2, hbw, hz⟩ := kept2 hb1
      skip
      have HB1 := Lib.hid hbw
      have HG2 := Lib.hid g2
      have z0 : w.heap.size < w1.heap.size := by omega
      have z1 : w.heap.size + 1 < w1.heap.size := by omega
      have n1 : w1.heap.size ≠ w.heap.size := by omega
      have n2 : w1.heap.size ≠ w.heap.size + 1 := by omega
      clear hb1 g1 g2 hbw hz SO
      go_upto_region 2 with fail
      have HW := Lib.hid (show (w1.alloc (.cells #[.int .i64 (len : Int), .int .i64 y1, .int .i64 y2, .int .i64 y3, .int .i64 y4, .int .i64 y5, .int .i64 y6] 71)).heap[w.heap.size + 1]? = _ ∧ Below w.heap.size w (w1.alloc (.cells #[.int .i64 (len : Int), .int .i64 y1, .int .i64 y2, .int .i64 y3, .int .i64 y4, .int .i64 y5, .int .i64 y6] 71)) ∧ _ from
        ⟨((below1 w1 _).block _ z1).trans HG2.out, HB1.out.alloc HB1.out.size _, heap_alloc_new w1 (.cells #[.int .i64 (len : Int), .int .i64 y1, .int .i64 y2, .int .i64 y3, .int .i64 y4, .int .i64 y5, .int .i64 y6] 71)⟩)
      generalize (w1.alloc (.cells #[.int .i64 (len : Int), .int .i64 y1, .int .i64 y2, .int .i64 y3, .int .i64 y4, .int .i64 y5, .int .i64 y6] 71)) = W2 at *
      obtain ⟨f0, d0, d1, d2, d3, d4, d5, d6⟩ := seven HW.out.1
      obtain ⟨_, b0, b1, b2, b3, b4, b5, b6⟩ := seven HW.out.2.2
      go_wp2_with fail
      refine bodyPost_ret (by simp [results, Tryd.results45, go_sem, d0, d1, d2, d3, d4, d5, d6]; try rfl) rfl ?_
      refine ⟨rfl, ?_⟩
      have hw := HW.out.2.1
      iterate 7 (refine Below.setCell ?_ (by dsimp only; omega) _)
      exact hw
    · have e3 : inR k s len = sh0 := by simp [inR, inOk, hok, hl]
      have e4 : inE k s len = 1 := by simp [inE, inOk, hok, hl]
      rw [e1] at SO
      rw [e3, e4]
      generalize shR k s = sh at *
      obtain ⟨y0, y1, y2, y3, y4, y5, y6⟩ := sh
      unfold sh0
      unfold shV at *
      simp only at SO hl ⊢
      have hl' : ((len : Int) != y0) = true := by rw [bne_iff_ne]; exact hl
      clear e1 e3 e4 hok hz hl
      go_enter Tryd.func45, Tryd.ntmps45
      go_wp2_with fail
      refine (SO.out _ (below2 w _ _)).mono ?_
      rintro e w1 ⟨rfl, hb1⟩
      obtain ⟨g1, g2, hbw, hz⟩ := kept2 hb1
      skip
      have HB1 := Lib.hid hbw
      have HG2 := Lib.hid g2
      have z0 : w.heap.size < w1.heap.size := by omega
      have z1 : w.heap.size + 1 < w1.heap.size := by omega
      have n1 : w1.heap.size ≠ w.heap.size := by omega
      have n2 : w1.heap.size ≠ w.heap.size + 1 := by omega
      clear hb1 g1 g2 hbw hz SO
      go_upto_region 2 with fail
      have HW := Lib.hid (show (w1.alloc (.cells #[.int .i64 y0, .int .i64 y1, .int .i64 y2, .int .i64 y3, .int .i64 y4, .int .i64 y5, .int .i64 y6] 71)).heap[w.heap.size + 1]? = _ ∧ Below w.heap.size w (w1.alloc (.cells #[.int .i64 y0, .int .i64 y1, .int .i64 y2, .int .i64 y3, .int .i64 y4, .int .i64 y5, .int .i64 y6] 71)) ∧ _ from
        ⟨((below1 w1 _).block _ z1).trans HG2.out, HB1.out.alloc HB1.out.size _, heap_alloc_new w1 (.cells #[.int .i64 y0, .int .i64 y1, .int .i64 y2, .int .i64 y3, .int .i64 y4, .int .i64 y5, .int .i64 y6] 71)⟩)
      generalize (w1.alloc (.cells #[.int .i64 y0, .int .i64 y1, .int .i64 y2, .int .i64 y3, .int .i64 y4, .int .i64 y5, .int .i64 y6] 71)) = W2 at *
      obtain ⟨f0, d0, d1, d2, d3, d4, d5, d6⟩ := seven HW.out.1
      obtain ⟨_, b0, b1, b2, b3, b4, b5, b6⟩ := seven HW.out.2.2
      go_wp2_with fail
      refine bodyPost_ret (by simp [results, Tryd.results45, go_sem, d0, d1, d2, d3, d4, d5, d6]; try rfl) rfl ?_
      refine ⟨rfl, ?_⟩
      have hw := HW.out.2.1
      iterate 7 (refine Below.setCell ?_ (by dsimp only; omega) _)
      exact hw
end Go.Proofs.YtjkhgljlipljdaaDoor
