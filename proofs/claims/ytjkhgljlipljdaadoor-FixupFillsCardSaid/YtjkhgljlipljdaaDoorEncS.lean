/-
  What each call of fixup's Fill returns where a number is filled in.
-/
import Derived.Test.YtjkhgljlipljdaaDoorEncQ
import Derived.Test.YtjkhgljlipljdaaDoorEncR
namespace Go.Proofs.YtjkhgljlipljdaaDoor
open Go.RowKit
set_option linter.unusedVariables false
set_option linter.unusedSimpArgs false
set_option maxHeartbeats 2000000 in
theorem fill_low (h : Hl) (v : Int) (hv : -9223372036854775808 ≤ v ∧ v ≤ 9223372036854775807) (a : Option Addr) (len cap : Nat) (w : World) (hG : Gd w)
    (hok : inOk h.k h.s len = true) (hf : filledB (shR h.k h.s) = true) (ht : (shR h.k h.s).t = 1 ∨ (shR h.k h.s).t = 4) (hfit : fitsB (shR h.k h.s) v = true) (hn : nearB (shR h.k h.s) = false) (h8 : len ≤ 8) :
    Calls Tryd.prog 24 #[.slice a len cap, hlV h, .int .i64 v] w fun e w' => ∃ B, e = .returned (.tuple #[.slice (some ⟨B, 0, none⟩) len len, .int .i64 0]) ∧ w.heap.size ≤ B ∧ (∃ X : Array Value, w'.heap[B]? = some (.cells X 5 (0, 0)) ∧ X.size = len ∧ ∀ i, i < len → X[i]? = some (.int .u8 (v / 2 ^ (8 * i) % 256))) ∧ Below w.heap.size w w' := by
  have SI := Lib.hid (fun W hb => shapeIn_any h a len cap W (hG.keep hb))
  have IF := Lib.hid (fun W => isFilled_any (shR h.k h.s) W)
  have FI := Lib.hid (fun W => fits_any (shR h.k h.s) v W ht hv)
  have NE := Lib.hid (fun W => isNear_any (shR h.k h.s) W)
  have hw : (shR h.k h.s).w = (len : Int) := by
    have := hok
    simp [inOk] at this
    omega
  have LO := Lib.hid (fun W => low_any v len h8 W)
  have e1 : inR h.k h.s len = shR h.k h.s := by simp [inR, hok]
  have e2 : inE h.k h.s len = 0 := by simp [inE, hok]
  rw [e1, e2] at SI
  rw [hf] at IF
  rw [hfit] at FI
  rw [hn] at NE
  clear e1 e2 hf hfit hn hok hG ht hv
  obtain ⟨k, s, ad, p, m⟩ := h
  unfold hlV at *
  simp only at SI IF FI NE hw ⊢
  generalize shR k s = sh at *
  obtain ⟨y0, y1, y2, y3, y4, y5, y6⟩ := sh
  unfold shV at *
  simp only at SI IF FI NE hw ⊢
  subst hw
  go_enter Tryd.func24, Tryd.ntmps24
  go_wp2_with fail
  refine (SI.out _ (below1 w _)).mono ?_
  rintro e w1 ⟨rfl, hb1⟩
  have HB1 := Lib.hid (Below.thn (below1 w _) (by simp) hb1)
  clear hb1 SI
  go_wp2_with fail
  have hs1 := heap_alloc_new w1 (.cells #[.int .i64 (len : Int), .int .i64 y1, .int .i64 y2, .int .i64 y3, .int .i64 y4, .int .i64 y5, .int .i64 y6] 71)
  have HS1 := Lib.hid hs1
  have HBA := Lib.hid (HB1.out.alloc HB1.out.size (.cells #[.int .i64 (len : Int), .int .i64 y1, .int .i64 y2, .int .i64 y3, .int .i64 y4, .int .i64 y5, .int .i64 y6] 71))
  generalize (w1.alloc (.cells #[.int .i64 (len : Int), .int .i64 y1, .int .i64 y2, .int .i64 y3, .int .i64 y4, .int .i64 y5, .int .i64 y6] 71)) = W1 at *
  clear hs1 HB1
  refine (IF.out _).mono ?_
  rintro e w2 ⟨rfl, hb2⟩
  have hs2 := kept_v hb2 HS1.out
  have HS2 := Lib.hid hs2
  have HB2 := Lib.hid (HBA.out.trans (hb2.mono HBA.out.size))
  obtain ⟨f0, c0, c1, c2, c3, c4, c5, c6⟩ := seven hs2
  clear hb2 hs2 IF HBA HS1
  go_wp2_with fail
  clear f0 c0 c1 c2 c3 c4 c5 c6
  refine (FI.out _).mono ?_
  rintro e w3 ⟨rfl, hb3⟩
  have hs3 := kept_v hb3 HS2.out
  have HS3 := Lib.hid hs3
  have HB3 := Lib.hid (HB2.out.trans (hb3.mono HB2.out.size))
  obtain ⟨f0, c0, c1, c2, c3, c4, c5, c6⟩ := seven hs3
  clear hb3 hs3 FI HB2 HS2
  go_wp2_with fail
  clear f0 c0 c1 c2 c3 c4 c5 c6
  refine (NE.out _).mono ?_
  rintro e w4 ⟨rfl, hb4⟩
  have hs4 := kept_v hb4 HS3.out
  have HS4 := Lib.hid hs4
  have HB4 := Lib.hid (HB3.out.trans (hb4.mono HB3.out.size))
  obtain ⟨f0, c0, c1, c2, c3, c4, c5, c6⟩ := seven hs4
  clear hb4 hs4 NE HB3 HS3
  go_wp2_with fail
  refine (LO.out _).mono ?_
  rintro e w5 ⟨rfl, hX, hb5⟩
  have HX := Lib.hid hX
  have hz4 := HB4.out.size
  have HB5 := Lib.hid (HB4.out.trans (hb5.mono hz4))
  have HZ := Lib.hid hz4
  clear hb5 hX hz4
  go_wp2_with fail
  go_ret2
  exact ⟨_, rfl, HZ.out, HX.out, HB5.out⟩
end Go.Proofs.YtjkhgljlipljdaaDoor
