/-
  The law's few: what each call returns. Conditions: none beyond the slice's reading.
-/
import Derived.Test.YtdkflmpdelfgoaaDoorExprH
import Derived.Test.YtdkflmpdelfgoaaDoorExprNdS
import Derived.Test.YtdkflmpdelfgoaaDoorExprR
namespace Go.Proofs.YtdkflmpdelfgoaaDoor
open Go.RowKit Go.Shelf
set_option linter.unusedVariables false
set_option linter.unusedSimpArgs false
attribute [local go_sem] Oper.semAt_some

def fewS (T : List Tm) : Nat := (T.map fun t => min t.s.size 600).sum
def fewB (T : List Tm) : Bool := decide (T.length ≤ 300) && decide (fewS (T.take 300) ≤ 3000)
theorem fewS_snoc (T : List Tm) (x : Tm) : fewS (T ++ [x]) = fewS T + min x.s.size 600 := by unfold fewS; rw [List.map_append, List.sum_append]; simp
theorem fewS_le (T : List Tm) : fewS T ≤ 600 * T.length := by
  induction T with
  | nil => exact Nat.le_refl _
  | cons x T ih => unfold fewS at ih ⊢; rw [List.map_cons, List.sum_cons, List.length_cons]; omega
set_option maxRecDepth 100000 in
set_option maxHeartbeats 4000000 in
theorem few_any (g off cap : Nat) (T : List Tm) (w : World) (h : TriO tmF w (.slice (some ⟨g, off, none⟩) T.length cap) T) (hc : T.length ≤ cap) (hcm : cap ≤ maxLen) :
    Calls Tryd.prog 8 #[.slice (some ⟨g, off, none⟩) T.length cap] w fun e w' => e = .returned (.bool (fewB T)) ∧ Below w.heap.size w w' := by
  have HT := Lib.hid h
  obtain ⟨N, hN⟩ : ∃ N, min T.length 300 = N := ⟨_, rfl⟩
  have hN1 : N ≤ T.length := by omega
  have hN3 : N ≤ 300 := by omega
  have hmin : min (T.length : Int) 300 = (N : Int) := by omega
  have hTN := Lib.hid (show T.take 300 = T.take N by
    by_cases h3 : T.length ≤ 300
    · rw [List.take_of_length_le h3, List.take_of_length_le (by omega)]
    · rw [show N = 300 by omega])
  have HB := Lib.hid (show fewB T = (decide (T.length ≤ 300) && decide (fewS (T.take N) ≤ 3000)) by unfold fewB; rw [hTN.out])
  have c1 : (N : Int) ≤ (cap : Int) := by omega
  have c0 : (0 : Int) ≤ (N : Int) := by omega
  have hNN := Lib.hid hN
  have hcap : (cap : Int) ≤ 9223372036854775807 := by unfold maxLen at hcm; omega
  clear h hN
  go_enter Tryd.func8, Tryd.ntmps8
  go_wp2_with fail
  go_loopw [12, 3] (fun iv sv wr => ∃ k : Nat, k ≤ N ∧ iv = .int .i64 (k : Int) ∧ sv = .int .i64 (fewS (T.take k) : Int) ∧ Below w.heap.size w wr) (fun iv sv _ => N - (intOf iv).toNat)
  case atStart => exact ⟨0, Nat.zero_le _, rfl, rfl, Below.refl _ _⟩
  case round =>
    obtain ⟨k, hk, rfl, rfl, hbr⟩ := hrel
    by_cases hlt : (k : Int) < (N : Int)
    · have hlt' : k < T.length := by omega
      obtain ⟨g', off', cap', x, hx, hv, x1, x2, x3⟩ := tri_at (HT.out.keep hbr) hlt'
      cases hv
      simp only [tmF] at x1 x2 x3
      have w9 : IntKind.i64.wrap ((k : Int) + 1) = ((k + 1 : Nat) : Int) := by rw [IntWalk.i64_in _ (by omega)]; omega
      have HBR := Lib.hid hbr
      have hs := fewS_snoc (T.take k) x
      rw [show T.take k ++ [x] = T.take (k + 1) by rw [List.take_add_one, hx]; rfl] at hs
      have hle := fewS_le (T.take k)
      rw [List.length_take] at hle
      obtain ⟨S, hS⟩ : ∃ S, fewS (T.take k) = S := ⟨_, rfl⟩
      rw [hS] at hs hle ⊢
      obtain ⟨xk, xn, xs⟩ := x
      simp only at x1 x2 x3 hs
      obtain ⟨q, hq⟩ : ∃ q, min xs.size 600 = q := ⟨_, rfl⟩
      have hqi : min (xs.size : Int) 600 = (q : Int) := by omega
      rw [hq] at hs
      have wS : IntKind.i64.wrap ((S : Int) + (q : Int)) = ((S + q : Nat) : Int) := by rw [IntWalk.i64_in _ (by omega)]; omega
      have HSN := Lib.hid hs
      have hk0 : (0 : Int) ≤ (k : Int) := by omega
      clear hbr hx hs
      go_wp2_with fail
      go_roundw
      case rel => exact ⟨k + 1, by omega, by first | rfl | rw [← w9], by rw [HSN.out]; first | rfl | (congr 1; omega), Below.thn HBR.out HBR.out.size (below1 wr _)⟩
      case measure => simp [intOf]; omega
    · have hkN : k = N := by omega
      subst hkN
      have HBR := Lib.hid hbr
      obtain ⟨S, hS⟩ : ∃ S, fewS (T.take k) = S := ⟨_, rfl⟩
      rw [hS] at HB ⊢
      clear hbr
      by_cases h3 : T.length ≤ 300
      · have h3' : (T.length : Int) ≤ 300 := by omega
        rw [decide_eq_true h3, Bool.true_and] at HB
        by_cases hS3 : S ≤ 3000
        · rw [decide_eq_true hS3] at HB
          have hS' : (S : Int) ≤ 3000 := by omega
          go_wp2_with fail
          go_ret
          exact ⟨by rw [HB.out]; rfl, HBR.out⟩
        · rw [decide_eq_false hS3] at HB
          have hS' : ¬ (S : Int) ≤ 3000 := by omega
          go_wp2_with fail
          go_ret
          exact ⟨by rw [HB.out]; rfl, HBR.out⟩
      · have h3' : ¬ (T.length : Int) ≤ 300 := by omega
        rw [decide_eq_false h3, Bool.false_and] at HB
        go_wp2_with fail
        go_ret
        exact ⟨by rw [HB.out]; rfl, HBR.out⟩
end Go.Proofs.YtdkflmpdelfgoaaDoor
namespace Go.Proofs.YtdkflmpdelfgoaaDoor
open Go.RowKit Go.Shelf
set_option linter.unusedVariables false
set_option linter.unusedSimpArgs false
attribute [local go_sem] Oper.semAt_some

theorem below_dN (W : World) (n q : Nat) : Below n W (W.drewN q) := ⟨rfl, rfl, rfl, Nat.le_refl _, fun _ _ => rfl⟩
theorem equal_strs (v u : Value) (b1 b2 : Nat) (D : List BA) (W : World) (hl : D.length ≤ 100000) (hv : W.ownsRow b1 9 1 v D.length (D.map Value.string)) (hu : W.ownsRow b2 9 1 u D.length (D.map Value.string)) :
    Calls Tryd.prog 16 #[v, u] W fun e w' => e = .returned (.bool true) ∧ Below W.heap.size W w' := by
  obtain ⟨a1, c1, rfl⟩ := own_sliceN hv
  obtain ⟨a2, c2, rfl⟩ := own_sliceN hu
  rcases Nat.eq_zero_or_pos D.length with h0 | h0
  · rw [h0]
    refine (Tryd.slices_Equal_string_empty a1 a2 c1 0 c2 W (by omega)).mono ?_
    rintro e w' ⟨rfl, rfl⟩
    exact ⟨rfl, Below.refl _ _⟩
  · obtain ⟨g1, k1, e1, -, -⟩ := hv.form h0
    obtain ⟨g2, k2, e2, -, -⟩ := hu.form h0
    cases e1
    cases e2
    have key : ∀ {g c b : Nat}, W.ownsRow b 9 1 (.slice (some ⟨g, 0, none⟩) D.length c) D.length (D.map Value.string) → ∀ j, j < D.length → W.cell? ⟨g, 0 + j, none⟩ = some (.string (D.getD j ByteArray.empty)) := fun h j hj => by
      rw [Nat.zero_add, h.cellAt j (by omega), List.getElem?_map, List.getElem?_eq_getElem hj, List.getD_eq_getElem?_getD, List.getElem?_eq_getElem hj]
      rfl
    refine (Tryd.slices_Equal_string g1 0 D.length c1 g2 0 D.length c2 D D W (Nat.le_refl _) (Nat.le_refl _) (by omega) (by omega) (key hv) (key hu)).mono ?_
    rintro e w' ⟨rfl, q, rfl⟩
    exact ⟨by simp, below_dN _ _ _⟩
set_option maxRecDepth 100000 in
set_option maxHeartbeats 4000000 in
theorem few_nil (A : Option Addr) (c : Nat) (w : World) :
    Calls Tryd.prog 8 #[.slice A 0 c] w fun e w' => e = .returned (.bool true) ∧ Below w.heap.size w w' := by
  have c1 : (0 : Int) ≤ (c : Int) := by omega
  have hm : min (0 : Int) 300 = 0 := by decide
  go_enter Tryd.func8, Tryd.ntmps8
  go_wp2_with fail
  refine wp_loop_rounds 1 ?_
  rw [rounds_succ]
  go_wp2_with fail
  go_ret
  exact ⟨rfl, Below.refl _ _⟩
theorem few_ev (v : Value) (T : List Tm) (w : World) (h : TriO tmF w v T) : Calls Tryd.prog 8 #[v] w fun e w' => e = .returned (.bool (fewB T)) ∧ Below w.heap.size w w' := by
  have h0 := h
  rcases h with ⟨h, rfl⟩ | ⟨g, off, cap, rfl, hc, hcm, hg, hT⟩
  · rcases h with rfl | ⟨a, c, rfl⟩
    · exact few_nil none 0 w
    · exact few_nil (some a) c w
  · exact few_any g off cap T w h0 hc hcm
theorem syms_len (T : List Tm) : (symsT T).length ≤ 256 := by
  unfold symsT
  split
  · rename_i hc; exact Nat.le_trans (symsL_len T) (checkT_ok hc).2
  · exact Nat.zero_le _
theorem not_nilS (p : Option Addr) (w : World) : (binOp BinOp.eql 35 (Value.func (Fn.func 63) #[] #[.pointer p]) Value.nilFunc).run Tryd.prog w = .ok (.bool false) w := by
  kernel_rfl
set_option maxRecDepth 100000 in
set_option maxHeartbeats 16000000 in
theorem evals_law (v : Value) (T : List Tm) (w : World) (hG : GoodE w) (hb : BruAt w) (h : TriO tmF w v T) (hs : ∀ x ∈ T, x.s.size ≤ maxLen) (hI : ∀ x ∈ T, InB x.n) :
    Calls Tryd.prog 3 #[v] w fun e w' => e = .returned (.bool true) ∧ Below w.heap.size w w' := by
  have LV := Lib.hid (live_any w hG)
  have FW := Lib.hid (fun V (hb : Below w.heap.size w V) => few_ev v T V (h.keep hb))
  by_cases hf : fewB T = true
  · have hl : T.length ≤ 281474976710656 := by
      unfold fewB at hf
      simp only [Bool.and_eq_true, decide_eq_true_eq] at hf
      omega
    have EV := Lib.hid (fun V (hb : Below w.heap.size w V) => eval_any v T V (hG.thn hb) (h.keep hb) hl hs)
    have RE := Lib.hid (fun V (hb : Below w.heap.size w V) => reval_any v T V (h.keep hb) hl hs hI)
    have TX := Lib.hid (fun V (hb' : Below w.heap.size w V) => ptext_any v T V (hG.thn hb') (cell_kept hb' hb) (h.keep hb') hl hs hI)
    have RT := Lib.hid (fun V (hb : Below w.heap.size w V) => rtext_any v T V (h.keep hb) hl hs hI)
    have SY := Lib.hid (fun V (hb : Below w.heap.size w V) => syms_any v T V (hG.thn hb) (h.keep hb) hl hs)
    have RS := Lib.hid (fun V (hb : Below w.heap.size w V) => rsyms_any v T V (h.keep hb) hl hs)
    have CK := Lib.hid (fun V (hb : Below w.heap.size w V) => check_any v T V (hG.thn hb) (h.keep hb) hl hs)
    have RC := Lib.hid (fun V (hb : Below w.heap.size w V) => rcheck_any v T V (h.keep hb) hl hs)
    have SL := Lib.hid (syms_len T)
    rw [hf] at FW
    obtain ⟨A, c, rfl⟩ := tri_slice h
    generalize evalT T = ev at *
    obtain ⟨⟨rn, rp, rm⟩, re⟩ := ev
    generalize docText T = dt at *
    obtain ⟨ds, de⟩ := dt
    generalize symsT T = D at *
    generalize checkT T = q at *
    unfold RV vlV at EV RE
    unfold TV at TX RT
    simp only at EV RE TX RT
    clear hf hl hG hb h hs hI
    go_enter Tryd.func3, Tryd.ntmps3
    go_wp2_with fail
    refine LV.out.mono ?_
    rintro e w1 ⟨rfl, hb1⟩
    have HB1 := Lib.hid hb1
    clear hb1
    go_wp2_with fail
    refine (FW.out _ HB1.out).mono ?_
    rintro e w2 ⟨rfl, hb2⟩
    have HB2 := Lib.hid (Below.thn HB1.out HB1.out.size hb2)
    clear hb2 HB1
    go_wp2_with fail
    refine (EV.out _ HB2.out).mono ?_
    rintro e w3 ⟨rfl, hb3⟩
    have HB3 := Lib.hid (Below.thn HB2.out HB2.out.size hb3)
    clear hb3 HB2
    go_wp2_with fail
    have HB4 := Lib.hid (HB3.out.alloc HB3.out.size (.cells #[.int .i64 rn, .string rp, .string rm] 26))
    have A4 := Lib.hid (heap_alloc_new w3 (.cells #[.int .i64 rn, .string rp, .string rm] 26))
    obtain ⟨a, ha⟩ : ∃ a, w3.heap.size = a := ⟨_, rfl⟩
    rw [ha] at A4
    generalize w3.alloc (.cells #[.int .i64 rn, .string rp, .string rm] 26) = W4 at *
    rw [ha]
    clear ha HB3
    refine (RE.out _ HB4.out).mono ?_
    rintro e w5 ⟨rfl, hb5⟩
    have HB5 := Lib.hid (Below.thn HB4.out HB4.out.size hb5)
    have A5 := Lib.hid (block_kept hb5 A4.out)
    clear hb5 HB4 A4
    go_wp2_with fail
    have HB6 := Lib.hid (HB5.out.alloc HB5.out.size (.cells #[.int .i64 rn, .string rp, .string rm] 26))
    have B6 := Lib.hid (heap_alloc_new w5 (.cells #[.int .i64 rn, .string rp, .string rm] 26))
    have A6 := Lib.hid (block_kept (below1 w5 (.cells #[.int .i64 rn, .string rp, .string rm] 26)) A5.out)
    obtain ⟨b, hbb⟩ : ∃ b, w5.heap.size = b := ⟨_, rfl⟩
    rw [hbb] at B6
    generalize w5.alloc (.cells #[.int .i64 rn, .string rp, .string rm] 26) = W6 at *
    rw [hbb]
    clear hbb HB5 A5
    refine (TX.out _ HB6.out).mono ?_
    rintro e w7 ⟨rfl, hb7⟩
    have HB7 := Lib.hid (Below.thn HB6.out HB6.out.size hb7)
    have A7 := Lib.hid (block_kept hb7 A6.out)
    have B7 := Lib.hid (block_kept hb7 B6.out)
    clear hb7 HB6 A6 B6
    go_wp2_with fail
    refine (RT.out _ HB7.out).mono ?_
    rintro e w8 ⟨rfl, hb8⟩
    have HB8 := Lib.hid (Below.thn HB7.out HB7.out.size hb8)
    have A8 := Lib.hid (block_kept hb8 A7.out)
    have B8 := Lib.hid (block_kept hb8 B7.out)
    clear hb8 HB7 A7 B7
    go_wp2_with fail
    refine (SY.out _ HB8.out).mono ?_
    rintro e w9 ⟨⟨bl, sv, rfl, hbx, hrow, hble⟩, hb9⟩
    have HB9 := Lib.hid (Below.thn HB8.out HB8.out.size hb9)
    have A9 := Lib.hid (block_kept hb9 A8.out)
    have B9 := Lib.hid (block_kept hb9 B8.out)
    have CO := Lib.hid (fun V (hb : Below w9.heap.size w9 V) => collect_any D sv bl w8.heap.size V (by have := SL.out; omega) (block_kept hb hbx) (own_mono hrow hb (fun g hg => (hrow.lt g hg).2)))
    have NN := not_nilS (some ⟨bl, 0, none⟩)
    obtain ⟨a0, a1, a2⟩ := val_cells A9.out
    obtain ⟨b0, b1, b2⟩ := val_cells B9.out
    clear hb9 HB8 A8 B8 hbx hrow hble
    go_wp2_with fail
    refine (CK.out _ HB9.out).mono ?_
    rintro e w10 ⟨rfl, hb10⟩
    have HB10 := Lib.hid (Below.thn HB9.out HB9.out.size hb10)
    have F10 := Lib.hid hb10
    clear hb10
    go_wp2_with fail
    refine (RC.out _ HB10.out).mono ?_
    rintro e w11 ⟨rfl, rfl⟩
    go_wp2_with fail
    refine (CO.out _ F10.out).mono ?_
    rintro e w12 ⟨⟨u, rfl, hu⟩, hb12⟩
    have HB12 := Lib.hid (Below.thn HB10.out HB10.out.size hb12)
    obtain ⟨ub, uc, rfl⟩ := own_sliceN hu
    have HU := Lib.hid hu
    clear hb12 hu
    go_wp2_with fail
    refine (RS.out _ HB12.out).mono ?_
    rintro e w13 ⟨u2, rfl, hu2, hb13⟩
    have HB13 := Lib.hid (Below.thn HB12.out HB12.out.size hb13)
    obtain ⟨ub2, uc2, rfl⟩ := own_sliceN hu2
    have HU2 := Lib.hid hu2
    have HU1 := Lib.hid (own_mono HU.out hb13 (fun g hg => (HU.out.lt g hg).2))
    clear hb13 hu2
    go_wp2_with fail
    refine (equal_strs _ _ _ _ D _ (by have := SL.out; omega) HU1.out HU2.out).mono ?_
    rintro e w14 ⟨rfl, hb14⟩
    have HB14 := Lib.hid (Below.thn HB13.out HB13.out.size hb14)
    clear hb14
    go_wp2_with fail
    go_ret
    exact ⟨rfl, HB14.out⟩
  · have hf' : fewB T = false := by simpa using hf
    rw [hf'] at FW
    obtain ⟨A, c, rfl⟩ := tri_slice h
    clear hf hf' hG hb h hs hI
    go_enter Tryd.func3, Tryd.ntmps3
    go_wp2_with fail
    refine LV.out.mono ?_
    rintro e w1 ⟨rfl, hb1⟩
    have HB1 := Lib.hid hb1
    clear hb1
    go_wp2_with fail
    refine (FW.out _ HB1.out).mono ?_
    rintro e w2 ⟨rfl, hb2⟩
    have HB2 := Lib.hid (Below.thn HB1.out HB1.out.size hb2)
    clear hb2
    go_wp2_with fail
    go_ret
    exact ⟨rfl, HB2.out⟩
end Go.Proofs.YtdkflmpdelfgoaaDoor
