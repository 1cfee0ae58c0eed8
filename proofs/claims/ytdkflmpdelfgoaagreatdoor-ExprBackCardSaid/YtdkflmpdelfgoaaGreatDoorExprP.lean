/-
  Print: what each call returns. Conditions: what the variables hold (GoodE), and the sizes that each lemma states.
-/
import Derived.Test.YtdkflmpdelfgoaaGreatDoorExprH
import Derived.Test.YtdkflmpdelfgoaaGreatDoorLexL
import Derived.Lib.AppendIntMem
namespace Go.Proofs.YtdkflmpdelfgoaaGreatDoor
open Go.RowKit Go.Shelf
set_option linter.unusedVariables false
set_option linter.unusedSimpArgs false
attribute [local go_sem] Oper.semAt_some

def partB (s : BA) : Bool := decide (s = E0) || symB s.data.toList
set_option maxRecDepth 100000 in
set_option maxHeartbeats 4000000 in
theorem isPart_any (s : ByteArray) (w : World) (hs : s.size ≤ maxLen) :
    Calls Tryz.prog 23 #[.string s] w fun e w' => e = .returned (.bool (partB s)) ∧ w = w' := by
  have IS := Lib.hid (fun V => isSym_any s V hs)
  unfold partB
  clear hs
  by_cases h1 : s = E0
  · subst h1
    rw [decide_eq_true rfl]
    go_enter Tryz.func23, Tryz.ntmps23
    go_wp2_with fail
    go_ret
    exact ⟨rfl, rfl⟩
  · have h2 := lit_no (l := []) h1
    rw [decide_eq_false h1]
    go_enter Tryz.func23, Tryz.ntmps23
    go_wp2_with fail
    refine (IS.out _).mono ?_
    rintro e w1 ⟨rfl, rfl⟩
    go_wp2_with fail
    go_ret
    exact ⟨rfl, rfl⟩
set_option maxHeartbeats 2000000 in
theorem fmtI_any (n : Int) (h0 : -9223372036854775808 ≤ n) (h1 : n ≤ 9223372036854775807) (w : World) (hG : GoodE w) :
    Calls Tryz.prog 40 #[.int .i64 n, .int .i64 10] w fun e w' => e = .returned (.string ⟨(Lib.itoa n).toArray⟩) ∧ Below w.heap.size w w' := by
  refine (Tryz.strconv_FormatInt_10 n h0 h1 w hG.pow).mono ?_
  rintro e w' ⟨rfl, k, os, rfl⟩
  exact ⟨rfl, Lib.below_grow _ w (Nat.le_refl _) k os⟩
theorem itoa_len (n : Int) (h0 : -9223372036854775808 ≤ n) (h1 : n ≤ 9223372036854775807) : (Lib.itoa n).length ≤ 21 := by
  have key : ∀ u : Nat, u < 18446744073709551616 → (Lib.decDigits u).length ≤ 20 := by
    intro u hu
    rw [Lib.decDigits_length]
    rcases Nat.eq_zero_or_pos u with h | h
    · rw [h]; simp [Lib.nDigits_small]
    · have := Lib.numDigits_eq u h hu; split at this <;> omega
  unfold Lib.itoa
  split
  · have := key n.natAbs (by omega)
    rw [List.length_cons]; omega
  · have := key n.toNat (by omega)
    omega
/-- the text of a value -/
def vtB (v : V3) : Bs :=
  v.2.1.data.toList ++ ((if v.2.2 = E0 then [] else (if v.2.1 = E0 then [48] else []) ++ [45] ++ v.2.2.data.toList) ++ ((if 0 < v.1 ∧ hasS v = true then [43] else []) ++ (if v.1 ≠ 0 ∨ hasS v = false then Lib.itoa v.1 else [])))
/-- the state of valueText between two calls -/
structure VT (w : World) (v : V3) (l : Bs) (W : World) : Prop where
  bld : Bld (w.heap.size + 1) (w.heap.size + 1) l W
  box : W.heap[w.heap.size]? = some (.cells #[.int .i64 v.1, .string v.2.1, .string v.2.2] 36 (0, 0))
  size : w.heap.size + 1 ≤ W.heap.size
  bel : Below w.heap.size w W
theorem VT.thn {w : World} {v : V3} {l : Bs} {W W' : World} (h : VT w v l W) (hb : Below W.heap.size W W') : VT w v l W' :=
  ⟨bld_keep h.bld hb, block_kept hb h.box, Nat.le_trans h.size hb.size, Below.thn h.bel h.bel.size hb⟩
theorem vt_new (w : World) (v : V3) : VT w v [] ((w.alloc (.cells #[.int .i64 v.1, .string v.2.1, .string v.2.2] 36)).alloc (.cells #[.pointer none, .slice none 0 0] 53)) := by
  have hz : (w.alloc (.cells #[.int .i64 v.1, .string v.2.1, .string v.2.2] 36)).heap.size = w.heap.size + 1 := by simp
  have b := bld_new (w.alloc (.cells #[.int .i64 v.1, .string v.2.1, .string v.2.2] 36))
  rw [hz] at b
  obtain ⟨n1, n2, n3, n4⟩ := two_new w (.cells #[.int .i64 v.1, .string v.2.1, .string v.2.2] 36) (.cells #[.pointer none, .slice none 0 0] 53)
  exact ⟨b, n1, by omega, n3⟩
theorem vt_write {w : World} {v : V3} {l : Bs} {W : World} (h : VT w v l W) (s : ByteArray) (hl : l.length + s.size ≤ 100000) :
    Calls Tryz.prog 29 #[.pointer (some ⟨w.heap.size + 1, 0, none⟩), .string s] W fun e w' => e = .returned (.tuple #[.int .i64 s.size, .nilIface]) ∧ VT w v (l ++ s.data.toList) w' := by
  refine (wstring_any (w.heap.size + 1) (w.heap.size + 1) l s W h.bld (by omega) h.size).mono ?_
  rintro e w' ⟨rfl, h1, h2, -⟩
  exact ⟨rfl, h1, (h2.block _ (by omega)).trans h.box, Nat.le_trans h.size h2.size, h.bel.trans (h2.mono (by omega))⟩
set_option maxRecDepth 100000 in
set_option maxHeartbeats 8000000 in
theorem vt_eeg (n : Int) (w : World) (hG : GoodE w) (h0 : -9223372036854775808 ≤ n) (h1 : n ≤ 9223372036854775807) (hn : 0 < n) :
    Calls Tryz.prog 24 #[vlV ((n : Int), E0, E0)] w fun e w' => e = .returned (.string ⟨(vtB ((n : Int), E0, E0)).toArray⟩) ∧ Below w.heap.size w w' := by
  have R := Lib.hid (show vtB ((n : Int), E0, E0) = ((([] : Bs) ++ E0.data.toList) ++ Lib.itoa n) by simp [vtB, hasS, hn, show n ≠ 0 by omega])
  have N0 := Lib.hid (vt_new w ((n : Int), E0, E0))
  have HSA := Lib.hid (fun V => hasS_any ((n : Int), E0, E0) V)
  have FI := Lib.hid (fun V (hb : Below w.heap.size w V) => fmtI_any n h0 h1 V (hG.thn hb))
  have IL := Lib.hid (itoa_len n h0 h1)
  rw [show hasS ((n : Int), E0, E0) = false by simp [hasS]] at HSA
  unfold vlV at HSA ⊢
  simp only at HSA ⊢
  have hn0 : ¬ n = 0 := by omega
  clear hG h0 h1
  go_enter Tryz.func24, Tryz.ntmps24
  go_wp2_with fail
  generalize (w.alloc (.cells #[.int .i64 n, .string E0, .string E0] 36)).alloc (.cells #[.pointer none, .slice none 0 0] 53) = W0 at *
  refine (vt_write N0.out E0 (by have := IL.out; simp only [show (⟨#[48]⟩ : BA).size = 1 from rfl, show (⟨#[45]⟩ : BA).size = 1 from rfl, show (⟨#[43]⟩ : BA).size = 1 from rfl, show E0.size = 0 from rfl, show E0.data.toList.length = 0 from rfl, show (⟨#[48]⟩ : BA).data.toList.length = 1 from rfl, show (⟨#[45]⟩ : BA).data.toList.length = 1 from rfl, show (⟨#[43]⟩ : BA).data.toList.length = 1 from rfl, show (⟨(Lib.itoa n).toArray⟩ : BA).size = (Lib.itoa n).length from rfl, show (⟨(Lib.itoa n).toArray⟩ : BA).data.toList.length = (Lib.itoa n).length by simp, List.length_append, List.length_nil]; omega)).mono ?_
  rintro e w1 ⟨rfl, hv⟩
  have N1 := Lib.hid hv
  obtain ⟨q0, q1, q2⟩ := val_cells N1.out.box
  clear hv N0
  go_wp2_with fail
  refine (HSA.out _).mono ?_
  rintro e w2 ⟨rfl, hb⟩
  have N2 := Lib.hid (N1.out.thn hb)
  obtain ⟨q0, q1, q2⟩ := val_cells N2.out.box
  clear hb N1
  go_wp2_with fail
  refine (FI.out _ N2.out.bel).mono ?_
  rintro e w3 ⟨rfl, hb⟩
  have N3 := Lib.hid (N2.out.thn hb)
  obtain ⟨q0, q1, q2⟩ := val_cells N3.out.box
  clear hb N2
  go_wp2_with fail
  refine (vt_write N3.out ⟨(Lib.itoa n).toArray⟩ (by have := IL.out; simp only [show (⟨#[48]⟩ : BA).size = 1 from rfl, show (⟨#[45]⟩ : BA).size = 1 from rfl, show (⟨#[43]⟩ : BA).size = 1 from rfl, show E0.size = 0 from rfl, show E0.data.toList.length = 0 from rfl, show (⟨#[48]⟩ : BA).data.toList.length = 1 from rfl, show (⟨#[45]⟩ : BA).data.toList.length = 1 from rfl, show (⟨#[43]⟩ : BA).data.toList.length = 1 from rfl, show (⟨(Lib.itoa n).toArray⟩ : BA).size = (Lib.itoa n).length from rfl, show (⟨(Lib.itoa n).toArray⟩ : BA).data.toList.length = (Lib.itoa n).length by simp, List.length_append, List.length_nil]; omega)).mono ?_
  rintro e w4 ⟨rfl, hv⟩
  have N4 := Lib.hid hv
  obtain ⟨q0, q1, q2⟩ := val_cells N4.out.box
  clear hv N3
  go_wp2_with fail
  refine (Tryz.Builder_String_any_k (w.heap.size + 1) (w.heap.size + 1) _ _ N4.out.bld N4.out.size).mono ?_
  rintro e w5 ⟨rfl, -, hb, -⟩
  have HB := Lib.hid (N4.out.bel.trans (hb.mono (by omega)))
  clear hb
  go_wp2_with fail
  go_ret
  exact ⟨by rw [R.out]; first | rfl | (simp; done) | simp [E0], HB.out⟩
set_option maxRecDepth 100000 in
set_option maxHeartbeats 8000000 in
theorem vt_eez (w : World) (hG : GoodE w) :
    Calls Tryz.prog 24 #[vlV ((0 : Int), E0, E0)] w fun e w' => e = .returned (.string ⟨(vtB ((0 : Int), E0, E0)).toArray⟩) ∧ Below w.heap.size w w' := by
  have R := Lib.hid (show vtB ((0 : Int), E0, E0) = ((([] : Bs) ++ E0.data.toList) ++ Lib.itoa 0) by simp [vtB, hasS])
  have N0 := Lib.hid (vt_new w ((0 : Int), E0, E0))
  have HSA := Lib.hid (fun V => hasS_any ((0 : Int), E0, E0) V)
  have FI := Lib.hid (fun V (hb : Below w.heap.size w V) => fmtI_any 0 (by decide) (by decide) V (hG.thn hb))
  have IL := Lib.hid (itoa_len 0 (by decide) (by decide))
  rw [show hasS ((0 : Int), E0, E0) = false by simp [hasS]] at HSA
  unfold vlV at HSA ⊢
  simp only at HSA ⊢
  clear hG
  go_enter Tryz.func24, Tryz.ntmps24
  go_wp2_with fail
  generalize (w.alloc (.cells #[.int .i64 0, .string E0, .string E0] 36)).alloc (.cells #[.pointer none, .slice none 0 0] 53) = W0 at *
  refine (vt_write N0.out E0 (by have := IL.out; simp only [show (⟨#[48]⟩ : BA).size = 1 from rfl, show (⟨#[45]⟩ : BA).size = 1 from rfl, show (⟨#[43]⟩ : BA).size = 1 from rfl, show E0.size = 0 from rfl, show E0.data.toList.length = 0 from rfl, show (⟨#[48]⟩ : BA).data.toList.length = 1 from rfl, show (⟨#[45]⟩ : BA).data.toList.length = 1 from rfl, show (⟨#[43]⟩ : BA).data.toList.length = 1 from rfl, show (⟨(Lib.itoa 0).toArray⟩ : BA).size = (Lib.itoa 0).length from rfl, show (⟨(Lib.itoa 0).toArray⟩ : BA).data.toList.length = (Lib.itoa 0).length by simp, List.length_append, List.length_nil]; omega)).mono ?_
  rintro e w1 ⟨rfl, hv⟩
  have N1 := Lib.hid hv
  obtain ⟨q0, q1, q2⟩ := val_cells N1.out.box
  clear hv N0
  go_wp2_with fail
  refine (HSA.out _).mono ?_
  rintro e w2 ⟨rfl, hb⟩
  have N2 := Lib.hid (N1.out.thn hb)
  obtain ⟨q0, q1, q2⟩ := val_cells N2.out.box
  clear hb N1
  go_wp2_with fail
  refine (FI.out _ N2.out.bel).mono ?_
  rintro e w3 ⟨rfl, hb⟩
  have N3 := Lib.hid (N2.out.thn hb)
  obtain ⟨q0, q1, q2⟩ := val_cells N3.out.box
  clear hb N2
  go_wp2_with fail
  refine (vt_write N3.out ⟨(Lib.itoa 0).toArray⟩ (by have := IL.out; simp only [show (⟨#[48]⟩ : BA).size = 1 from rfl, show (⟨#[45]⟩ : BA).size = 1 from rfl, show (⟨#[43]⟩ : BA).size = 1 from rfl, show E0.size = 0 from rfl, show E0.data.toList.length = 0 from rfl, show (⟨#[48]⟩ : BA).data.toList.length = 1 from rfl, show (⟨#[45]⟩ : BA).data.toList.length = 1 from rfl, show (⟨#[43]⟩ : BA).data.toList.length = 1 from rfl, show (⟨(Lib.itoa 0).toArray⟩ : BA).size = (Lib.itoa 0).length from rfl, show (⟨(Lib.itoa 0).toArray⟩ : BA).data.toList.length = (Lib.itoa 0).length by simp, List.length_append, List.length_nil]; omega)).mono ?_
  rintro e w4 ⟨rfl, hv⟩
  have N4 := Lib.hid hv
  obtain ⟨q0, q1, q2⟩ := val_cells N4.out.box
  clear hv N3
  go_wp2_with fail
  refine (Tryz.Builder_String_any_k (w.heap.size + 1) (w.heap.size + 1) _ _ N4.out.bld N4.out.size).mono ?_
  rintro e w5 ⟨rfl, -, hb, -⟩
  have HB := Lib.hid (N4.out.bel.trans (hb.mono (by omega)))
  clear hb
  go_wp2_with fail
  go_ret
  exact ⟨by rw [R.out]; first | rfl | (simp; done) | simp [E0], HB.out⟩
set_option maxRecDepth 100000 in
set_option maxHeartbeats 8000000 in
theorem vt_eel (n : Int) (w : World) (hG : GoodE w) (h0 : -9223372036854775808 ≤ n) (h1 : n ≤ 9223372036854775807) (hn : n < 0) :
    Calls Tryz.prog 24 #[vlV ((n : Int), E0, E0)] w fun e w' => e = .returned (.string ⟨(vtB ((n : Int), E0, E0)).toArray⟩) ∧ Below w.heap.size w w' := by
  have R := Lib.hid (show vtB ((n : Int), E0, E0) = ((([] : Bs) ++ E0.data.toList) ++ Lib.itoa n) by simp [vtB, hasS, show n ≠ 0 by omega, show ¬ 0 < n by omega])
  have N0 := Lib.hid (vt_new w ((n : Int), E0, E0))
  have HSA := Lib.hid (fun V => hasS_any ((n : Int), E0, E0) V)
  have FI := Lib.hid (fun V (hb : Below w.heap.size w V) => fmtI_any n h0 h1 V (hG.thn hb))
  have IL := Lib.hid (itoa_len n h0 h1)
  rw [show hasS ((n : Int), E0, E0) = false by simp [hasS]] at HSA
  unfold vlV at HSA ⊢
  simp only at HSA ⊢
  have hn0 : ¬ n = 0 := by omega
  have hn1 : ¬ 0 < n := by omega
  clear hG h0 h1
  go_enter Tryz.func24, Tryz.ntmps24
  go_wp2_with fail
  generalize (w.alloc (.cells #[.int .i64 n, .string E0, .string E0] 36)).alloc (.cells #[.pointer none, .slice none 0 0] 53) = W0 at *
  refine (vt_write N0.out E0 (by have := IL.out; simp only [show (⟨#[48]⟩ : BA).size = 1 from rfl, show (⟨#[45]⟩ : BA).size = 1 from rfl, show (⟨#[43]⟩ : BA).size = 1 from rfl, show E0.size = 0 from rfl, show E0.data.toList.length = 0 from rfl, show (⟨#[48]⟩ : BA).data.toList.length = 1 from rfl, show (⟨#[45]⟩ : BA).data.toList.length = 1 from rfl, show (⟨#[43]⟩ : BA).data.toList.length = 1 from rfl, show (⟨(Lib.itoa n).toArray⟩ : BA).size = (Lib.itoa n).length from rfl, show (⟨(Lib.itoa n).toArray⟩ : BA).data.toList.length = (Lib.itoa n).length by simp, List.length_append, List.length_nil]; omega)).mono ?_
  rintro e w1 ⟨rfl, hv⟩
  have N1 := Lib.hid hv
  obtain ⟨q0, q1, q2⟩ := val_cells N1.out.box
  clear hv N0
  go_wp2_with fail
  refine (FI.out _ N1.out.bel).mono ?_
  rintro e w2 ⟨rfl, hb⟩
  have N2 := Lib.hid (N1.out.thn hb)
  obtain ⟨q0, q1, q2⟩ := val_cells N2.out.box
  clear hb N1
  go_wp2_with fail
  refine (vt_write N2.out ⟨(Lib.itoa n).toArray⟩ (by have := IL.out; simp only [show (⟨#[48]⟩ : BA).size = 1 from rfl, show (⟨#[45]⟩ : BA).size = 1 from rfl, show (⟨#[43]⟩ : BA).size = 1 from rfl, show E0.size = 0 from rfl, show E0.data.toList.length = 0 from rfl, show (⟨#[48]⟩ : BA).data.toList.length = 1 from rfl, show (⟨#[45]⟩ : BA).data.toList.length = 1 from rfl, show (⟨#[43]⟩ : BA).data.toList.length = 1 from rfl, show (⟨(Lib.itoa n).toArray⟩ : BA).size = (Lib.itoa n).length from rfl, show (⟨(Lib.itoa n).toArray⟩ : BA).data.toList.length = (Lib.itoa n).length by simp, List.length_append, List.length_nil]; omega)).mono ?_
  rintro e w3 ⟨rfl, hv⟩
  have N3 := Lib.hid hv
  obtain ⟨q0, q1, q2⟩ := val_cells N3.out.box
  clear hv N2
  go_wp2_with fail
  refine (Tryz.Builder_String_any_k (w.heap.size + 1) (w.heap.size + 1) _ _ N3.out.bld N3.out.size).mono ?_
  rintro e w4 ⟨rfl, -, hb, -⟩
  have HB := Lib.hid (N3.out.bel.trans (hb.mono (by omega)))
  clear hb
  go_wp2_with fail
  go_ret
  exact ⟨by rw [R.out]; first | rfl | (simp; done) | simp [E0], HB.out⟩
set_option maxRecDepth 100000 in
set_option maxHeartbeats 8000000 in
theorem vt_emg (n : Int) (m : BA) (w : World) (hG : GoodE w) (h0 : -9223372036854775808 ≤ n) (h1 : n ≤ 9223372036854775807) (hn : 0 < n) (em : m ≠ E0) (hm : m.size ≤ 512) :
    Calls Tryz.prog 24 #[vlV ((n : Int), E0, m)] w fun e w' => e = .returned (.string ⟨(vtB ((n : Int), E0, m)).toArray⟩) ∧ Below w.heap.size w w' := by
  have R := Lib.hid (show vtB ((n : Int), E0, m) = ((((((([] : Bs) ++ E0.data.toList) ++ [48]) ++ [45]) ++ m.data.toList) ++ [43]) ++ Lib.itoa n) by simp [vtB, hasS, em, hn, show n ≠ 0 by omega])
  have N0 := Lib.hid (vt_new w ((n : Int), E0, m))
  have HSA := Lib.hid (fun V => hasS_any ((n : Int), E0, m) V)
  have FI := Lib.hid (fun V (hb : Below w.heap.size w V) => fmtI_any n h0 h1 V (hG.thn hb))
  have IL := Lib.hid (itoa_len n h0 h1)
  have em' := lit_no (l := []) em
  have HM := Lib.hid (show m.data.toList.length ≤ 512 by rw [← size_list]; exact hm)
  have HM' := Lib.hid hm
  rw [show hasS ((n : Int), E0, m) = true by simp [hasS, em]] at HSA
  unfold vlV at HSA ⊢
  simp only at HSA ⊢
  have hn0 : ¬ n = 0 := by omega
  clear hG h0 h1 hm em
  go_enter Tryz.func24, Tryz.ntmps24
  go_wp2_with fail
  generalize (w.alloc (.cells #[.int .i64 n, .string E0, .string m] 36)).alloc (.cells #[.pointer none, .slice none 0 0] 53) = W0 at *
  refine (vt_write N0.out E0 (by have := HM.out; have := HM'.out; have := IL.out; simp only [show (⟨#[48]⟩ : BA).size = 1 from rfl, show (⟨#[45]⟩ : BA).size = 1 from rfl, show (⟨#[43]⟩ : BA).size = 1 from rfl, show E0.size = 0 from rfl, show E0.data.toList.length = 0 from rfl, show (⟨#[48]⟩ : BA).data.toList.length = 1 from rfl, show (⟨#[45]⟩ : BA).data.toList.length = 1 from rfl, show (⟨#[43]⟩ : BA).data.toList.length = 1 from rfl, show (⟨(Lib.itoa n).toArray⟩ : BA).size = (Lib.itoa n).length from rfl, show (⟨(Lib.itoa n).toArray⟩ : BA).data.toList.length = (Lib.itoa n).length by simp, List.length_append, List.length_nil]; omega)).mono ?_
  rintro e w1 ⟨rfl, hv⟩
  have N1 := Lib.hid hv
  obtain ⟨q0, q1, q2⟩ := val_cells N1.out.box
  clear hv N0
  go_wp2_with fail
  refine (vt_write N1.out ⟨#[48]⟩ (by have := HM.out; have := HM'.out; have := IL.out; simp only [show (⟨#[48]⟩ : BA).size = 1 from rfl, show (⟨#[45]⟩ : BA).size = 1 from rfl, show (⟨#[43]⟩ : BA).size = 1 from rfl, show E0.size = 0 from rfl, show E0.data.toList.length = 0 from rfl, show (⟨#[48]⟩ : BA).data.toList.length = 1 from rfl, show (⟨#[45]⟩ : BA).data.toList.length = 1 from rfl, show (⟨#[43]⟩ : BA).data.toList.length = 1 from rfl, show (⟨(Lib.itoa n).toArray⟩ : BA).size = (Lib.itoa n).length from rfl, show (⟨(Lib.itoa n).toArray⟩ : BA).data.toList.length = (Lib.itoa n).length by simp, List.length_append, List.length_nil]; omega)).mono ?_
  rintro e w2 ⟨rfl, hv⟩
  have N2 := Lib.hid hv
  obtain ⟨q0, q1, q2⟩ := val_cells N2.out.box
  clear hv N1
  go_wp2_with fail
  refine (vt_write N2.out ⟨#[45]⟩ (by have := HM.out; have := HM'.out; have := IL.out; simp only [show (⟨#[48]⟩ : BA).size = 1 from rfl, show (⟨#[45]⟩ : BA).size = 1 from rfl, show (⟨#[43]⟩ : BA).size = 1 from rfl, show E0.size = 0 from rfl, show E0.data.toList.length = 0 from rfl, show (⟨#[48]⟩ : BA).data.toList.length = 1 from rfl, show (⟨#[45]⟩ : BA).data.toList.length = 1 from rfl, show (⟨#[43]⟩ : BA).data.toList.length = 1 from rfl, show (⟨(Lib.itoa n).toArray⟩ : BA).size = (Lib.itoa n).length from rfl, show (⟨(Lib.itoa n).toArray⟩ : BA).data.toList.length = (Lib.itoa n).length by simp, List.length_append, List.length_nil]; omega)).mono ?_
  rintro e w3 ⟨rfl, hv⟩
  have N3 := Lib.hid hv
  obtain ⟨q0, q1, q2⟩ := val_cells N3.out.box
  clear hv N2
  go_wp2_with fail
  refine (vt_write N3.out m (by have := HM.out; have := HM'.out; have := IL.out; simp only [show (⟨#[48]⟩ : BA).size = 1 from rfl, show (⟨#[45]⟩ : BA).size = 1 from rfl, show (⟨#[43]⟩ : BA).size = 1 from rfl, show E0.size = 0 from rfl, show E0.data.toList.length = 0 from rfl, show (⟨#[48]⟩ : BA).data.toList.length = 1 from rfl, show (⟨#[45]⟩ : BA).data.toList.length = 1 from rfl, show (⟨#[43]⟩ : BA).data.toList.length = 1 from rfl, show (⟨(Lib.itoa n).toArray⟩ : BA).size = (Lib.itoa n).length from rfl, show (⟨(Lib.itoa n).toArray⟩ : BA).data.toList.length = (Lib.itoa n).length by simp, List.length_append, List.length_nil]; omega)).mono ?_
  rintro e w4 ⟨rfl, hv⟩
  have N4 := Lib.hid hv
  obtain ⟨q0, q1, q2⟩ := val_cells N4.out.box
  clear hv N3
  go_wp2_with fail
  refine (HSA.out _).mono ?_
  rintro e w5 ⟨rfl, hb⟩
  have N5 := Lib.hid (N4.out.thn hb)
  obtain ⟨q0, q1, q2⟩ := val_cells N5.out.box
  clear hb N4
  go_wp2_with fail
  refine (vt_write N5.out ⟨#[43]⟩ (by have := HM.out; have := HM'.out; have := IL.out; simp only [show (⟨#[48]⟩ : BA).size = 1 from rfl, show (⟨#[45]⟩ : BA).size = 1 from rfl, show (⟨#[43]⟩ : BA).size = 1 from rfl, show E0.size = 0 from rfl, show E0.data.toList.length = 0 from rfl, show (⟨#[48]⟩ : BA).data.toList.length = 1 from rfl, show (⟨#[45]⟩ : BA).data.toList.length = 1 from rfl, show (⟨#[43]⟩ : BA).data.toList.length = 1 from rfl, show (⟨(Lib.itoa n).toArray⟩ : BA).size = (Lib.itoa n).length from rfl, show (⟨(Lib.itoa n).toArray⟩ : BA).data.toList.length = (Lib.itoa n).length by simp, List.length_append, List.length_nil]; omega)).mono ?_
  rintro e w6 ⟨rfl, hv⟩
  have N6 := Lib.hid hv
  obtain ⟨q0, q1, q2⟩ := val_cells N6.out.box
  clear hv N5
  go_wp2_with fail
  refine (FI.out _ N6.out.bel).mono ?_
  rintro e w7 ⟨rfl, hb⟩
  have N7 := Lib.hid (N6.out.thn hb)
  obtain ⟨q0, q1, q2⟩ := val_cells N7.out.box
  clear hb N6
  go_wp2_with fail
  refine (vt_write N7.out ⟨(Lib.itoa n).toArray⟩ (by have := HM.out; have := HM'.out; have := IL.out; simp only [show (⟨#[48]⟩ : BA).size = 1 from rfl, show (⟨#[45]⟩ : BA).size = 1 from rfl, show (⟨#[43]⟩ : BA).size = 1 from rfl, show E0.size = 0 from rfl, show E0.data.toList.length = 0 from rfl, show (⟨#[48]⟩ : BA).data.toList.length = 1 from rfl, show (⟨#[45]⟩ : BA).data.toList.length = 1 from rfl, show (⟨#[43]⟩ : BA).data.toList.length = 1 from rfl, show (⟨(Lib.itoa n).toArray⟩ : BA).size = (Lib.itoa n).length from rfl, show (⟨(Lib.itoa n).toArray⟩ : BA).data.toList.length = (Lib.itoa n).length by simp, List.length_append, List.length_nil]; omega)).mono ?_
  rintro e w8 ⟨rfl, hv⟩
  have N8 := Lib.hid hv
  obtain ⟨q0, q1, q2⟩ := val_cells N8.out.box
  clear hv N7
  go_wp2_with fail
  refine (Tryz.Builder_String_any_k (w.heap.size + 1) (w.heap.size + 1) _ _ N8.out.bld N8.out.size).mono ?_
  rintro e w9 ⟨rfl, -, hb, -⟩
  have HB := Lib.hid (N8.out.bel.trans (hb.mono (by omega)))
  clear hb
  go_wp2_with fail
  go_ret
  exact ⟨by rw [R.out]; first | rfl | (simp; done) | simp [E0], HB.out⟩
set_option maxRecDepth 100000 in
set_option maxHeartbeats 8000000 in
theorem vt_emz (m : BA) (w : World) (hG : GoodE w) (em : m ≠ E0) (hm : m.size ≤ 512) :
    Calls Tryz.prog 24 #[vlV ((0 : Int), E0, m)] w fun e w' => e = .returned (.string ⟨(vtB ((0 : Int), E0, m)).toArray⟩) ∧ Below w.heap.size w w' := by
  have R := Lib.hid (show vtB ((0 : Int), E0, m) = ((((([] : Bs) ++ E0.data.toList) ++ [48]) ++ [45]) ++ m.data.toList) by simp [vtB, hasS, em])
  have N0 := Lib.hid (vt_new w ((0 : Int), E0, m))
  have HSA := Lib.hid (fun V => hasS_any ((0 : Int), E0, m) V)
  have FI := Lib.hid (fun V (hb : Below w.heap.size w V) => fmtI_any 0 (by decide) (by decide) V (hG.thn hb))
  have IL := Lib.hid (itoa_len 0 (by decide) (by decide))
  have em' := lit_no (l := []) em
  have HM := Lib.hid (show m.data.toList.length ≤ 512 by rw [← size_list]; exact hm)
  have HM' := Lib.hid hm
  rw [show hasS ((0 : Int), E0, m) = true by simp [hasS, em]] at HSA
  unfold vlV at HSA ⊢
  simp only at HSA ⊢
  clear hG hm em
  go_enter Tryz.func24, Tryz.ntmps24
  go_wp2_with fail
  generalize (w.alloc (.cells #[.int .i64 0, .string E0, .string m] 36)).alloc (.cells #[.pointer none, .slice none 0 0] 53) = W0 at *
  refine (vt_write N0.out E0 (by have := HM.out; have := HM'.out; have := IL.out; simp only [show (⟨#[48]⟩ : BA).size = 1 from rfl, show (⟨#[45]⟩ : BA).size = 1 from rfl, show (⟨#[43]⟩ : BA).size = 1 from rfl, show E0.size = 0 from rfl, show E0.data.toList.length = 0 from rfl, show (⟨#[48]⟩ : BA).data.toList.length = 1 from rfl, show (⟨#[45]⟩ : BA).data.toList.length = 1 from rfl, show (⟨#[43]⟩ : BA).data.toList.length = 1 from rfl, show (⟨(Lib.itoa 0).toArray⟩ : BA).size = (Lib.itoa 0).length from rfl, show (⟨(Lib.itoa 0).toArray⟩ : BA).data.toList.length = (Lib.itoa 0).length by simp, List.length_append, List.length_nil]; omega)).mono ?_
  rintro e w1 ⟨rfl, hv⟩
  have N1 := Lib.hid hv
  obtain ⟨q0, q1, q2⟩ := val_cells N1.out.box
  clear hv N0
  go_wp2_with fail
  refine (vt_write N1.out ⟨#[48]⟩ (by have := HM.out; have := HM'.out; have := IL.out; simp only [show (⟨#[48]⟩ : BA).size = 1 from rfl, show (⟨#[45]⟩ : BA).size = 1 from rfl, show (⟨#[43]⟩ : BA).size = 1 from rfl, show E0.size = 0 from rfl, show E0.data.toList.length = 0 from rfl, show (⟨#[48]⟩ : BA).data.toList.length = 1 from rfl, show (⟨#[45]⟩ : BA).data.toList.length = 1 from rfl, show (⟨#[43]⟩ : BA).data.toList.length = 1 from rfl, show (⟨(Lib.itoa 0).toArray⟩ : BA).size = (Lib.itoa 0).length from rfl, show (⟨(Lib.itoa 0).toArray⟩ : BA).data.toList.length = (Lib.itoa 0).length by simp, List.length_append, List.length_nil]; omega)).mono ?_
  rintro e w2 ⟨rfl, hv⟩
  have N2 := Lib.hid hv
  obtain ⟨q0, q1, q2⟩ := val_cells N2.out.box
  clear hv N1
  go_wp2_with fail
  refine (vt_write N2.out ⟨#[45]⟩ (by have := HM.out; have := HM'.out; have := IL.out; simp only [show (⟨#[48]⟩ : BA).size = 1 from rfl, show (⟨#[45]⟩ : BA).size = 1 from rfl, show (⟨#[43]⟩ : BA).size = 1 from rfl, show E0.size = 0 from rfl, show E0.data.toList.length = 0 from rfl, show (⟨#[48]⟩ : BA).data.toList.length = 1 from rfl, show (⟨#[45]⟩ : BA).data.toList.length = 1 from rfl, show (⟨#[43]⟩ : BA).data.toList.length = 1 from rfl, show (⟨(Lib.itoa 0).toArray⟩ : BA).size = (Lib.itoa 0).length from rfl, show (⟨(Lib.itoa 0).toArray⟩ : BA).data.toList.length = (Lib.itoa 0).length by simp, List.length_append, List.length_nil]; omega)).mono ?_
  rintro e w3 ⟨rfl, hv⟩
  have N3 := Lib.hid hv
  obtain ⟨q0, q1, q2⟩ := val_cells N3.out.box
  clear hv N2
  go_wp2_with fail
  refine (vt_write N3.out m (by have := HM.out; have := HM'.out; have := IL.out; simp only [show (⟨#[48]⟩ : BA).size = 1 from rfl, show (⟨#[45]⟩ : BA).size = 1 from rfl, show (⟨#[43]⟩ : BA).size = 1 from rfl, show E0.size = 0 from rfl, show E0.data.toList.length = 0 from rfl, show (⟨#[48]⟩ : BA).data.toList.length = 1 from rfl, show (⟨#[45]⟩ : BA).data.toList.length = 1 from rfl, show (⟨#[43]⟩ : BA).data.toList.length = 1 from rfl, show (⟨(Lib.itoa 0).toArray⟩ : BA).size = (Lib.itoa 0).length from rfl, show (⟨(Lib.itoa 0).toArray⟩ : BA).data.toList.length = (Lib.itoa 0).length by simp, List.length_append, List.length_nil]; omega)).mono ?_
  rintro e w4 ⟨rfl, hv⟩
  have N4 := Lib.hid hv
  obtain ⟨q0, q1, q2⟩ := val_cells N4.out.box
  clear hv N3
  go_wp2_with fail
  refine (HSA.out _).mono ?_
  rintro e w5 ⟨rfl, hb⟩
  have N5 := Lib.hid (N4.out.thn hb)
  obtain ⟨q0, q1, q2⟩ := val_cells N5.out.box
  clear hb N4
  go_wp2_with fail
  refine (Tryz.Builder_String_any_k (w.heap.size + 1) (w.heap.size + 1) _ _ N5.out.bld N5.out.size).mono ?_
  rintro e w6 ⟨rfl, -, hb, -⟩
  have HB := Lib.hid (N5.out.bel.trans (hb.mono (by omega)))
  clear hb
  go_wp2_with fail
  go_ret
  exact ⟨by rw [R.out]; first | rfl | (simp; done) | simp [E0], HB.out⟩
set_option maxRecDepth 100000 in
set_option maxHeartbeats 8000000 in
theorem vt_eml (n : Int) (m : BA) (w : World) (hG : GoodE w) (h0 : -9223372036854775808 ≤ n) (h1 : n ≤ 9223372036854775807) (hn : n < 0) (em : m ≠ E0) (hm : m.size ≤ 512) :
    Calls Tryz.prog 24 #[vlV ((n : Int), E0, m)] w fun e w' => e = .returned (.string ⟨(vtB ((n : Int), E0, m)).toArray⟩) ∧ Below w.heap.size w w' := by
  have R := Lib.hid (show vtB ((n : Int), E0, m) = (((((([] : Bs) ++ E0.data.toList) ++ [48]) ++ [45]) ++ m.data.toList) ++ Lib.itoa n) by simp [vtB, hasS, em, show n ≠ 0 by omega, show ¬ 0 < n by omega])
  have N0 := Lib.hid (vt_new w ((n : Int), E0, m))
  have HSA := Lib.hid (fun V => hasS_any ((n : Int), E0, m) V)
  have FI := Lib.hid (fun V (hb : Below w.heap.size w V) => fmtI_any n h0 h1 V (hG.thn hb))
  have IL := Lib.hid (itoa_len n h0 h1)
  have em' := lit_no (l := []) em
  have HM := Lib.hid (show m.data.toList.length ≤ 512 by rw [← size_list]; exact hm)
  have HM' := Lib.hid hm
  rw [show hasS ((n : Int), E0, m) = true by simp [hasS, em]] at HSA
  unfold vlV at HSA ⊢
  simp only at HSA ⊢
  have hn0 : ¬ n = 0 := by omega
  have hn1 : ¬ 0 < n := by omega
  clear hG h0 h1 hm em
  go_enter Tryz.func24, Tryz.ntmps24
  go_wp2_with fail
  generalize (w.alloc (.cells #[.int .i64 n, .string E0, .string m] 36)).alloc (.cells #[.pointer none, .slice none 0 0] 53) = W0 at *
  refine (vt_write N0.out E0 (by have := HM.out; have := HM'.out; have := IL.out; simp only [show (⟨#[48]⟩ : BA).size = 1 from rfl, show (⟨#[45]⟩ : BA).size = 1 from rfl, show (⟨#[43]⟩ : BA).size = 1 from rfl, show E0.size = 0 from rfl, show E0.data.toList.length = 0 from rfl, show (⟨#[48]⟩ : BA).data.toList.length = 1 from rfl, show (⟨#[45]⟩ : BA).data.toList.length = 1 from rfl, show (⟨#[43]⟩ : BA).data.toList.length = 1 from rfl, show (⟨(Lib.itoa n).toArray⟩ : BA).size = (Lib.itoa n).length from rfl, show (⟨(Lib.itoa n).toArray⟩ : BA).data.toList.length = (Lib.itoa n).length by simp, List.length_append, List.length_nil]; omega)).mono ?_
  rintro e w1 ⟨rfl, hv⟩
  have N1 := Lib.hid hv
  obtain ⟨q0, q1, q2⟩ := val_cells N1.out.box
  clear hv N0
  go_wp2_with fail
  refine (vt_write N1.out ⟨#[48]⟩ (by have := HM.out; have := HM'.out; have := IL.out; simp only [show (⟨#[48]⟩ : BA).size = 1 from rfl, show (⟨#[45]⟩ : BA).size = 1 from rfl, show (⟨#[43]⟩ : BA).size = 1 from rfl, show E0.size = 0 from rfl, show E0.data.toList.length = 0 from rfl, show (⟨#[48]⟩ : BA).data.toList.length = 1 from rfl, show (⟨#[45]⟩ : BA).data.toList.length = 1 from rfl, show (⟨#[43]⟩ : BA).data.toList.length = 1 from rfl, show (⟨(Lib.itoa n).toArray⟩ : BA).size = (Lib.itoa n).length from rfl, show (⟨(Lib.itoa n).toArray⟩ : BA).data.toList.length = (Lib.itoa n).length by simp, List.length_append, List.length_nil]; omega)).mono ?_
  rintro e w2 ⟨rfl, hv⟩
  have N2 := Lib.hid hv
  obtain ⟨q0, q1, q2⟩ := val_cells N2.out.box
  clear hv N1
  go_wp2_with fail
  refine (vt_write N2.out ⟨#[45]⟩ (by have := HM.out; have := HM'.out; have := IL.out; simp only [show (⟨#[48]⟩ : BA).size = 1 from rfl, show (⟨#[45]⟩ : BA).size = 1 from rfl, show (⟨#[43]⟩ : BA).size = 1 from rfl, show E0.size = 0 from rfl, show E0.data.toList.length = 0 from rfl, show (⟨#[48]⟩ : BA).data.toList.length = 1 from rfl, show (⟨#[45]⟩ : BA).data.toList.length = 1 from rfl, show (⟨#[43]⟩ : BA).data.toList.length = 1 from rfl, show (⟨(Lib.itoa n).toArray⟩ : BA).size = (Lib.itoa n).length from rfl, show (⟨(Lib.itoa n).toArray⟩ : BA).data.toList.length = (Lib.itoa n).length by simp, List.length_append, List.length_nil]; omega)).mono ?_
  rintro e w3 ⟨rfl, hv⟩
  have N3 := Lib.hid hv
  obtain ⟨q0, q1, q2⟩ := val_cells N3.out.box
  clear hv N2
  go_wp2_with fail
  refine (vt_write N3.out m (by have := HM.out; have := HM'.out; have := IL.out; simp only [show (⟨#[48]⟩ : BA).size = 1 from rfl, show (⟨#[45]⟩ : BA).size = 1 from rfl, show (⟨#[43]⟩ : BA).size = 1 from rfl, show E0.size = 0 from rfl, show E0.data.toList.length = 0 from rfl, show (⟨#[48]⟩ : BA).data.toList.length = 1 from rfl, show (⟨#[45]⟩ : BA).data.toList.length = 1 from rfl, show (⟨#[43]⟩ : BA).data.toList.length = 1 from rfl, show (⟨(Lib.itoa n).toArray⟩ : BA).size = (Lib.itoa n).length from rfl, show (⟨(Lib.itoa n).toArray⟩ : BA).data.toList.length = (Lib.itoa n).length by simp, List.length_append, List.length_nil]; omega)).mono ?_
  rintro e w4 ⟨rfl, hv⟩
  have N4 := Lib.hid hv
  obtain ⟨q0, q1, q2⟩ := val_cells N4.out.box
  clear hv N3
  go_wp2_with fail
  refine (FI.out _ N4.out.bel).mono ?_
  rintro e w5 ⟨rfl, hb⟩
  have N5 := Lib.hid (N4.out.thn hb)
  obtain ⟨q0, q1, q2⟩ := val_cells N5.out.box
  clear hb N4
  go_wp2_with fail
  refine (vt_write N5.out ⟨(Lib.itoa n).toArray⟩ (by have := HM.out; have := HM'.out; have := IL.out; simp only [show (⟨#[48]⟩ : BA).size = 1 from rfl, show (⟨#[45]⟩ : BA).size = 1 from rfl, show (⟨#[43]⟩ : BA).size = 1 from rfl, show E0.size = 0 from rfl, show E0.data.toList.length = 0 from rfl, show (⟨#[48]⟩ : BA).data.toList.length = 1 from rfl, show (⟨#[45]⟩ : BA).data.toList.length = 1 from rfl, show (⟨#[43]⟩ : BA).data.toList.length = 1 from rfl, show (⟨(Lib.itoa n).toArray⟩ : BA).size = (Lib.itoa n).length from rfl, show (⟨(Lib.itoa n).toArray⟩ : BA).data.toList.length = (Lib.itoa n).length by simp, List.length_append, List.length_nil]; omega)).mono ?_
  rintro e w6 ⟨rfl, hv⟩
  have N6 := Lib.hid hv
  obtain ⟨q0, q1, q2⟩ := val_cells N6.out.box
  clear hv N5
  go_wp2_with fail
  refine (Tryz.Builder_String_any_k (w.heap.size + 1) (w.heap.size + 1) _ _ N6.out.bld N6.out.size).mono ?_
  rintro e w7 ⟨rfl, -, hb, -⟩
  have HB := Lib.hid (N6.out.bel.trans (hb.mono (by omega)))
  clear hb
  go_wp2_with fail
  go_ret
  exact ⟨by rw [R.out]; first | rfl | (simp; done) | simp [E0], HB.out⟩
set_option maxRecDepth 100000 in
set_option maxHeartbeats 8000000 in
theorem vt_peg (n : Int) (p : BA) (w : World) (hG : GoodE w) (h0 : -9223372036854775808 ≤ n) (h1 : n ≤ 9223372036854775807) (hn : 0 < n) (ep : p ≠ E0) (hp : p.size ≤ 512) :
    Calls Tryz.prog 24 #[vlV ((n : Int), p, E0)] w fun e w' => e = .returned (.string ⟨(vtB ((n : Int), p, E0)).toArray⟩) ∧ Below w.heap.size w w' := by
  have R := Lib.hid (show vtB ((n : Int), p, E0) = (((([] : Bs) ++ p.data.toList) ++ [43]) ++ Lib.itoa n) by simp [vtB, hasS, ep, hn, show n ≠ 0 by omega])
  have N0 := Lib.hid (vt_new w ((n : Int), p, E0))
  have HSA := Lib.hid (fun V => hasS_any ((n : Int), p, E0) V)
  have FI := Lib.hid (fun V (hb : Below w.heap.size w V) => fmtI_any n h0 h1 V (hG.thn hb))
  have IL := Lib.hid (itoa_len n h0 h1)
  have ep' := lit_no (l := []) ep
  have HP := Lib.hid (show p.data.toList.length ≤ 512 by rw [← size_list]; exact hp)
  have HP' := Lib.hid hp
  rw [show hasS ((n : Int), p, E0) = true by simp [hasS, ep]] at HSA
  unfold vlV at HSA ⊢
  simp only at HSA ⊢
  have hn0 : ¬ n = 0 := by omega
  clear hG h0 h1 hp ep
  go_enter Tryz.func24, Tryz.ntmps24
  go_wp2_with fail
  generalize (w.alloc (.cells #[.int .i64 n, .string p, .string E0] 36)).alloc (.cells #[.pointer none, .slice none 0 0] 53) = W0 at *
  refine (vt_write N0.out p (by have := HP.out; have := HP'.out; have := IL.out; simp only [show (⟨#[48]⟩ : BA).size = 1 from rfl, show (⟨#[45]⟩ : BA).size = 1 from rfl, show (⟨#[43]⟩ : BA).size = 1 from rfl, show E0.size = 0 from rfl, show E0.data.toList.length = 0 from rfl, show (⟨#[48]⟩ : BA).data.toList.length = 1 from rfl, show (⟨#[45]⟩ : BA).data.toList.length = 1 from rfl, show (⟨#[43]⟩ : BA).data.toList.length = 1 from rfl, show (⟨(Lib.itoa n).toArray⟩ : BA).size = (Lib.itoa n).length from rfl, show (⟨(Lib.itoa n).toArray⟩ : BA).data.toList.length = (Lib.itoa n).length by simp, List.length_append, List.length_nil]; omega)).mono ?_
  rintro e w1 ⟨rfl, hv⟩
  have N1 := Lib.hid hv
  obtain ⟨q0, q1, q2⟩ := val_cells N1.out.box
  clear hv N0
  go_wp2_with fail
  refine (HSA.out _).mono ?_
  rintro e w2 ⟨rfl, hb⟩
  have N2 := Lib.hid (N1.out.thn hb)
  obtain ⟨q0, q1, q2⟩ := val_cells N2.out.box
  clear hb N1
  go_wp2_with fail
  refine (vt_write N2.out ⟨#[43]⟩ (by have := HP.out; have := HP'.out; have := IL.out; simp only [show (⟨#[48]⟩ : BA).size = 1 from rfl, show (⟨#[45]⟩ : BA).size = 1 from rfl, show (⟨#[43]⟩ : BA).size = 1 from rfl, show E0.size = 0 from rfl, show E0.data.toList.length = 0 from rfl, show (⟨#[48]⟩ : BA).data.toList.length = 1 from rfl, show (⟨#[45]⟩ : BA).data.toList.length = 1 from rfl, show (⟨#[43]⟩ : BA).data.toList.length = 1 from rfl, show (⟨(Lib.itoa n).toArray⟩ : BA).size = (Lib.itoa n).length from rfl, show (⟨(Lib.itoa n).toArray⟩ : BA).data.toList.length = (Lib.itoa n).length by simp, List.length_append, List.length_nil]; omega)).mono ?_
  rintro e w3 ⟨rfl, hv⟩
  have N3 := Lib.hid hv
  obtain ⟨q0, q1, q2⟩ := val_cells N3.out.box
  clear hv N2
  go_wp2_with fail
  refine (FI.out _ N3.out.bel).mono ?_
  rintro e w4 ⟨rfl, hb⟩
  have N4 := Lib.hid (N3.out.thn hb)
  obtain ⟨q0, q1, q2⟩ := val_cells N4.out.box
  clear hb N3
  go_wp2_with fail
  refine (vt_write N4.out ⟨(Lib.itoa n).toArray⟩ (by have := HP.out; have := HP'.out; have := IL.out; simp only [show (⟨#[48]⟩ : BA).size = 1 from rfl, show (⟨#[45]⟩ : BA).size = 1 from rfl, show (⟨#[43]⟩ : BA).size = 1 from rfl, show E0.size = 0 from rfl, show E0.data.toList.length = 0 from rfl, show (⟨#[48]⟩ : BA).data.toList.length = 1 from rfl, show (⟨#[45]⟩ : BA).data.toList.length = 1 from rfl, show (⟨#[43]⟩ : BA).data.toList.length = 1 from rfl, show (⟨(Lib.itoa n).toArray⟩ : BA).size = (Lib.itoa n).length from rfl, show (⟨(Lib.itoa n).toArray⟩ : BA).data.toList.length = (Lib.itoa n).length by simp, List.length_append, List.length_nil]; omega)).mono ?_
  rintro e w5 ⟨rfl, hv⟩
  have N5 := Lib.hid hv
  obtain ⟨q0, q1, q2⟩ := val_cells N5.out.box
  clear hv N4
  go_wp2_with fail
  refine (Tryz.Builder_String_any_k (w.heap.size + 1) (w.heap.size + 1) _ _ N5.out.bld N5.out.size).mono ?_
  rintro e w6 ⟨rfl, -, hb, -⟩
  have HB := Lib.hid (N5.out.bel.trans (hb.mono (by omega)))
  clear hb
  go_wp2_with fail
  go_ret
  exact ⟨by rw [R.out]; first | rfl | (simp; done) | simp [E0], HB.out⟩
set_option maxRecDepth 100000 in
set_option maxHeartbeats 8000000 in
theorem vt_pez (p : BA) (w : World) (hG : GoodE w) (ep : p ≠ E0) (hp : p.size ≤ 512) :
    Calls Tryz.prog 24 #[vlV ((0 : Int), p, E0)] w fun e w' => e = .returned (.string ⟨(vtB ((0 : Int), p, E0)).toArray⟩) ∧ Below w.heap.size w w' := by
  have R := Lib.hid (show vtB ((0 : Int), p, E0) = (([] : Bs) ++ p.data.toList) by simp [vtB, hasS, ep])
  have N0 := Lib.hid (vt_new w ((0 : Int), p, E0))
  have HSA := Lib.hid (fun V => hasS_any ((0 : Int), p, E0) V)
  have FI := Lib.hid (fun V (hb : Below w.heap.size w V) => fmtI_any 0 (by decide) (by decide) V (hG.thn hb))
  have IL := Lib.hid (itoa_len 0 (by decide) (by decide))
  have ep' := lit_no (l := []) ep
  have HP := Lib.hid (show p.data.toList.length ≤ 512 by rw [← size_list]; exact hp)
  have HP' := Lib.hid hp
  rw [show hasS ((0 : Int), p, E0) = true by simp [hasS, ep]] at HSA
  unfold vlV at HSA ⊢
  simp only at HSA ⊢
  clear hG hp ep
  go_enter Tryz.func24, Tryz.ntmps24
  go_wp2_with fail
  generalize (w.alloc (.cells #[.int .i64 0, .string p, .string E0] 36)).alloc (.cells #[.pointer none, .slice none 0 0] 53) = W0 at *
  refine (vt_write N0.out p (by have := HP.out; have := HP'.out; have := IL.out; simp only [show (⟨#[48]⟩ : BA).size = 1 from rfl, show (⟨#[45]⟩ : BA).size = 1 from rfl, show (⟨#[43]⟩ : BA).size = 1 from rfl, show E0.size = 0 from rfl, show E0.data.toList.length = 0 from rfl, show (⟨#[48]⟩ : BA).data.toList.length = 1 from rfl, show (⟨#[45]⟩ : BA).data.toList.length = 1 from rfl, show (⟨#[43]⟩ : BA).data.toList.length = 1 from rfl, show (⟨(Lib.itoa 0).toArray⟩ : BA).size = (Lib.itoa 0).length from rfl, show (⟨(Lib.itoa 0).toArray⟩ : BA).data.toList.length = (Lib.itoa 0).length by simp, List.length_append, List.length_nil]; omega)).mono ?_
  rintro e w1 ⟨rfl, hv⟩
  have N1 := Lib.hid hv
  obtain ⟨q0, q1, q2⟩ := val_cells N1.out.box
  clear hv N0
  go_wp2_with fail
  refine (HSA.out _).mono ?_
  rintro e w2 ⟨rfl, hb⟩
  have N2 := Lib.hid (N1.out.thn hb)
  obtain ⟨q0, q1, q2⟩ := val_cells N2.out.box
  clear hb N1
  go_wp2_with fail
  refine (Tryz.Builder_String_any_k (w.heap.size + 1) (w.heap.size + 1) _ _ N2.out.bld N2.out.size).mono ?_
  rintro e w3 ⟨rfl, -, hb, -⟩
  have HB := Lib.hid (N2.out.bel.trans (hb.mono (by omega)))
  clear hb
  go_wp2_with fail
  go_ret
  exact ⟨by rw [R.out]; first | rfl | (simp; done) | simp [E0], HB.out⟩
set_option maxRecDepth 100000 in
set_option maxHeartbeats 8000000 in
theorem vt_pel (n : Int) (p : BA) (w : World) (hG : GoodE w) (h0 : -9223372036854775808 ≤ n) (h1 : n ≤ 9223372036854775807) (hn : n < 0) (ep : p ≠ E0) (hp : p.size ≤ 512) :
    Calls Tryz.prog 24 #[vlV ((n : Int), p, E0)] w fun e w' => e = .returned (.string ⟨(vtB ((n : Int), p, E0)).toArray⟩) ∧ Below w.heap.size w w' := by
  have R := Lib.hid (show vtB ((n : Int), p, E0) = ((([] : Bs) ++ p.data.toList) ++ Lib.itoa n) by simp [vtB, hasS, ep, show n ≠ 0 by omega, show ¬ 0 < n by omega])
  have N0 := Lib.hid (vt_new w ((n : Int), p, E0))
  have HSA := Lib.hid (fun V => hasS_any ((n : Int), p, E0) V)
  have FI := Lib.hid (fun V (hb : Below w.heap.size w V) => fmtI_any n h0 h1 V (hG.thn hb))
  have IL := Lib.hid (itoa_len n h0 h1)
  have ep' := lit_no (l := []) ep
  have HP := Lib.hid (show p.data.toList.length ≤ 512 by rw [← size_list]; exact hp)
  have HP' := Lib.hid hp
  rw [show hasS ((n : Int), p, E0) = true by simp [hasS, ep]] at HSA
  unfold vlV at HSA ⊢
  simp only at HSA ⊢
  have hn0 : ¬ n = 0 := by omega
  have hn1 : ¬ 0 < n := by omega
  clear hG h0 h1 hp ep
  go_enter Tryz.func24, Tryz.ntmps24
  go_wp2_with fail
  generalize (w.alloc (.cells #[.int .i64 n, .string p, .string E0] 36)).alloc (.cells #[.pointer none, .slice none 0 0] 53) = W0 at *
  refine (vt_write N0.out p (by have := HP.out; have := HP'.out; have := IL.out; simp only [show (⟨#[48]⟩ : BA).size = 1 from rfl, show (⟨#[45]⟩ : BA).size = 1 from rfl, show (⟨#[43]⟩ : BA).size = 1 from rfl, show E0.size = 0 from rfl, show E0.data.toList.length = 0 from rfl, show (⟨#[48]⟩ : BA).data.toList.length = 1 from rfl, show (⟨#[45]⟩ : BA).data.toList.length = 1 from rfl, show (⟨#[43]⟩ : BA).data.toList.length = 1 from rfl, show (⟨(Lib.itoa n).toArray⟩ : BA).size = (Lib.itoa n).length from rfl, show (⟨(Lib.itoa n).toArray⟩ : BA).data.toList.length = (Lib.itoa n).length by simp, List.length_append, List.length_nil]; omega)).mono ?_
  rintro e w1 ⟨rfl, hv⟩
  have N1 := Lib.hid hv
  obtain ⟨q0, q1, q2⟩ := val_cells N1.out.box
  clear hv N0
  go_wp2_with fail
  refine (FI.out _ N1.out.bel).mono ?_
  rintro e w2 ⟨rfl, hb⟩
  have N2 := Lib.hid (N1.out.thn hb)
  obtain ⟨q0, q1, q2⟩ := val_cells N2.out.box
  clear hb N1
  go_wp2_with fail
  refine (vt_write N2.out ⟨(Lib.itoa n).toArray⟩ (by have := HP.out; have := HP'.out; have := IL.out; simp only [show (⟨#[48]⟩ : BA).size = 1 from rfl, show (⟨#[45]⟩ : BA).size = 1 from rfl, show (⟨#[43]⟩ : BA).size = 1 from rfl, show E0.size = 0 from rfl, show E0.data.toList.length = 0 from rfl, show (⟨#[48]⟩ : BA).data.toList.length = 1 from rfl, show (⟨#[45]⟩ : BA).data.toList.length = 1 from rfl, show (⟨#[43]⟩ : BA).data.toList.length = 1 from rfl, show (⟨(Lib.itoa n).toArray⟩ : BA).size = (Lib.itoa n).length from rfl, show (⟨(Lib.itoa n).toArray⟩ : BA).data.toList.length = (Lib.itoa n).length by simp, List.length_append, List.length_nil]; omega)).mono ?_
  rintro e w3 ⟨rfl, hv⟩
  have N3 := Lib.hid hv
  obtain ⟨q0, q1, q2⟩ := val_cells N3.out.box
  clear hv N2
  go_wp2_with fail
  refine (Tryz.Builder_String_any_k (w.heap.size + 1) (w.heap.size + 1) _ _ N3.out.bld N3.out.size).mono ?_
  rintro e w4 ⟨rfl, -, hb, -⟩
  have HB := Lib.hid (N3.out.bel.trans (hb.mono (by omega)))
  clear hb
  go_wp2_with fail
  go_ret
  exact ⟨by rw [R.out]; first | rfl | (simp; done) | simp [E0], HB.out⟩
set_option maxRecDepth 100000 in
set_option maxHeartbeats 8000000 in
theorem vt_pmg (n : Int) (p : BA) (m : BA) (w : World) (hG : GoodE w) (h0 : -9223372036854775808 ≤ n) (h1 : n ≤ 9223372036854775807) (hn : 0 < n) (ep : p ≠ E0) (hp : p.size ≤ 512) (em : m ≠ E0) (hm : m.size ≤ 512) :
    Calls Tryz.prog 24 #[vlV ((n : Int), p, m)] w fun e w' => e = .returned (.string ⟨(vtB ((n : Int), p, m)).toArray⟩) ∧ Below w.heap.size w w' := by
  have R := Lib.hid (show vtB ((n : Int), p, m) = (((((([] : Bs) ++ p.data.toList) ++ [45]) ++ m.data.toList) ++ [43]) ++ Lib.itoa n) by simp [vtB, hasS, ep, em, hn, show n ≠ 0 by omega])
  have N0 := Lib.hid (vt_new w ((n : Int), p, m))
  have HSA := Lib.hid (fun V => hasS_any ((n : Int), p, m) V)
  have FI := Lib.hid (fun V (hb : Below w.heap.size w V) => fmtI_any n h0 h1 V (hG.thn hb))
  have IL := Lib.hid (itoa_len n h0 h1)
  have ep' := lit_no (l := []) ep
  have HP := Lib.hid (show p.data.toList.length ≤ 512 by rw [← size_list]; exact hp)
  have HP' := Lib.hid hp
  have em' := lit_no (l := []) em
  have HM := Lib.hid (show m.data.toList.length ≤ 512 by rw [← size_list]; exact hm)
  have HM' := Lib.hid hm
  rw [show hasS ((n : Int), p, m) = true by simp [hasS, ep, em]] at HSA
  unfold vlV at HSA ⊢
  simp only at HSA ⊢
  have hn0 : ¬ n = 0 := by omega
  clear hG h0 h1 hp ep hm em
  go_enter Tryz.func24, Tryz.ntmps24
  go_wp2_with fail
  generalize (w.alloc (.cells #[.int .i64 n, .string p, .string m] 36)).alloc (.cells #[.pointer none, .slice none 0 0] 53) = W0 at *
  refine (vt_write N0.out p (by have := HP.out; have := HP'.out; have := HM.out; have := HM'.out; have := IL.out; simp only [show (⟨#[48]⟩ : BA).size = 1 from rfl, show (⟨#[45]⟩ : BA).size = 1 from rfl, show (⟨#[43]⟩ : BA).size = 1 from rfl, show E0.size = 0 from rfl, show E0.data.toList.length = 0 from rfl, show (⟨#[48]⟩ : BA).data.toList.length = 1 from rfl, show (⟨#[45]⟩ : BA).data.toList.length = 1 from rfl, show (⟨#[43]⟩ : BA).data.toList.length = 1 from rfl, show (⟨(Lib.itoa n).toArray⟩ : BA).size = (Lib.itoa n).length from rfl, show (⟨(Lib.itoa n).toArray⟩ : BA).data.toList.length = (Lib.itoa n).length by simp, List.length_append, List.length_nil]; omega)).mono ?_
  rintro e w1 ⟨rfl, hv⟩
  have N1 := Lib.hid hv
  obtain ⟨q0, q1, q2⟩ := val_cells N1.out.box
  clear hv N0
  go_wp2_with fail
  refine (vt_write N1.out ⟨#[45]⟩ (by have := HP.out; have := HP'.out; have := HM.out; have := HM'.out; have := IL.out; simp only [show (⟨#[48]⟩ : BA).size = 1 from rfl, show (⟨#[45]⟩ : BA).size = 1 from rfl, show (⟨#[43]⟩ : BA).size = 1 from rfl, show E0.size = 0 from rfl, show E0.data.toList.length = 0 from rfl, show (⟨#[48]⟩ : BA).data.toList.length = 1 from rfl, show (⟨#[45]⟩ : BA).data.toList.length = 1 from rfl, show (⟨#[43]⟩ : BA).data.toList.length = 1 from rfl, show (⟨(Lib.itoa n).toArray⟩ : BA).size = (Lib.itoa n).length from rfl, show (⟨(Lib.itoa n).toArray⟩ : BA).data.toList.length = (Lib.itoa n).length by simp, List.length_append, List.length_nil]; omega)).mono ?_
  rintro e w2 ⟨rfl, hv⟩
  have N2 := Lib.hid hv
  obtain ⟨q0, q1, q2⟩ := val_cells N2.out.box
  clear hv N1
  go_wp2_with fail
  refine (vt_write N2.out m (by have := HP.out; have := HP'.out; have := HM.out; have := HM'.out; have := IL.out; simp only [show (⟨#[48]⟩ : BA).size = 1 from rfl, show (⟨#[45]⟩ : BA).size = 1 from rfl, show (⟨#[43]⟩ : BA).size = 1 from rfl, show E0.size = 0 from rfl, show E0.data.toList.length = 0 from rfl, show (⟨#[48]⟩ : BA).data.toList.length = 1 from rfl, show (⟨#[45]⟩ : BA).data.toList.length = 1 from rfl, show (⟨#[43]⟩ : BA).data.toList.length = 1 from rfl, show (⟨(Lib.itoa n).toArray⟩ : BA).size = (Lib.itoa n).length from rfl, show (⟨(Lib.itoa n).toArray⟩ : BA).data.toList.length = (Lib.itoa n).length by simp, List.length_append, List.length_nil]; omega)).mono ?_
  rintro e w3 ⟨rfl, hv⟩
  have N3 := Lib.hid hv
  obtain ⟨q0, q1, q2⟩ := val_cells N3.out.box
  clear hv N2
  go_wp2_with fail
  refine (HSA.out _).mono ?_
  rintro e w4 ⟨rfl, hb⟩
  have N4 := Lib.hid (N3.out.thn hb)
  obtain ⟨q0, q1, q2⟩ := val_cells N4.out.box
  clear hb N3
  go_wp2_with fail
  refine (vt_write N4.out ⟨#[43]⟩ (by have := HP.out; have := HP'.out; have := HM.out; have := HM'.out; have := IL.out; simp only [show (⟨#[48]⟩ : BA).size = 1 from rfl, show (⟨#[45]⟩ : BA).size = 1 from rfl, show (⟨#[43]⟩ : BA).size = 1 from rfl, show E0.size = 0 from rfl, show E0.data.toList.length = 0 from rfl, show (⟨#[48]⟩ : BA).data.toList.length = 1 from rfl, show (⟨#[45]⟩ : BA).data.toList.length = 1 from rfl, show (⟨#[43]⟩ : BA).data.toList.length = 1 from rfl, show (⟨(Lib.itoa n).toArray⟩ : BA).size = (Lib.itoa n).length from rfl, show (⟨(Lib.itoa n).toArray⟩ : BA).data.toList.length = (Lib.itoa n).length by simp, List.length_append, List.length_nil]; omega)).mono ?_
  rintro e w5 ⟨rfl, hv⟩
  have N5 := Lib.hid hv
  obtain ⟨q0, q1, q2⟩ := val_cells N5.out.box
  clear hv N4
  go_wp2_with fail
  refine (FI.out _ N5.out.bel).mono ?_
  rintro e w6 ⟨rfl, hb⟩
  have N6 := Lib.hid (N5.out.thn hb)
  obtain ⟨q0, q1, q2⟩ := val_cells N6.out.box
  clear hb N5
  go_wp2_with fail
  refine (vt_write N6.out ⟨(Lib.itoa n).toArray⟩ (by have := HP.out; have := HP'.out; have := HM.out; have := HM'.out; have := IL.out; simp only [show (⟨#[48]⟩ : BA).size = 1 from rfl, show (⟨#[45]⟩ : BA).size = 1 from rfl, show (⟨#[43]⟩ : BA).size = 1 from rfl, show E0.size = 0 from rfl, show E0.data.toList.length = 0 from rfl, show (⟨#[48]⟩ : BA).data.toList.length = 1 from rfl, show (⟨#[45]⟩ : BA).data.toList.length = 1 from rfl, show (⟨#[43]⟩ : BA).data.toList.length = 1 from rfl, show (⟨(Lib.itoa n).toArray⟩ : BA).size = (Lib.itoa n).length from rfl, show (⟨(Lib.itoa n).toArray⟩ : BA).data.toList.length = (Lib.itoa n).length by simp, List.length_append, List.length_nil]; omega)).mono ?_
  rintro e w7 ⟨rfl, hv⟩
  have N7 := Lib.hid hv
  obtain ⟨q0, q1, q2⟩ := val_cells N7.out.box
  clear hv N6
  go_wp2_with fail
  refine (Tryz.Builder_String_any_k (w.heap.size + 1) (w.heap.size + 1) _ _ N7.out.bld N7.out.size).mono ?_
  rintro e w8 ⟨rfl, -, hb, -⟩
  have HB := Lib.hid (N7.out.bel.trans (hb.mono (by omega)))
  clear hb
  go_wp2_with fail
  go_ret
  exact ⟨by rw [R.out]; first | rfl | (simp; done) | simp [E0], HB.out⟩
set_option maxRecDepth 100000 in
set_option maxHeartbeats 8000000 in
theorem vt_pmz (p : BA) (m : BA) (w : World) (hG : GoodE w) (ep : p ≠ E0) (hp : p.size ≤ 512) (em : m ≠ E0) (hm : m.size ≤ 512) :
    Calls Tryz.prog 24 #[vlV ((0 : Int), p, m)] w fun e w' => e = .returned (.string ⟨(vtB ((0 : Int), p, m)).toArray⟩) ∧ Below w.heap.size w w' := by
  have R := Lib.hid (show vtB ((0 : Int), p, m) = (((([] : Bs) ++ p.data.toList) ++ [45]) ++ m.data.toList) by simp [vtB, hasS, ep, em])
  have N0 := Lib.hid (vt_new w ((0 : Int), p, m))
  have HSA := Lib.hid (fun V => hasS_any ((0 : Int), p, m) V)
  have FI := Lib.hid (fun V (hb : Below w.heap.size w V) => fmtI_any 0 (by decide) (by decide) V (hG.thn hb))
  have IL := Lib.hid (itoa_len 0 (by decide) (by decide))
  have ep' := lit_no (l := []) ep
  have HP := Lib.hid (show p.data.toList.length ≤ 512 by rw [← size_list]; exact hp)
  have HP' := Lib.hid hp
  have em' := lit_no (l := []) em
  have HM := Lib.hid (show m.data.toList.length ≤ 512 by rw [← size_list]; exact hm)
  have HM' := Lib.hid hm
  rw [show hasS ((0 : Int), p, m) = true by simp [hasS, ep, em]] at HSA
  unfold vlV at HSA ⊢
  simp only at HSA ⊢
  clear hG hp ep hm em
  go_enter Tryz.func24, Tryz.ntmps24
  go_wp2_with fail
  generalize (w.alloc (.cells #[.int .i64 0, .string p, .string m] 36)).alloc (.cells #[.pointer none, .slice none 0 0] 53) = W0 at *
  refine (vt_write N0.out p (by have := HP.out; have := HP'.out; have := HM.out; have := HM'.out; have := IL.out; simp only [show (⟨#[48]⟩ : BA).size = 1 from rfl, show (⟨#[45]⟩ : BA).size = 1 from rfl, show (⟨#[43]⟩ : BA).size = 1 from rfl, show E0.size = 0 from rfl, show E0.data.toList.length = 0 from rfl, show (⟨#[48]⟩ : BA).data.toList.length = 1 from rfl, show (⟨#[45]⟩ : BA).data.toList.length = 1 from rfl, show (⟨#[43]⟩ : BA).data.toList.length = 1 from rfl, show (⟨(Lib.itoa 0).toArray⟩ : BA).size = (Lib.itoa 0).length from rfl, show (⟨(Lib.itoa 0).toArray⟩ : BA).data.toList.length = (Lib.itoa 0).length by simp, List.length_append, List.length_nil]; omega)).mono ?_
  rintro e w1 ⟨rfl, hv⟩
  have N1 := Lib.hid hv
  obtain ⟨q0, q1, q2⟩ := val_cells N1.out.box
  clear hv N0
  go_wp2_with fail
  refine (vt_write N1.out ⟨#[45]⟩ (by have := HP.out; have := HP'.out; have := HM.out; have := HM'.out; have := IL.out; simp only [show (⟨#[48]⟩ : BA).size = 1 from rfl, show (⟨#[45]⟩ : BA).size = 1 from rfl, show (⟨#[43]⟩ : BA).size = 1 from rfl, show E0.size = 0 from rfl, show E0.data.toList.length = 0 from rfl, show (⟨#[48]⟩ : BA).data.toList.length = 1 from rfl, show (⟨#[45]⟩ : BA).data.toList.length = 1 from rfl, show (⟨#[43]⟩ : BA).data.toList.length = 1 from rfl, show (⟨(Lib.itoa 0).toArray⟩ : BA).size = (Lib.itoa 0).length from rfl, show (⟨(Lib.itoa 0).toArray⟩ : BA).data.toList.length = (Lib.itoa 0).length by simp, List.length_append, List.length_nil]; omega)).mono ?_
  rintro e w2 ⟨rfl, hv⟩
  have N2 := Lib.hid hv
  obtain ⟨q0, q1, q2⟩ := val_cells N2.out.box
  clear hv N1
  go_wp2_with fail
  refine (vt_write N2.out m (by have := HP.out; have := HP'.out; have := HM.out; have := HM'.out; have := IL.out; simp only [show (⟨#[48]⟩ : BA).size = 1 from rfl, show (⟨#[45]⟩ : BA).size = 1 from rfl, show (⟨#[43]⟩ : BA).size = 1 from rfl, show E0.size = 0 from rfl, show E0.data.toList.length = 0 from rfl, show (⟨#[48]⟩ : BA).data.toList.length = 1 from rfl, show (⟨#[45]⟩ : BA).data.toList.length = 1 from rfl, show (⟨#[43]⟩ : BA).data.toList.length = 1 from rfl, show (⟨(Lib.itoa 0).toArray⟩ : BA).size = (Lib.itoa 0).length from rfl, show (⟨(Lib.itoa 0).toArray⟩ : BA).data.toList.length = (Lib.itoa 0).length by simp, List.length_append, List.length_nil]; omega)).mono ?_
  rintro e w3 ⟨rfl, hv⟩
  have N3 := Lib.hid hv
  obtain ⟨q0, q1, q2⟩ := val_cells N3.out.box
  clear hv N2
  go_wp2_with fail
  refine (HSA.out _).mono ?_
  rintro e w4 ⟨rfl, hb⟩
  have N4 := Lib.hid (N3.out.thn hb)
  obtain ⟨q0, q1, q2⟩ := val_cells N4.out.box
  clear hb N3
  go_wp2_with fail
  refine (Tryz.Builder_String_any_k (w.heap.size + 1) (w.heap.size + 1) _ _ N4.out.bld N4.out.size).mono ?_
  rintro e w5 ⟨rfl, -, hb, -⟩
  have HB := Lib.hid (N4.out.bel.trans (hb.mono (by omega)))
  clear hb
  go_wp2_with fail
  go_ret
  exact ⟨by rw [R.out]; first | rfl | (simp; done) | simp [E0], HB.out⟩
set_option maxRecDepth 100000 in
set_option maxHeartbeats 8000000 in
theorem vt_pml (n : Int) (p : BA) (m : BA) (w : World) (hG : GoodE w) (h0 : -9223372036854775808 ≤ n) (h1 : n ≤ 9223372036854775807) (hn : n < 0) (ep : p ≠ E0) (hp : p.size ≤ 512) (em : m ≠ E0) (hm : m.size ≤ 512) :
    Calls Tryz.prog 24 #[vlV ((n : Int), p, m)] w fun e w' => e = .returned (.string ⟨(vtB ((n : Int), p, m)).toArray⟩) ∧ Below w.heap.size w w' := by
  have R := Lib.hid (show vtB ((n : Int), p, m) = ((((([] : Bs) ++ p.data.toList) ++ [45]) ++ m.data.toList) ++ Lib.itoa n) by simp [vtB, hasS, ep, em, show n ≠ 0 by omega, show ¬ 0 < n by omega])
  have N0 := Lib.hid (vt_new w ((n : Int), p, m))
  have HSA := Lib.hid (fun V => hasS_any ((n : Int), p, m) V)
  have FI := Lib.hid (fun V (hb : Below w.heap.size w V) => fmtI_any n h0 h1 V (hG.thn hb))
  have IL := Lib.hid (itoa_len n h0 h1)
  have ep' := lit_no (l := []) ep
  have HP := Lib.hid (show p.data.toList.length ≤ 512 by rw [← size_list]; exact hp)
  have HP' := Lib.hid hp
  have em' := lit_no (l := []) em
  have HM := Lib.hid (show m.data.toList.length ≤ 512 by rw [← size_list]; exact hm)
  have HM' := Lib.hid hm
  rw [show hasS ((n : Int), p, m) = true by simp [hasS, ep, em]] at HSA
  unfold vlV at HSA ⊢
  simp only at HSA ⊢
  have hn0 : ¬ n = 0 := by omega
  have hn1 : ¬ 0 < n := by omega
  clear hG h0 h1 hp ep hm em
  go_enter Tryz.func24, Tryz.ntmps24
  go_wp2_with fail
  generalize (w.alloc (.cells #[.int .i64 n, .string p, .string m] 36)).alloc (.cells #[.pointer none, .slice none 0 0] 53) = W0 at *
  refine (vt_write N0.out p (by have := HP.out; have := HP'.out; have := HM.out; have := HM'.out; have := IL.out; simp only [show (⟨#[48]⟩ : BA).size = 1 from rfl, show (⟨#[45]⟩ : BA).size = 1 from rfl, show (⟨#[43]⟩ : BA).size = 1 from rfl, show E0.size = 0 from rfl, show E0.data.toList.length = 0 from rfl, show (⟨#[48]⟩ : BA).data.toList.length = 1 from rfl, show (⟨#[45]⟩ : BA).data.toList.length = 1 from rfl, show (⟨#[43]⟩ : BA).data.toList.length = 1 from rfl, show (⟨(Lib.itoa n).toArray⟩ : BA).size = (Lib.itoa n).length from rfl, show (⟨(Lib.itoa n).toArray⟩ : BA).data.toList.length = (Lib.itoa n).length by simp, List.length_append, List.length_nil]; omega)).mono ?_
  rintro e w1 ⟨rfl, hv⟩
  have N1 := Lib.hid hv
  obtain ⟨q0, q1, q2⟩ := val_cells N1.out.box
  clear hv N0
  go_wp2_with fail
  refine (vt_write N1.out ⟨#[45]⟩ (by have := HP.out; have := HP'.out; have := HM.out; have := HM'.out; have := IL.out; simp only [show (⟨#[48]⟩ : BA).size = 1 from rfl, show (⟨#[45]⟩ : BA).size = 1 from rfl, show (⟨#[43]⟩ : BA).size = 1 from rfl, show E0.size = 0 from rfl, show E0.data.toList.length = 0 from rfl, show (⟨#[48]⟩ : BA).data.toList.length = 1 from rfl, show (⟨#[45]⟩ : BA).data.toList.length = 1 from rfl, show (⟨#[43]⟩ : BA).data.toList.length = 1 from rfl, show (⟨(Lib.itoa n).toArray⟩ : BA).size = (Lib.itoa n).length from rfl, show (⟨(Lib.itoa n).toArray⟩ : BA).data.toList.length = (Lib.itoa n).length by simp, List.length_append, List.length_nil]; omega)).mono ?_
  rintro e w2 ⟨rfl, hv⟩
  have N2 := Lib.hid hv
  obtain ⟨q0, q1, q2⟩ := val_cells N2.out.box
  clear hv N1
  go_wp2_with fail
  refine (vt_write N2.out m (by have := HP.out; have := HP'.out; have := HM.out; have := HM'.out; have := IL.out; simp only [show (⟨#[48]⟩ : BA).size = 1 from rfl, show (⟨#[45]⟩ : BA).size = 1 from rfl, show (⟨#[43]⟩ : BA).size = 1 from rfl, show E0.size = 0 from rfl, show E0.data.toList.length = 0 from rfl, show (⟨#[48]⟩ : BA).data.toList.length = 1 from rfl, show (⟨#[45]⟩ : BA).data.toList.length = 1 from rfl, show (⟨#[43]⟩ : BA).data.toList.length = 1 from rfl, show (⟨(Lib.itoa n).toArray⟩ : BA).size = (Lib.itoa n).length from rfl, show (⟨(Lib.itoa n).toArray⟩ : BA).data.toList.length = (Lib.itoa n).length by simp, List.length_append, List.length_nil]; omega)).mono ?_
  rintro e w3 ⟨rfl, hv⟩
  have N3 := Lib.hid hv
  obtain ⟨q0, q1, q2⟩ := val_cells N3.out.box
  clear hv N2
  go_wp2_with fail
  refine (FI.out _ N3.out.bel).mono ?_
  rintro e w4 ⟨rfl, hb⟩
  have N4 := Lib.hid (N3.out.thn hb)
  obtain ⟨q0, q1, q2⟩ := val_cells N4.out.box
  clear hb N3
  go_wp2_with fail
  refine (vt_write N4.out ⟨(Lib.itoa n).toArray⟩ (by have := HP.out; have := HP'.out; have := HM.out; have := HM'.out; have := IL.out; simp only [show (⟨#[48]⟩ : BA).size = 1 from rfl, show (⟨#[45]⟩ : BA).size = 1 from rfl, show (⟨#[43]⟩ : BA).size = 1 from rfl, show E0.size = 0 from rfl, show E0.data.toList.length = 0 from rfl, show (⟨#[48]⟩ : BA).data.toList.length = 1 from rfl, show (⟨#[45]⟩ : BA).data.toList.length = 1 from rfl, show (⟨#[43]⟩ : BA).data.toList.length = 1 from rfl, show (⟨(Lib.itoa n).toArray⟩ : BA).size = (Lib.itoa n).length from rfl, show (⟨(Lib.itoa n).toArray⟩ : BA).data.toList.length = (Lib.itoa n).length by simp, List.length_append, List.length_nil]; omega)).mono ?_
  rintro e w5 ⟨rfl, hv⟩
  have N5 := Lib.hid hv
  obtain ⟨q0, q1, q2⟩ := val_cells N5.out.box
  clear hv N4
  go_wp2_with fail
  refine (Tryz.Builder_String_any_k (w.heap.size + 1) (w.heap.size + 1) _ _ N5.out.bld N5.out.size).mono ?_
  rintro e w6 ⟨rfl, -, hb, -⟩
  have HB := Lib.hid (N5.out.bel.trans (hb.mono (by omega)))
  clear hb
  go_wp2_with fail
  go_ret
  exact ⟨by rw [R.out]; first | rfl | (simp; done) | simp [E0], HB.out⟩
theorem valueText_any (v : V3) (w : World) (hG : GoodE w) (h0 : -9223372036854775808 ≤ v.1) (h1 : v.1 ≤ 9223372036854775807) (hp : v.2.1.size ≤ 512) (hm : v.2.2.size ≤ 512) :
    Calls Tryz.prog 24 #[vlV v] w fun e w' => e = .returned (.string ⟨(vtB v).toArray⟩) ∧ Below w.heap.size w w' := by
  obtain ⟨n, p, m⟩ := v
  simp only at h0 h1 hp hm
  have tri : 0 < n ∨ n = 0 ∨ n < 0 := by omega
  by_cases ep : p = E0 <;> by_cases em : m = E0
  · subst ep; subst em
    rcases tri with hn | rfl | hn
    · exact vt_eeg n w hG h0 h1 hn
    · exact vt_eez w hG
    · exact vt_eel n w hG h0 h1 hn
  · subst ep
    rcases tri with hn | rfl | hn
    · exact vt_emg n m w hG h0 h1 hn em hm
    · exact vt_emz m w hG em hm
    · exact vt_eml n m w hG h0 h1 hn em hm
  · subst em
    rcases tri with hn | rfl | hn
    · exact vt_peg n p w hG h0 h1 hn ep hp
    · exact vt_pez p w hG ep hp
    · exact vt_pel n p w hG h0 h1 hn ep hp
  · rcases tri with hn | rfl | hn
    · exact vt_pmg n p m w hG h0 h1 hn ep hp em hm
    · exact vt_pmz p m w hG ep hp em hm
    · exact vt_pml n p m w hG h0 h1 hn ep hp em hm
end Go.Proofs.YtdkflmpdelfgoaaGreatDoor
