/-
  LexRises: what each call returns. Conditions: what the variables of the library hold (Good), a text that is no longer than any.
-/
import Derived.Test.YtjmdcimfmmfinaaDoorLexV
namespace Go.Proofs.YtjmdcimfmmfinaaDoor
open Go.RowKit Go.Shelf
attribute [local go_sem] Oper.semAt_some

theorem lex_toks (line : ByteArray) (w : World) (hG : Good w) (hm : line.size ≤ maxLen) :
    Calls Tryd.prog 9 #[.string line] w fun e w' => (∃ v, e = .returned (.tuple #[v, .int .i64 ((lineB line.data.toList).2.1 : Int), .int .i64 (lineB line.data.toList).2.2]) ∧ TokS w' v (if (lineB line.data.toList).2.2 = 0 then (lineB line.data.toList).1 else [])) ∧ Below w.heap.size w w' := by
  refine (lex_any line w hG hm).mono ?_
  rintro e w1 ⟨⟨v, rfl, hown⟩, hb⟩
  have ht := toks_of_own hown
  refine ⟨⟨v, ?_, ?_⟩, hb⟩
  · unfold lexB; split <;> rfl
  · unfold lexB at ht; split at ht <;> rename_i h
    · rw [if_pos h]; exact ht
    · rw [if_neg h]; exact ht
set_option maxRecDepth 100000 in
set_option maxHeartbeats 8000000 in
theorem rises_any (line : ByteArray) (w : World) (hG : Good w) (hm : line.size ≤ maxLen) :
    Calls Tryd.prog 8 #[.string line] w fun e w' => e = .returned (.bool true) ∧ Below w.heap.size w w' := by
  have hR := lineB_rises line.data.toList
  have hF := lineB_few line.data.toList
  have TA := Lib.hid (fun (w : World) => tokens_any line w)
  have TD := Lib.hid (fun (bl : Nat) (V : World) (hb : Below w.heap.size w V) (hbl : V.heap[bl]? = some (.cells #[.string line] 9 (0, 0))) => told_any line bl 999 V (hG.thn hb) hm hbl)
  have LX := Lib.hid (fun (V : World) (hb : Below w.heap.size w V) => lex_toks line V (hG.thn hb) hm)
  have BG := Lib.hid (fun (V : World) (hb : Below w.heap.size w V) => begun_any V (hG.thn hb))
  obtain ⟨T, a, er, hL⟩ : ∃ T a e, lineB line.data.toList = (T, a, e) := ⟨_, _, _, rfl⟩
  rw [hL] at hR hF LX TD
  simp only at hF LX TD
  rw [List.take_of_length_le (show T.length ≤ 999 by omega)] at TD
  rw [← size_list] at hR
  obtain ⟨r1, r2, r3, r4, r5⟩ := hR
  simp only at r1 r2 r3 r4 r5
  have a1 : (a : Int) ≤ (line.size : Int) := by omega
  have hm' : (line.size : Int) ≤ 9223372036854775807 := by unfold maxLen at hm; omega
  have a2 : ¬ (line.size < a) := by omega
  have a3 : ¬ ((line.size : Int) < (a : Int)) := by omega
  have R1 := Lib.hid r1
  have R2 := Lib.hid r2
  clear hL r1 r2 r3 r4 r5 hG
  go_enter Tryd.func8, Tryd.ntmps8
  go_wp2_with fail
  refine (TA.out _).mono ?_
  rintro e w1 ⟨rfl, rfl⟩
  go_wp2_with fail
  refine (TD.out _ _ (below1 w _) (heap_alloc_new w _)).mono ?_
  rintro e w1 ⟨⟨v1, rfl, hown1⟩, hb1⟩
  have hB1 : Below w.heap.size w w1 := Below.thn (below1 w _) (by simp) hb1
  have T1 := toks_of_own hown1
  have HB1 := Lib.hid hB1
  have HT1 := Lib.hid T1
  clear hown1 hb1 hB1 T1
  by_cases he : er = 0
  · subst he
    rw [if_pos rfl] at LX
    go_wp2_with fail
    refine (LX.out _ HB1.out).mono ?_
    rintro e w2 ⟨⟨v2, rfl, ht2⟩, hb2⟩
    have HB2 := Lib.hid (Below.thn HB1.out HB1.out.size hb2)
    have HT1 := Lib.hid (HT1.out.keep hb2)
    have HT2 := Lib.hid ht2
    clear ht2 hb2
    go_wp2_with fail
    refine (BG.out _ HB2.out).mono ?_
    rintro e w3 ⟨rfl, hb3⟩
    have HB3 := Lib.hid (Below.thn HB2.out HB2.out.size hb3)
    have HT1 := Lib.hid (HT1.out.keep hb3)
    have HT2 := Lib.hid (HT2.out.keep hb3)
    clear hb3
    go_wp2_with fail
    refine (equal_toks v1 v2 T _ HT1.out HT2.out (by omega)).mono ?_
    rintro e w4 ⟨rfl, hb4⟩
    have HB4 := Lib.hid (Below.thn HB3.out HB3.out.size hb4)
    have HT1 := Lib.hid (HT1.out.keep hb4)
    clear hb4
    have LN1 := toks_len HT1.out
    go_wp2_with fail
    go_loopw [7, 52] (fun lv iv wr => ∃ k : Nat, k ≤ T.length ∧ iv = .int .i64 (k : Int) ∧ (∃ last : Int, lv = .int .i64 last ∧ Hid (∀ x, T[k]? = some x → last < x.p)) ∧ TokS wr v1 T ∧ Below w.heap.size w wr) (fun _ iv _ => T.length - (intOf iv).toNat)
    case atStart => exact ⟨0, Nat.zero_le _, rfl, ⟨-1, rfl, Lib.hid (fun x hx => by have := (R1.out x (List.mem_of_getElem? hx)).1; omega)⟩, HT1.out, HB4.out⟩
    case round =>
      obtain ⟨k, hk, rfl, ⟨last, rfl, hlast⟩, htr, hbr⟩ := hrel
      clear LN1 HT1 BG LX TD TA
      by_cases hlt : (k : Int) < (T.length : Int)
      · have hlt' : k < T.length := by omega
        obtain ⟨g, cap, x, hx, rfl, x1, x2, x3, x4⟩ := toks_at htr hlt'
        obtain ⟨h1, h2, h3, h4⟩ := R1.out x (List.mem_of_getElem? hx)
        have h5 := hlast.out x hx
        have HN := Lib.hid (fun y (hy : T[k + 1]? = some y) => pair_next R2.out hx hy)
        obtain ⟨D, hD⟩ : ∃ D, (⟨x.t.toArray⟩ : ByteArray) = D := ⟨_, rfl⟩
        have CK := Lib.hid (fun V => check_any x.k D (x.n : Int) x.p V (by rw [← hD, size_list]; show x.t.length ≤ maxLen; omega))
        have hDl : D.data.toList = x.t := by rw [← hD]
        rw [hDl, h3] at CK
        rw [hD] at x2
        have w9 : IntKind.i64.wrap ((k : Int) + 1) = ((k + 1 : Nat) : Int) := by rw [IntWalk.i64_in _ (by unfold maxLen at hm; omega)]; omega
        have HTR := Lib.hid htr
        have HBR := Lib.hid hbr
        have l2 : x.p < (line.size : Int) := by omega
        obtain ⟨kk, tt, nn, pp⟩ := x
        simp only at x1 x2 x3 x4 h5 l2 CK
        clear hx hD hDl h1 h2 h3 h4 htr hbr hlast
        go_wp2_with fail
        refine (CK.out _).mono ?_
        rintro e w5 ⟨rfl, hb5⟩
        have q3 : w5.cell? ⟨wr.heap.size, 3, none⟩ = some (.int .i64 pp) := (hb5.cell (p := ⟨wr.heap.size, 3, none⟩) (by simp)).trans (cell_four_new wr _ _ _ _ _ 3 _ rfl)
        have HB5 := Lib.hid (Below.thn HBR.out HBR.out.size (Below.thn (below1 wr _) (by simp) hb5))
        have HT5 := Lib.hid (HTR.out.keep (Below.thn (below1 wr _) (by simp) hb5))
        clear hb5 CK
        rw [show errC true = 0 from rfl]
        go_wp2_with fail
        go_roundw
        case rel => exact ⟨k + 1, by omega, by first | rfl | rw [← w9], ⟨pp, rfl, HN⟩, HT5.out, HB5.out⟩
        case measure => simp [intOf]; omega
      · go_wp2_with fail
        go_ret
        exact ⟨rfl, hbr⟩
  · have e1 : (er == 0) = false := by simp [he]
    have e2 : (er != 0) = true := by simp [he]
    rw [if_neg he] at LX
    go_wp2_with fail
    refine (LX.out _ HB1.out).mono ?_
    rintro e w2 ⟨⟨v2, rfl, ht2⟩, hb2⟩
    have HB2 := Lib.hid (Below.thn HB1.out HB1.out.size hb2)
    have HT1 := Lib.hid (HT1.out.keep hb2)
    have HT2 := Lib.hid ht2
    clear ht2 hb2
    go_wp2_with fail
    refine (BG.out _ HB2.out).mono ?_
    rintro e w3 ⟨rfl, hb3⟩
    have HB3 := Lib.hid (Below.thn HB2.out HB2.out.size hb3)
    have HT1 := Lib.hid (HT1.out.keep hb3)
    have LN2 := toks_len (HT2.out.keep hb3)
    clear hb3 he
    have LN1 := toks_len HT1.out
    go_wp2_with fail
    go_loopw [7, 52] (fun lv iv wr => ∃ k : Nat, k ≤ T.length ∧ iv = .int .i64 (k : Int) ∧ (∃ last : Int, lv = .int .i64 last ∧ Hid (∀ x, T[k]? = some x → last < x.p)) ∧ TokS wr v1 T ∧ Below w.heap.size w wr) (fun _ iv _ => T.length - (intOf iv).toNat)
    case atStart => exact ⟨0, Nat.zero_le _, rfl, ⟨-1, rfl, Lib.hid (fun x hx => by have := (R1.out x (List.mem_of_getElem? hx)).1; omega)⟩, HT1.out, HB3.out⟩
    case round =>
      obtain ⟨k, hk, rfl, ⟨last, rfl, hlast⟩, htr, hbr⟩ := hrel
      clear LN1 HT1 BG LX TD TA
      by_cases hlt : (k : Int) < (T.length : Int)
      · have hlt' : k < T.length := by omega
        obtain ⟨g, cap, x, hx, rfl, x1, x2, x3, x4⟩ := toks_at htr hlt'
        obtain ⟨h1, h2, h3, h4⟩ := R1.out x (List.mem_of_getElem? hx)
        have h5 := hlast.out x hx
        have HN := Lib.hid (fun y (hy : T[k + 1]? = some y) => pair_next R2.out hx hy)
        obtain ⟨D, hD⟩ : ∃ D, (⟨x.t.toArray⟩ : ByteArray) = D := ⟨_, rfl⟩
        have CK := Lib.hid (fun V => check_any x.k D (x.n : Int) x.p V (by rw [← hD, size_list]; show x.t.length ≤ maxLen; omega))
        have hDl : D.data.toList = x.t := by rw [← hD]
        rw [hDl, h3] at CK
        rw [hD] at x2
        have w9 : IntKind.i64.wrap ((k : Int) + 1) = ((k + 1 : Nat) : Int) := by rw [IntWalk.i64_in _ (by unfold maxLen at hm; omega)]; omega
        have HTR := Lib.hid htr
        have HBR := Lib.hid hbr
        have l2 : x.p < (line.size : Int) := by omega
        obtain ⟨kk, tt, nn, pp⟩ := x
        simp only at x1 x2 x3 x4 h5 l2 CK
        clear hx hD hDl h1 h2 h3 h4 htr hbr hlast
        go_wp2_with fail
        refine (CK.out _).mono ?_
        rintro e w5 ⟨rfl, hb5⟩
        have q3 : w5.cell? ⟨wr.heap.size, 3, none⟩ = some (.int .i64 pp) := (hb5.cell (p := ⟨wr.heap.size, 3, none⟩) (by simp)).trans (cell_four_new wr _ _ _ _ _ 3 _ rfl)
        have HB5 := Lib.hid (Below.thn HBR.out HBR.out.size (Below.thn (below1 wr _) (by simp) hb5))
        have HT5 := Lib.hid (HTR.out.keep (Below.thn (below1 wr _) (by simp) hb5))
        clear hb5 CK
        rw [show errC true = 0 from rfl]
        go_wp2_with fail
        go_roundw
        case rel => exact ⟨k + 1, by omega, by first | rfl | rw [← w9], ⟨pp, rfl, HN⟩, HT5.out, HB5.out⟩
        case measure => simp [intOf]; omega
      · go_wp2_with fail
        go_ret
        exact ⟨rfl, hbr⟩
end Go.Proofs.YtjmdcimfmmfinaaDoor
