/-
  LexTexts: what each call returns. Conditions: what the variables of the library hold (Good), texts no longer than any, a number of 64 bits.
-/
import Derived.Test.YtjmdcimfmmfinaaDoorLexRefL
import Derived.Test.YtjmdcimfmmfinaaDoorLexPrint
import Derived.Test.YtjmdcimfmmfinaaDoorLexV
namespace Go.Proofs.YtjmdcimfmmfinaaDoor
open Go.RowKit Go.Shelf
set_option linter.unusedVariables false
attribute [local go_sem] Oper.semAt_some

theorem keep4 {W W' : World} (hb : Below W.heap.size W W') {a1 a2 a3 a4 : Addr} {v1 v2 v3 v4 : Value} (h : W.cell? a1 = some v1 ∧ W.cell? a2 = some v2 ∧ W.cell? a3 = some v3 ∧ W.cell? a4 = some v4) : W'.cell? a1 = some v1 ∧ W'.cell? a2 = some v2 ∧ W'.cell? a3 = some v3 ∧ W'.cell? a4 = some v4 :=
  ⟨cell_kept hb h.1, cell_kept hb h.2.1, cell_kept hb h.2.2.1, cell_kept hb h.2.2.2⟩
set_option maxRecDepth 100000 in
set_option maxHeartbeats 40000000 in
theorem texts_any (k : Int) (t : ByteArray) (n : Nat) (p : Int) (s : ByteArray) (w : World) (hG : Good w) (hn : n < 18446744073709551616) (ht : t.size ≤ maxLen) (hs : s.size ≤ 281474976710656) :
    Calls Tryd.prog 4 #[.agg #[.int .i64 k, .string t, .int .u64 (n : Int), .int .i64 p], .string s] w fun e w' => e = .returned (.bool true) ∧ Below w.heap.size w w' := by
  have BG := Lib.hid (fun (V : World) (hb : Below w.heap.size w V) => begun_any V (hG.thn hb))
  have GD := Lib.hid (fun (V : World) (hb : Below w.heap.size w V) => hG.thn hb)
  by_cases h1 : (2000 : Int) < (s.size : Int)
  · clear hG
    go_enter Tryd.func4, Tryd.ntmps4
    go_wp2_with fail
    refine (BG.out _ (below1 w _)).mono ?_
    rintro e w1 ⟨rfl, hb1⟩
    have HB1 := Lib.hid (Below.thn (below1 w _) (by simp) hb1)
    clear hb1
    go_wp2_with fail
    go_ret
    exact ⟨rfl, HB1.out⟩
  by_cases h2 : (2000 : Int) < (t.size : Int)
  · clear hG
    go_enter Tryd.func4, Tryd.ntmps4
    go_wp2_with fail
    refine (BG.out _ (below1 w _)).mono ?_
    rintro e w1 ⟨rfl, hb1⟩
    have HB1 := Lib.hid (Below.thn (below1 w _) (by simp) hb1)
    clear hb1
    go_wp2_with fail
    go_ret
    exact ⟨rfl, HB1.out⟩
  have hs2 : s.size ≤ 2000 := by omega
  have ht2 : t.size ≤ 2000 := by omega
  obtain ⟨A, ee, hU⟩ : ∃ A ee, UnqE (unquoteB s.data.toList) = .returned (.tuple #[.string A, .int .i64 ee]) := by
    cases unquoteB s.data.toList with
    | some b => exact ⟨_, _, rfl⟩
    | none => exact ⟨_, _, rfl⟩
  have U1 := Lib.hid (fun V (hb : Below w.heap.size w V) => show Calls Tryd.prog 16 #[.string s] V fun e w' => e = .returned (.tuple #[.string A, .int .i64 ee]) ∧ Below V.heap.size V w' from by
    refine (unquote_any s V (GD.out V hb) (by omega)).mono ?_
    rintro e w1 ⟨h, hb⟩
    refine ⟨?_, hb⟩
    rw [← hU]
    rcases h with ⟨b, h1, rfl⟩ | ⟨h1, rfl⟩
    · rw [h1]; rfl
    · rw [h1]; rfl)
  have U2 := Lib.hid (fun V => show Calls Tryd.prog 17 #[.string s] V fun e w' => e = .returned (.tuple #[.string A, .int .i64 ee]) ∧ Below V.heap.size V w' from by
    rw [← hU]; exact runquote_any s V (by omega))
  obtain ⟨E, hE⟩ : ∃ E, errC (checkB k t.data.toList (n : Int) p) = E := ⟨_, rfl⟩
  have C1 := Lib.hid (fun V => check_any k t (n : Int) p V (by unfold maxLen; omega))
  have C2 := Lib.hid (fun V => rcheck_any k t (n : Int) p V (by omega))
  rw [hE] at C1 C2
  obtain ⟨X, hX⟩ : ∃ X, (⟨(textO k t.data.toList n p).toArray⟩ : ByteArray) = X := ⟨_, rfl⟩
  have T1 := Lib.hid (fun V (hb : Below w.heap.size w V) => text_any k t n p V (GD.out V hb) (by omega) hn)
  have T2 := Lib.hid (fun V => rtext_any k t n p V (by omega) hn)
  rw [hX] at T1 T2
  obtain ⟨Y, hY⟩ : ∃ Y, (⟨(quoteB s.data.toList).toArray⟩ : ByteArray) = Y := ⟨_, rfl⟩
  have Q1 := Lib.hid (fun V => quote_any s V (by omega))
  have Q2 := Lib.hid (fun V => rQuote_any s V (by omega))
  rw [hY] at Q1 Q2
  obtain ⟨z, hz⟩ : ∃ z, nameB s.data.toList = z := ⟨_, rfl⟩
  have N1 := Lib.hid (fun V => name_any s V (by unfold maxLen; omega))
  have N2 := Lib.hid (fun V => docName_any s V (by unfold maxLen; omega))
  rw [hz] at N1 N2
  clear hG hU hE hX hY hz hn hs ht
  go_enter Tryd.func4, Tryd.ntmps4
  go_wp2_with fail
  refine (U1.out _ (below1 w _)).mono ?_
  rintro e w1 ⟨rfl, hb1⟩
  have HB1 := Lib.hid (Below.thn (below1 w _) (by simp) hb1)
  have hk1 := (hb1.block w.heap.size (by simp)).trans (heap_alloc_new w _)
  have HK1 := Lib.hid hk1
  clear hb1 hk1
  go_wp2_with fail
  refine (U2.out _).mono ?_
  rintro e w2 ⟨rfl, hb2⟩
  have HB2 := Lib.hid (Below.thn HB1.out HB1.out.size hb2)
  have hk2 := (hb2.block w.heap.size (heap_lt HK1.out)).trans HK1.out
  have S0 : w2.cell? ⟨w.heap.size, 0, none⟩ = some (.int .i64 k) ∧ w2.cell? ⟨w.heap.size, 1, none⟩ = some (.string t) ∧ w2.cell? ⟨w.heap.size, 2, none⟩ = some (.int .u64 (n : Int)) ∧ w2.cell? ⟨w.heap.size, 3, none⟩ = some (.int .i64 p) :=
    ⟨by rw [Lib.cell_of_heap hk2]; rfl, by rw [Lib.cell_of_heap hk2]; rfl, by rw [Lib.cell_of_heap hk2]; rfl, by rw [Lib.cell_of_heap hk2]; rfl⟩
  clear hb2 hk2
  go_wp2_with fail
  go_region_held3 (fun w' => w'.cell? ⟨w.heap.size, 0, none⟩ = some (.int .i64 k) ∧ w'.cell? ⟨w.heap.size, 1, none⟩ = some (.string t) ∧ w'.cell? ⟨w.heap.size, 2, none⟩ = some (.int .u64 (n : Int)) ∧ w'.cell? ⟨w.heap.size, 3, none⟩ = some (.int .i64 p)) (first | exact S0 | exact S3 | exact S4 | exact S5 | exact S6 | exact S7 | exact S8 | exact S9 | assumption) (first
    | (go_at_call 12; refine (BG.out _ ?_).mono ?_; exact HB2.out.drew; rintro e w3 ⟨rfl, hb3⟩; have HB3 := Lib.hid (Below.thn HB2.out.drew HB2.out.size hb3); have S3 := keep4 hb3 S0; clear hb3 S0)
    | (go_at_call 18; refine (C1.out _).mono ?_; rintro e w4 ⟨rfl, hb4⟩; have HB4 := Lib.hid (Below.thn HB3.out HB3.out.size hb4); have S4 := keep4 hb4 S3; clear hb4 S3)
    | (go_at_call 19; refine (C2.out _).mono ?_; rintro e w5 ⟨rfl, hb5⟩; have HB5 := Lib.hid (Below.thn HB4.out HB4.out.size hb5); have S5 := keep4 hb5 S4; clear hb5 S4)
    | (go_at_call 20; refine (T1.out _ ?_).mono ?_; exact HB5.out; rintro e w6 ⟨rfl, hb6⟩; have HB6 := Lib.hid (Below.thn HB5.out HB5.out.size hb6); have S6 := keep4 hb6 S5; clear hb6 S5)
    | (go_at_call 21; refine (T2.out _).mono ?_; rintro e w7 ⟨rfl, hb7⟩; have HB7 := Lib.hid (Below.thn HB6.out HB6.out.size hb7); have S7 := keep4 hb7 S6; clear hb7 S6)
    | (go_at_call 22; refine (Q1.out _).mono ?_; rintro e w8 ⟨rfl, hb8⟩; have HB8 := Lib.hid (Below.thn HB7.out HB7.out.size hb8); have S8 := keep4 hb8 S7; clear hb8 S7)
    | (go_at_call 23; refine (Q2.out _).mono ?_; rintro e w9 ⟨rfl, hb9⟩; have HB9 := Lib.hid (Below.thn HB8.out HB8.out.size hb9); have S9 := keep4 hb9 S8; clear hb9 S8)
    | (go_at_call 24; refine (N1.out _).mono ?_; rintro e wa ⟨rfl, rfl⟩)
    | (go_at_call 25; refine (N2.out _).mono ?_; rintro e wa ⟨rfl, rfl⟩))
  all_goals
    go_wp2_with fail
    go_ret
    exact ⟨rfl, HB9.out⟩
end Go.Proofs.YtjmdcimfmmfinaaDoor
