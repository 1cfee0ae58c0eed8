/-
  LexBack: what each call returns. Conditions: what the variables of the library hold (Good), texts of at most 1048576 bytes.
-/
import Derived.Test.YtjmdcimfmmfinaaDoorLexPrint
import Derived.Test.YtjmdcimfmmfinaaDoorLexRise
import Derived.Test.YtjmdcimfmmfinaaDoorLexTo
namespace Go.Proofs.YtjmdcimfmmfinaaDoor
open Go.RowKit Go.Shelf
set_option linter.unusedVariables false
attribute [local go_sem] Oper.semAt_some

theorem chk_may {x : Tok} (h : chkT x = true) (hn : x.n < 18446744073709551616) : mayP x = true := by
  unfold chkT checkB at h
  simp only [Bool.and_eq_true] at h
  unfold mayP
  have e : fitsP x.k x.t = fitsB x.k x.t := rfl
  rw [e, h.2, Bool.and_true, Bool.and_eq_true, decide_eq_true_eq]
  refine ⟨?_, hn⟩
  have := h.1.2
  simp only [Bool.or_eq_true, beq_iff_eq] at this ⊢
  rcases this with h | h
  · exact .inl (by omega)
  · exact .inr h
set_option maxRecDepth 100000 in
set_option maxHeartbeats 16000000 in
theorem back_any (v : Value) (T : List Tok) (s : ByteArray) (w : World) (hG : Good w) (hT : TokO w v T) (hx0 : ∀ x ∈ T, x.t.length ≤ 1048576 ∧ x.n < 18446744073709551616) (hs : s.size ≤ 1048576) :
    Calls Tryd.prog 6 #[v, .string s] w fun e w' => e = .returned (.bool true) ∧ Below w.heap.size w w' := by
  have HT := Lib.hid hT
  have GD := Lib.hid (fun w1 (h : Below w.heap.size w w1) => hG.thn h)
  have BG := Lib.hid (fun (V : World) (hb : Below w.heap.size w V) => begun_any V (hG.thn hb))
  by_cases hs2 : (2000 : Int) < (s.size : Int)
  · clear hT hx0 hG
    go_enter Tryd.func6, Tryd.ntmps6
    go_wp2_with fail
    refine (BG.out _ (Below.refl _ _)).mono ?_
    rintro e w1 ⟨rfl, hb1⟩
    have HB1 := Lib.hid hb1
    clear hb1
    go_wp2_with fail
    refine (BG.out _ HB1.out).mono ?_
    rintro e w2 ⟨rfl, hb2⟩
    have HB2 := Lib.hid (Below.thn HB1.out HB1.out.size hb2)
    clear hb2
    go_wp2_with fail
    go_ret
    exact ⟨rfl, HB2.out⟩
  · have hs3 : s.size ≤ 2000 := by omega
    have hTk : ∀ x ∈ T.take 700, x.t.length ≤ 1048576 ∧ x.n < 18446744073709551616 := fun x hx => hx0 x (List.mem_of_mem_take hx)
    have QU := Lib.hid (fun V => quote_any s V (by omega))
    have UQ := Lib.hid (fun V (hb : Below w.heap.size w V) => show Calls Tryd.prog 16 #[.string ⟨(quoteB s.data.toList).toArray⟩] V fun e w' => e = .returned (.tuple #[.string s, .int .i64 0]) ∧ Below V.heap.size V w' from by
      refine (unquote_any ⟨(quoteB s.data.toList).toArray⟩ V (GD.out V hb) (by
        rw [size_list]
        show (quoteB s.data.toList).length ≤ _
        have := flat_len4 s.data.toList
        rw [← size_list] at this
        unfold quoteB
        simp only [List.length_cons, List.length_append, List.length_nil]
        omega)).mono ?_
      rintro e w1 ⟨h | h, hb⟩
      · obtain ⟨b, h1, rfl⟩ := h
        rw [show (⟨(quoteB s.data.toList).toArray⟩ : ByteArray).data.toList = quoteB s.data.toList from rfl, unquote_back] at h1
        cases h1
        exact ⟨by simp, hb⟩
      · rw [show (⟨(quoteB s.data.toList).toArray⟩ : ByteArray).data.toList = quoteB s.data.toList from rfl, unquote_back] at h
        exact absurd h.1 (by simp))
    obtain ⟨Q, hQ⟩ : ∃ Q, (⟨(quoteB s.data.toList).toArray⟩ : ByteArray) = Q := ⟨_, rfl⟩
    rw [hQ] at QU UQ
    have FW := Lib.hid (fun V (hb : Below w.heap.size w V) => few_any v T V (HT.out.keep hb))
    have hTl : (T.take 700).length ≤ 700 := by rw [List.length_take]; omega
    generalize T.take 700 = S at *
    have PR := Lib.hid (fun V (hb : Below w.heap.size w V) u (hu : TokO V u S) => print_any u S V (GD.out V hb) hu hTl hTk)
    have HTK := Lib.hid hTk
    clear hT hx0 hG hQ hTk
    go_enter Tryd.func6, Tryd.ntmps6
    go_wp2_with fail
    refine (BG.out _ (Below.refl _ _)).mono ?_
    rintro e w1 ⟨rfl, hb1⟩
    have HB1 := Lib.hid hb1
    clear hb1
    go_wp2_with fail
    refine (QU.out _).mono ?_
    rintro e w2 ⟨rfl, hb2⟩
    have HB2 := Lib.hid (Below.thn HB1.out HB1.out.size hb2)
    clear hb2
    go_wp2_with fail
    refine (UQ.out _ HB2.out).mono ?_
    rintro e w3 ⟨rfl, hb3⟩
    have HB3 := Lib.hid (Below.thn HB2.out HB2.out.size hb3)
    clear hb3
    go_wp2_with fail
    refine (FW.out _ HB3.out).mono ?_
    rintro e w3' ⟨⟨u, rfl, hu⟩, rfl⟩
    have HU := Lib.hid hu
    have PU := Lib.hid (PR.out w3 HB3.out u hu)
    clear hu
    unfold PrintV at PU
    cases hc : S.all chkT with
    | false =>
      rw [hc, if_neg (by decide)] at PU
      clear hc
      go_wp2_with fail
      refine PU.out.mono ?_
      rintro e w4 ⟨rfl, hb4⟩
      have HB4 := Lib.hid (Below.thn HB3.out HB3.out.size hb4)
      clear hb4
      go_wp2_with fail
      go_ret
      exact ⟨rfl, HB4.out⟩
    | true =>
      rw [hc, if_pos rfl] at PU
      by_cases h5 : (printF none S).length ≤ 512
      · rw [if_pos h5] at PU
        have hpb := print_back S (fun x hx => chk_may (List.all_eq_true.1 hc x hx) (HTK.out x hx).2) h5
        generalize printF none S = P at *
        obtain ⟨L, hL⟩ : ∃ L, (⟨P.toArray⟩ : ByteArray) = L := ⟨_, rfl⟩
        have hLl : L.data.toList = P := by rw [← hL]
        have hLs : L.size = P.length := by rw [size_list, hLl]
        rw [hL] at PU
        have LJ := Lib.hid (fun V (hb : Below w.heap.size w V) => lex_toks L V (GD.out V hb) (by unfold maxLen; omega))
        rw [hLl] at LJ
        have hlb : lexB P = lineB P := by
          have h2 := hpb.2.1
          unfold lexB at h2 ⊢
          split
          · rfl
          · rename_i hne
            rw [if_neg hne] at h2
            exact absurd h2 hne
        rw [hlb] at hpb
        obtain ⟨X, xa, xe, hX⟩ : ∃ X a e, lineB P = (X, a, e) := ⟨_, _, _, rfl⟩
        rw [hX] at hpb LJ
        simp only at hpb LJ
        obtain ⟨hp1, rfl, rfl⟩ := hpb
        rw [if_pos rfl, ← hLs] at LJ
        have HXT := Lib.hid hp1
        have hXl : X.length = S.length := by have := congrArg List.length hp1; rw [List.length_map, List.length_map] at this; exact this
        clear hc hL hLl hlb hX hp1 h5
        go_wp2_with fail
        refine PU.out.mono ?_
        rintro e w4 ⟨rfl, hb4⟩
        have HB4 := Lib.hid (Below.thn HB3.out HB3.out.size hb4)
        have HU4 := Lib.hid (HU.out.keep hb4)
        clear hb4
        go_wp2_with fail
        refine (LJ.out _ HB4.out).mono ?_
        rintro e w5 ⟨⟨v5, rfl, ht5⟩, hb5⟩
        have HB5 := Lib.hid (Below.thn HB4.out HB4.out.size hb5)
        have HU5 := Lib.hid (HU4.out.keep hb5)
        have PX := Lib.hid (plain_any v5 X w5 ht5 (by omega))
        clear hb5 ht5
        go_wp2_with fail
        refine PX.out.mono ?_
        rintro e w6 ⟨⟨v6, rfl, ht6⟩, hb6⟩
        rw [HXT.out] at ht6
        have HB6 := Lib.hid (Below.thn HB5.out HB5.out.size hb6)
        have HT6 := Lib.hid ht6
        have PT := Lib.hid (plain_toko u S w6 (HU5.out.keep hb6) (by omega))
        clear hb6 ht6
        go_wp2_with fail
        refine PT.out.mono ?_
        rintro e w7 ⟨⟨v7, rfl, ht7⟩, hb7⟩
        have HB7 := Lib.hid (Below.thn HB6.out HB6.out.size hb7)
        have EQ := Lib.hid (equal_toks v6 v7 (S.map plainT) w7 (HT6.out.keep hb7) ht7 (by rw [List.length_map]; omega))
        clear hb7 ht7
        go_wp2_with fail
        refine EQ.out.mono ?_
        rintro e w8 ⟨rfl, hb8⟩
        have HB8 := Lib.hid (Below.thn HB7.out HB7.out.size hb8)
        clear hb8
        go_wp2_with fail
        go_ret
        exact ⟨rfl, HB8.out⟩
      · rw [if_neg h5] at PU
        clear hc h5
        go_wp2_with fail
        refine PU.out.mono ?_
        rintro e w4 ⟨rfl, hb4⟩
        have HB4 := Lib.hid (Below.thn HB3.out HB3.out.size hb4)
        clear hb4
        go_wp2_with fail
        go_ret
        exact ⟨rfl, HB4.out⟩
end Go.Proofs.YtjmdcimfmmfinaaDoor
