/-
  LexLines: what each call returns. Conditions: what the variables of the library hold (Good), a text that is no longer than any.
-/
import Derived.Test.YtjmdcimfmmfinaaDoorLexRise
import Derived.Test.YtjmdcimfmmfinaaDoorLexRefI
import Derived.Deep.RegionHeld3
namespace Go.Proofs.YtjmdcimfmmfinaaDoor
open Go.RowKit Go.Shelf
attribute [local go_sem] Oper.semAt_some

theorem toks_slice {W : World} {vb : Option Addr} {vc m : Nat} {T : List Tok} (h : TokS W (.slice vb T.length vc) T) (hm : m ≤ T.length) : TokS W (.slice vb m vc) (T.take m) := by
  rcases h with ⟨h1, h0⟩ | ⟨g, cap, h1, h2, h3⟩
  · subst h0
    obtain rfl : m = 0 := by simpa using hm
    exact .inl ⟨h1, rfl⟩
  · injection h1 with e1 e2 e3
    subst e1 e3
    refine .inr ⟨g, vc, by rw [List.length_take, Nat.min_eq_left hm], h2, fun k x hx => ?_⟩
    rw [List.getElem?_take] at hx
    split at hx
    · exact h3 k x hx
    · cases hx
theorem toks_own {W : World} {v : Value} {T : List Tok} (h : TokS W v T) : ∃ b c, v = .slice b T.length c := by
  rcases h with ⟨h1, h0⟩ | ⟨g, cap, h1, _⟩
  · exact ⟨none, 0, by rw [h1, h0]; rfl⟩
  · exact ⟨_, _, h1⟩
set_option maxRecDepth 100000 in
set_option maxHeartbeats 40000000 in
theorem lines_any (line : ByteArray) (most : Nat) (w : World) (hG : Good w) (hm : line.size ≤ maxLen) (h8 : most < 256) :
    Calls Tryd.prog 3 #[.string line, .int .u8 (most : Int)] w fun e w' => e = .returned (.bool true) ∧ Below w.heap.size w w' := by
  have hF := lineB_few line.data.toList
  have hF2 : (lexB line.data.toList).1.length ≤ 512 := by unfold lexB; split; exact hF; exact Nat.zero_le _
  have TA := Lib.hid (fun (w : World) => tokens_any line w)
  have TD := Lib.hid (fun (n bl : Nat) (V : World) (hb : Below w.heap.size w V) (hbl : V.heap[bl]? = some (.cells #[.string line] 9 (0, 0))) => told_any line bl n V (hG.thn hb) hm hbl)
  have LX := Lib.hid (fun (V : World) (hb : Below w.heap.size w V) => lex_any line V (hG.thn hb) hm)
  have DX := Lib.hid (fun (V : World) => rlex_doc line V hm)
  have DT := Lib.hid (fun (V : World) => rtokens_doc line V hm)
  have BG := Lib.hid (fun (V : World) (hb : Below w.heap.size w V) => begun_any V (hG.thn hb))
  unfold LexOut at LX
  unfold TOut at DX DT
  generalize lineB line.data.toList = A at *
  generalize lexB line.data.toList = B at *
  obtain ⟨T, ta, te⟩ := A
  obtain ⟨X, xa, xe⟩ := B
  simp only at hF hF2 TD LX DX DT
  have wm : IntKind.i64.wrap (most : Int) = (most : Int) := IntWalk.i64_in _ (by omega)
  obtain ⟨xb, hxb⟩ : ∃ y, xa = y := ⟨_, rfl⟩
  obtain ⟨xf, hxf⟩ : ∃ y, xe = y := ⟨_, rfl⟩
  rw [hxb, hxf] at DX
  have f1 : ((xa : Int) == (xb : Int)) = true := by rw [hxb]; simp
  have f2 : (xe == xf) = true := by rw [hxf]; simp
  have f3 : (xa == xb) = true := by rw [hxb]; simp
  clear hG hm hxb hxf
  go_enter Tryd.func3, Tryd.ntmps3
  go_wp2_with fail
  refine (LX.out _ (Below.refl _ _)).mono ?_
  rintro e w1 ⟨⟨v1, rfl, hown1⟩, hb1⟩
  have HB1 := Lib.hid hb1
  have HA1 := Lib.hid (toks_of_own hown1)
  clear hown1 hb1
  go_wp2_with fail
  refine (DX.out _).mono ?_
  rintro e w2 ⟨⟨v2, rfl, hown2⟩, hb2⟩
  have HB2 := Lib.hid (Below.thn HB1.out HB1.out.size hb2)
  have HA2 := Lib.hid (HA1.out.keep hb2)
  have HC2 := Lib.hid (toks_of_own hown2)
  clear hown2 hb2
  go_wp2_with fail
  refine (DT.out _).mono ?_
  rintro e w3 ⟨⟨v3, rfl, hown3⟩, hb3⟩
  have HB3 := Lib.hid (Below.thn HB2.out HB2.out.size hb3)
  have HA3 := Lib.hid (HA2.out.keep hb3)
  have HC3 := Lib.hid (HC2.out.keep hb3)
  have ht3 := toks_of_own hown3
  have TDN := Lib.hid (TD.out 999)
  rw [List.take_of_length_le (show T.length ≤ 999 by omega)] at TDN
  have HTM := Lib.hid (show (T.take most).length ≤ 1000000 by rw [List.length_take]; omega)
  have hTl : T.length ≤ 1000000 := by omega
  have hXl : X.length ≤ 1000000 := by omega
  clear hF hF2 h8
  rcases hown3.2 with ⟨rfl, h0⟩ | ⟨g, cap, cur, rfl, _, _, hcap, hcm, _⟩
  · have hmn : min (0 : Int) (most : Int) = 0 := by omega
    have hT0 : T = [] := List.length_eq_zero_iff.1 h0
    have HL3 := Lib.hid ht3
    have HLM := Lib.hid (fun (W : World) (c : Nat) (h : TokS W (.slice none 0 c) T) => show TokS W (.slice none 0 c) (T.take most) from by
      rw [hT0, List.take_nil]; rw [hT0] at h; exact h)
    clear hown3 hb3 ht3 hT0 h0
    go_wp2_with fail
    go_region_held3 (fun _ => True) (first | exact trivial) (first | (go_at_call 12; refine (BG.out _ ?_).mono ?_; exact HB3.out.drew; rintro e W4 ⟨rfl, hb4⟩; have HB4 := Lib.hid (Below.thn HB3.out.drew HB3.out.size hb4); have hq4 := Below.thn (Below.refl _ w3).drew (Nat.le_refl _) hb4; have HA4 := Lib.hid (HA3.out.keep hq4); have HC4 := Lib.hid (HC3.out.keep hq4); have HL4 := Lib.hid (HL3.out.keep hq4); clear hb4 hq4) | (go_at_call_of 13 v1; refine (equal_toks v1 v2 X _ ?_ ?_ ?_).mono ?_; exact HA4.out; exact HC4.out; omega; rintro e W5 ⟨rfl, hb5⟩; have HB5 := Lib.hid (Below.thn HB4.out HB4.out.size hb5); have HL5 := Lib.hid (HL4.out.keep hb5); clear hb5) | (go_at_call 15; refine (TA.out _).mono ?_; rintro e Wt ⟨rfl, rfl⟩) | (go_at_call_of 14 (Value.int .i64 999); refine (TDN.out W5.heap.size _ ?_ ?_).mono ?_; exact HB5.out.alloc HB5.out.size _; exact heap_alloc_new W5 _; rintro e W6 ⟨⟨u1, rfl, ho1⟩, hb6⟩; have HU6 := Lib.hid (toks_of_own ho1); have hq6 := Below.thn (below1 W5 _) (by simp) hb6; have HB6 := Lib.hid (Below.thn HB5.out HB5.out.size hq6); have HL6 := Lib.hid (HL5.out.keep hq6); clear hb6 hq6 ho1) | (go_at_call_of 13 u1; refine (equal_toks u1 _ T _ ?_ ?_ ?_).mono ?_; exact HU6.out; exact HL6.out; omega; rintro e W7 ⟨rfl, hb7⟩; have HB7 := Lib.hid (Below.thn HB6.out HB6.out.size hb7); have HL7 := Lib.hid (HL6.out.keep hb7); clear hb7) | (go_at_call_of 14 (Value.int .i64 (most : Int)); refine (TD.out most W7.heap.size _ ?_ ?_).mono ?_; exact HB7.out.alloc HB7.out.size _; exact heap_alloc_new W7 _; rintro e W8 ⟨⟨u2, rfl, ho2⟩, hb8⟩; have HU8 := Lib.hid (toks_of_own ho2); have hq8 := Below.thn (below1 W7 _) (by simp) hb8; have HB8 := Lib.hid (Below.thn HB7.out HB7.out.size hq8); have HL8 := Lib.hid (HL7.out.keep hq8); clear hb8 hq8 ho2) | (go_at_call_of 13 u2; refine (equal_toks u2 _ (T.take most) _ ?_ ?_ ?_).mono ?_; exact HU8.out; exact HLM.out _ _ HL8.out; exact HTM.out; rintro e W9 ⟨rfl, hb9⟩; have HB9 := Lib.hid (Below.thn HB8.out HB8.out.size hb9); clear hb9))
    all_goals
      go_wp2_with fail
      go_ret
      exact ⟨rfl, HB9.out⟩
  · have hmn : min (T.length : Int) (most : Int) = ((min T.length most : Nat) : Int) := by omega
    have hml : min T.length most ≤ T.length := Nat.min_le_left _ _
    obtain ⟨mn, hmm⟩ : ∃ mn, min T.length most = mn := ⟨_, rfl⟩
    rw [hmm] at hmn hml
    have HM := Lib.hid hmm
    clear hmm
    have HL3 := Lib.hid ht3
    have HLM := Lib.hid (fun (W : World) (c : Nat) (h : TokS W (.slice (some ⟨g, 0, none⟩) T.length c) T) => show TokS W (.slice (some ⟨g, 0, none⟩) mn c) (T.take most) from by
      have h1 := toks_slice h hml
      have h2 : T.take most = T.take mn := by rw [List.take_eq_take_min, Nat.min_comm, HM.out]
      rw [h2]; exact h1)
    have hs1 : (mn : Int) ≤ (cap : Int) := by omega
    have hs2 : (0 : Int) ≤ (mn : Int) := by omega
    unfold maxLen at hcm
    clear hown3 hb3 ht3
    go_wp2_with fail
    go_region_held3 (fun _ => True) (first | exact trivial) (first | (go_at_call 12; refine (BG.out _ ?_).mono ?_; exact HB3.out.drew; rintro e W4 ⟨rfl, hb4⟩; have HB4 := Lib.hid (Below.thn HB3.out.drew HB3.out.size hb4); have hq4 := Below.thn (Below.refl _ w3).drew (Nat.le_refl _) hb4; have HA4 := Lib.hid (HA3.out.keep hq4); have HC4 := Lib.hid (HC3.out.keep hq4); have HL4 := Lib.hid (HL3.out.keep hq4); clear hb4 hq4) | (go_at_call_of 13 v1; refine (equal_toks v1 v2 X _ ?_ ?_ ?_).mono ?_; exact HA4.out; exact HC4.out; omega; rintro e W5 ⟨rfl, hb5⟩; have HB5 := Lib.hid (Below.thn HB4.out HB4.out.size hb5); have HL5 := Lib.hid (HL4.out.keep hb5); clear hb5) | (go_at_call 15; refine (TA.out _).mono ?_; rintro e Wt ⟨rfl, rfl⟩) | (go_at_call_of 14 (Value.int .i64 999); refine (TDN.out W5.heap.size _ ?_ ?_).mono ?_; exact HB5.out.alloc HB5.out.size _; exact heap_alloc_new W5 _; rintro e W6 ⟨⟨u1, rfl, ho1⟩, hb6⟩; have HU6 := Lib.hid (toks_of_own ho1); have hq6 := Below.thn (below1 W5 _) (by simp) hb6; have HB6 := Lib.hid (Below.thn HB5.out HB5.out.size hq6); have HL6 := Lib.hid (HL5.out.keep hq6); clear hb6 hq6 ho1) | (go_at_call_of 13 u1; refine (equal_toks u1 _ T _ ?_ ?_ ?_).mono ?_; exact HU6.out; exact HL6.out; omega; rintro e W7 ⟨rfl, hb7⟩; have HB7 := Lib.hid (Below.thn HB6.out HB6.out.size hb7); have HL7 := Lib.hid (HL6.out.keep hb7); clear hb7) | (go_at_call_of 14 (Value.int .i64 (most : Int)); refine (TD.out most W7.heap.size _ ?_ ?_).mono ?_; exact HB7.out.alloc HB7.out.size _; exact heap_alloc_new W7 _; rintro e W8 ⟨⟨u2, rfl, ho2⟩, hb8⟩; have HU8 := Lib.hid (toks_of_own ho2); have hq8 := Below.thn (below1 W7 _) (by simp) hb8; have HB8 := Lib.hid (Below.thn HB7.out HB7.out.size hq8); have HL8 := Lib.hid (HL7.out.keep hq8); clear hb8 hq8 ho2) | (go_at_call_of 13 u2; refine (equal_toks u2 _ (T.take most) _ ?_ ?_ ?_).mono ?_; exact HU8.out; exact HLM.out _ _ HL8.out; exact HTM.out; rintro e W9 ⟨rfl, hb9⟩; have HB9 := Lib.hid (Below.thn HB8.out HB8.out.size hb9); clear hb9))
    all_goals
      go_wp2_with fail
      go_ret
      exact ⟨rfl, HB9.out⟩
end Go.Proofs.YtjmdcimfmmfinaaDoor
