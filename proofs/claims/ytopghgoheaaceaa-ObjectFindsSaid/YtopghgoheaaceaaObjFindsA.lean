/-
  The law ObjectFinds: what each call returns. Conditions: how the object lies, the names' sizes.
-/
import Derived.Test.YtopghgoheaaceaaObjQ
import Derived.Test.YtopghgoheaaceaaObjR
import Derived.Test.YtopghgoheaaceaaObjV
import Derived.Test.YtopghgoheaaceaaObjY
namespace Go.Proofs.Ytopghgoheaaceaa
open Go.RowKit
set_option linter.unusedVariables false
set_option linter.unusedSimpArgs false

theorem findO_val (r : Option Nat) : ∃ (a : Int) (b : Bool), findO r = .returned (.tuple #[.int .i64 a, .bool b]) := by
  cases r with
  | none => exact ⟨_, _, rfl⟩
  | some k => exact ⟨_, _, rfl⟩
theorem atO_val (r : Option (Nat × Int)) : ∃ (a : Int) (b : Bool), atO r = .returned (.tuple #[.int .i64 a, .bool b]) := by
  cases r with
  | none => exact ⟨_, _, rfl⟩
  | some p => exact ⟨_, _, rfl⟩
theorem cellsP2 {W W' : World} (hb : Below W.heap.size W W') {p1 p2 : Addr} {v1 v2 : Value} (h : W.cell? p1 = some v1 ∧ W.cell? p2 = some v2) : W'.cell? p1 = some v1 ∧ W'.cell? p2 = some v2 := by
  have k : ∀ {p : Addr} {v : Value}, W.cell? p = some v → W'.cell? p = some v := fun h => (hb.cell (World.block_lt_of_cell? W _ h)).trans h
  exact ⟨k h.1, k h.2⟩
theorem cellk' {W W' : World} (hb : Below W.heap.size W W') {p : Addr} {v : Value} (h : W.cell? p = some v) : W'.cell? p = some v := (hb.cell (World.block_lt_of_cell? W _ h)).trans h
set_option maxRecDepth 100000 in
set_option maxHeartbeats 8000000 in
theorem finds_law (o : Obj') (s : BA) (sec off : Int) (m : Nat) (w : World) (ho : ObjO w o) (hs : Sized o) (hm : m ≤ 255) :
    Calls Try.prog 5 #[obV o, .string s, .int .i64 sec, .int .i64 off, .int .u8 (m : Int)] w fun e w' => e = .returned (.bool true) ∧ Below w.heap.size w w' := by
  have BG := Lib.hid (fun W => begun_any W)
  have FW := Lib.hid (fun W (hb : Below w.heap.size w W) => few_any o W (ho.keep hb))
  have F1 := Lib.hid (fun W (hb : Below w.heap.size w W) (hl : o.syms.length ≤ 281474976710656) => find_any o s W (ho.keep hb) hl)
  have F2 := Lib.hid (fun W (hb : Below w.heap.size w W) => rfind_any o s W (ho.keep hb))
  have S1 := Lib.hid (fun W (hb : Below w.heap.size w W) (hl : o.secs.length ≤ 281474976710656) => section_any o s W (ho.keep hb) hl)
  have S2 := Lib.hid (fun W (hb : Below w.heap.size w W) => rsec_any o s W (ho.keep hb))
  have A1 := Lib.hid (fun W (hb : Below w.heap.size w W) => at_any o sec off W (ho.keep hb))
  have A2 := Lib.hid (fun W (hb : Below w.heap.size w W) => rat_any o sec off W (ho.keep hb))
  have U1 := Lib.hid (fun W (hb : Below w.heap.size w W) (hl : o.syms.length ≤ 300) => und_any o W (ho.keep hb) hl hs.2)
  have U2 := Lib.hid (fun W (hb : Below w.heap.size w W) (hl : o.syms.length ≤ 300) => rund_any o W (ho.keep hb) hl)
  have UL := undL_len o.syms
  obtain ⟨fa, fb, hf⟩ := findO_val (findL (o.syms.map (·.name)) s)
  obtain ⟨ga, gb, hg⟩ := findO_val (findL (o.secs.map (·.name)) s)
  obtain ⟨ha, hb, hh⟩ := atO_val (atL sec off o.syms)
  have hf2 : findO (findL (symNs o) s) = .returned (.tuple #[.int .i64 fa, .bool fb]) := hf
  have hg2 : findO (findL (secNs o) s) = .returned (.tuple #[.int .i64 ga, .bool gb]) := hg
  rw [hf] at F1
  rw [hf2] at F2
  rw [hg] at S1
  rw [hg2] at S2
  rw [hh] at A1 A2
  clear hf hf2 hg hg2 hh hs
  generalize undL o.syms = D at *
  obtain ⟨sv, yv, secs, syms⟩ := o
  obtain ⟨sa, sc, h1⟩ := ho.1.slice
  obtain ⟨ya, yc, h2⟩ := ho.2.slice
  simp only at h1 h2 FW F1 F2 S1 S2 A1 A2 U1 U2 UL
  subst h1 h2
  clear ho
  unfold obV at FW F1 F2 S1 S2 A1 A2 U1 U2 ⊢
  simp only at FW F1 F2 S1 S2 A1 A2 U1 U2 ⊢
  have TD := Lib.hid (fun v k W h1 h2 (hl : D.length ≤ 300) => told_any v D k W h1 h2 hl)
  have TN := Lib.hid (fun v W h1 h2 (hl : D.length ≤ 300) => show Calls Try.prog 30 #[v, .int .i64 999] W _ from told_any v D 999 W h1 h2 hl)
  have EQ := Lib.hid (fun v u L W h1 h2 (hl : L.length ≤ 300) => equal_strs v u L W h1 h2 hl)
  obtain ⟨W1, hW1⟩ : ∃ W1, w.alloc (.cells #[.slice sa secs.length sc, .slice ya syms.length yc] 25) = W1 := ⟨_, rfl⟩
  have HB1 : Hid (Below w.heap.size w W1) := Lib.hid (by rw [← hW1]; exact below1 w _)
  have hz1 : w.heap.size < W1.heap.size := by rw [← hW1]; simp
  have c0 : W1.cell? ⟨w.heap.size, 0, none⟩ = some (.slice sa secs.length sc) := by rw [← hW1]; exact cells_new w _ _ 0 _ rfl
  have c1 : W1.cell? ⟨w.heap.size, 1, none⟩ = some (.slice ya syms.length yc) := by rw [← hW1]; exact cells_new w _ _ 1 _ rfl
  go_enter Try.func5, Try.ntmps5
  go_wp2_with fail
  clear hW1
  refine (BG.out _).mono ?_
  rintro e w2 ⟨rfl, hb⟩
  have HB2 := Lib.hid (Below.thn HB1.out HB1.out.size hb)
  have c0 := cellk' hb c0
  have c1 := cellk' hb c1
  clear hb
  go_wp2_with fail
  refine (FW.out _ HB2.out).mono ?_
  rintro e w3 ⟨rfl, hb⟩
  have HB3 := Lib.hid (Below.thn HB2.out HB2.out.size hb)
  have c0 := cellk' hb c0
  have c1 := cellk' hb c1
  clear hb
  obtain ⟨few, hfew⟩ : ∃ b, (decide ((secs.length : Int) ≤ 80) && decide ((syms.length : Int) ≤ 300)) = b := ⟨_, rfl⟩
  rw [hfew]
  cases few with
  | false =>
    clear hfew
    go_wp2_with fail
    refine (BG.out _).mono ?_
    rintro e w4 ⟨rfl, hb⟩
    have HB4 := Lib.hid (Below.thn HB3.out HB3.out.size hb)
    clear hb
    go_wp2_with fail
    go_ret
    exact ⟨rfl, HB4.out⟩
  | true =>
    rw [Bool.and_eq_true, decide_eq_true_eq, decide_eq_true_eq] at hfew
    obtain ⟨hf1, hf2⟩ := hfew
    have hl1 : secs.length ≤ 80 := by omega
    have hl2 : syms.length ≤ 300 := by omega
    have hDl : D.length ≤ 300 := by omega
    clear UL hf1 hf2
    go_wp2_with fail
    refine (F1.out _ HB3.out (by omega)).mono ?_
    rintro e w4 ⟨rfl, hb⟩
    have HB4 := Lib.hid (Below.thn HB3.out HB3.out.size hb)
    have c0 := cellk' hb c0
    have c1 := cellk' hb c1
    clear hb
    go_wp2_with fail
    refine (F2.out _ HB4.out).mono ?_
    rintro e w5 ⟨rfl, hb⟩
    have HB5 := Lib.hid (Below.thn HB4.out HB4.out.size hb)
    have c0 := cellk' hb c0
    have c1 := cellk' hb c1
    clear hb
    go_wp2_with fail
    refine (S1.out _ HB5.out (by omega)).mono ?_
    rintro e w6 ⟨rfl, hb⟩
    have HB6 := Lib.hid (Below.thn HB5.out HB5.out.size hb)
    have c0 := cellk' hb c0
    have c1 := cellk' hb c1
    clear hb
    go_wp2_with fail
    refine (S2.out _ HB6.out).mono ?_
    rintro e w7 ⟨rfl, hb⟩
    have HB7 := Lib.hid (Below.thn HB6.out HB6.out.size hb)
    have c0 := cellk' hb c0
    have c1 := cellk' hb c1
    clear hb
    go_wp2_with fail
    refine (A1.out _ HB7.out).mono ?_
    rintro e w8 ⟨rfl, hb⟩
    have HB8 := Lib.hid (Below.thn HB7.out HB7.out.size hb)
    have c0 := cellk' hb c0
    have c1 := cellk' hb c1
    clear hb
    go_wp2_with fail
    refine (A2.out _ HB8.out).mono ?_
    rintro e w9 ⟨rfl, hb⟩
    have HB9 := Lib.hid (Below.thn HB8.out HB8.out.size hb)
    have c0 := cellk' hb c0
    have c1 := cellk' hb c1
    clear hb
    go_wp2_with fail
    refine (U2.out _ HB9.out hl2).mono ?_
    rintro e w10 ⟨u, rfl, hown, hb⟩
    have HB10 := Lib.hid (Below.thn HB9.out HB9.out.size hb)
    have c0 := cellk' hb c0
    have c1 := cellk' hb c1
    clear hb
    have HU10 := Lib.hid (str_of_own hown)
    have hcase : (u = .slice none 0 0 ∧ D.length = 0) ∨ ∃ g cap, u = .slice (some ⟨g, 0, none⟩) D.length cap ∧ D.length ≤ cap := by
      rcases hown.2 with h | ⟨g, cap, cur, h1, _, _, h4, _⟩
      · exact .inl h
      · exact .inr ⟨g, cap, h1, h4⟩
    clear hown
    obtain ⟨k, hk⟩ : ∃ k, min D.length m = k := ⟨_, rfl⟩
    have hkm : min (D.length : Int) (m : Int) = (k : Int) := by omega
    have hkD : k ≤ D.length := by omega
    have hkT : D.take k = D.take m := by
      rw [← hk]
      rcases Nat.le_total D.length m with h | h
      · rw [Nat.min_eq_left h, List.take_of_length_le (Nat.le_refl _), List.take_of_length_le h]
      · rw [Nat.min_eq_right h]
    have HKT := Lib.hid hkT
    have H9 : Hid (D.take 999 = D) := Lib.hid (List.take_of_length_le (by omega))
    have wm : IntKind.i64.wrap (m : Int) = (m : Int) := IntWalk.i64_in _ (by omega)
    have htl : (D.take m).length ≤ 300 := by rw [List.length_take]; omega
    clear hkT hk
    have S0 : w10.cell? ⟨w.heap.size, 0, none⟩ = some (.slice sa secs.length sc) ∧ w10.cell? ⟨w.heap.size, 1, none⟩ = some (.slice ya syms.length yc) := ⟨c0, c1⟩
    clear c0 c1
    rcases hcase with ⟨rfl, hD0⟩ | ⟨g, cap, rfl, hcap⟩
    · have hk0 : k = 0 := by omega
      subst hk0
      have hD : D = [] := List.eq_nil_of_length_eq_zero hD0
      have HD := Lib.hid hD
      clear hD
      have hm0 : min (0 : Int) (m : Int) = 0 := by omega
      have HCUT := Lib.hid (fun W (h : StrO W (.slice none 0 0) D) => show StrO W (.slice none 0 0) (D.take m) from by rw [← HKT.out]; exact str_take h 0 (Nat.le_refl _))
      go_wp2_with fail
      go_region_held3 (fun w' => w'.cell? ⟨w.heap.size, 0, none⟩ = some (.slice sa secs.length sc) ∧ w'.cell? ⟨w.heap.size, 1, none⟩ = some (.slice ya syms.length yc)) (first | with_reducible exact S0 | with_reducible exact Sa | with_reducible exact Sb | with_reducible exact Sc | with_reducible exact Sd | with_reducible exact Se | with_reducible exact Sf | exact S0 | exact Sa | exact Sb | exact Sc | exact Sd | exact Se | exact Sf) (first
          | (go_at_call 31; refine (U1.out _ ?_ hl2).mono ?_; exact HB10.out.drew; rintro e wa ⟨⟨ua, rfl, hua, hpa⟩, hb⟩; have HBa := Lib.hid (Below.thn HB10.out.drew HB10.out.size hb); have hq := Below.thn (Below.refl _ w10).drew (Nat.le_refl _) hb; have HUa := Lib.hid (HU10.out.keep hq); have Sa := cellsP2 hq S0; have HIa := Lib.hid hua; have HPa := Lib.hid hpa; clear hb hq hua hpa)
          | (go_at_call_of 30 ua; refine (TN.out _ _ ?_ ?_ hDl).mono ?_; exact HIa.out; exact HPa.out; rintro e wb ⟨⟨xb, rfl, hxb⟩, hb⟩; have HBb := Lib.hid (Below.thn HBa.out HBa.out.size hb); have HUb := Lib.hid (HUa.out.keep hb); have Sb := cellsP2 hb Sa; have HXb := Lib.hid (show StrO wb xb D from H9.out ▸ hxb); clear hb hxb)
          | (go_at_call_of 29 xb; refine (EQ.out _ _ D _ ?_ ?_ hDl).mono ?_; exact HXb.out; exact HUb.out; rintro e wc ⟨rfl, hb⟩; have HBc := Lib.hid (Below.thn HBb.out HBb.out.size hb); have HUc := Lib.hid (HUb.out.keep hb); have Sc := cellsP2 hb Sb; clear hb)
          | (go_at_call 31; refine (U1.out _ ?_ hl2).mono ?_; exact HBc.out; rintro e wd ⟨⟨ud, rfl, hud, hpd⟩, hb⟩; have HBd := Lib.hid (Below.thn HBc.out HBc.out.size hb); have HUd := Lib.hid (HUc.out.keep hb); have Sd := cellsP2 hb Sc; have HId := Lib.hid hud; have HPd := Lib.hid hpd; clear hb hud hpd)
          | (go_at_call_of 30 ud; refine (TD.out _ m _ ?_ ?_ hDl).mono ?_; exact HId.out; exact HPd.out; rintro e we ⟨⟨xe, rfl, hxe⟩, hb⟩; have HBe := Lib.hid (Below.thn HBd.out HBd.out.size hb); have HUe := Lib.hid (HUd.out.keep hb); have Se := cellsP2 hb Sd; have HXe := Lib.hid hxe; clear hb hxe)
          | (go_at_call_of 29 xe; refine (EQ.out _ _ (D.take m) _ ?_ ?_ htl).mono ?_; exact HXe.out; exact HCUT.out _ HUe.out; rintro e wf ⟨rfl, hb⟩; have HBf := Lib.hid (Below.thn HBe.out HBe.out.size hb); have Sf := cellsP2 hb Se; clear hb))
      all_goals
        go_wp2_with fail
        go_ret
        exact ⟨ret1b (by simp), HBf.out⟩
    · have hkc : (k : Int) ≤ (cap : Int) := by omega
      have hkc2 : k ≤ cap := by omega
      have HCUT := Lib.hid (fun W (h : StrO W (.slice (some ⟨g, 0, none⟩) D.length cap) D) => show StrO W (.slice (some ⟨g, 0, none⟩) k cap) (D.take m) from by rw [← HKT.out]; exact str_take h k hkD)
      go_wp2_with fail
      go_region_held3 (fun w' => w'.cell? ⟨w.heap.size, 0, none⟩ = some (.slice sa secs.length sc) ∧ w'.cell? ⟨w.heap.size, 1, none⟩ = some (.slice ya syms.length yc)) (first | with_reducible exact S0 | with_reducible exact Sa | with_reducible exact Sb | with_reducible exact Sc | with_reducible exact Sd | with_reducible exact Se | with_reducible exact Sf | exact S0 | exact Sa | exact Sb | exact Sc | exact Sd | exact Se | exact Sf) (first
          | (go_at_call 31; refine (U1.out _ ?_ hl2).mono ?_; exact HB10.out.drew; rintro e wa ⟨⟨ua, rfl, hua, hpa⟩, hb⟩; have HBa := Lib.hid (Below.thn HB10.out.drew HB10.out.size hb); have hq := Below.thn (Below.refl _ w10).drew (Nat.le_refl _) hb; have HUa := Lib.hid (HU10.out.keep hq); have Sa := cellsP2 hq S0; have HIa := Lib.hid hua; have HPa := Lib.hid hpa; clear hb hq hua hpa)
          | (go_at_call_of 30 ua; refine (TN.out _ _ ?_ ?_ hDl).mono ?_; exact HIa.out; exact HPa.out; rintro e wb ⟨⟨xb, rfl, hxb⟩, hb⟩; have HBb := Lib.hid (Below.thn HBa.out HBa.out.size hb); have HUb := Lib.hid (HUa.out.keep hb); have Sb := cellsP2 hb Sa; have HXb := Lib.hid (show StrO wb xb D from H9.out ▸ hxb); clear hb hxb)
          | (go_at_call_of 29 xb; refine (EQ.out _ _ D _ ?_ ?_ hDl).mono ?_; exact HXb.out; exact HUb.out; rintro e wc ⟨rfl, hb⟩; have HBc := Lib.hid (Below.thn HBb.out HBb.out.size hb); have HUc := Lib.hid (HUb.out.keep hb); have Sc := cellsP2 hb Sb; clear hb)
          | (go_at_call 31; refine (U1.out _ ?_ hl2).mono ?_; exact HBc.out; rintro e wd ⟨⟨ud, rfl, hud, hpd⟩, hb⟩; have HBd := Lib.hid (Below.thn HBc.out HBc.out.size hb); have HUd := Lib.hid (HUc.out.keep hb); have Sd := cellsP2 hb Sc; have HId := Lib.hid hud; have HPd := Lib.hid hpd; clear hb hud hpd)
          | (go_at_call_of 30 ud; refine (TD.out _ m _ ?_ ?_ hDl).mono ?_; exact HId.out; exact HPd.out; rintro e we ⟨⟨xe, rfl, hxe⟩, hb⟩; have HBe := Lib.hid (Below.thn HBd.out HBd.out.size hb); have HUe := Lib.hid (HUd.out.keep hb); have Se := cellsP2 hb Sd; have HXe := Lib.hid hxe; clear hb hxe)
          | (go_at_call_of 29 xe; refine (EQ.out _ _ (D.take m) _ ?_ ?_ htl).mono ?_; exact HXe.out; exact HCUT.out _ HUe.out; rintro e wf ⟨rfl, hb⟩; have HBf := Lib.hid (Below.thn HBe.out HBe.out.size hb); have Sf := cellsP2 hb Se; clear hb))
      all_goals
        go_wp2_with fail
        go_ret
        exact ⟨ret1b (by simp), HBf.out⟩
end Go.Proofs.Ytopghgoheaaceaa
