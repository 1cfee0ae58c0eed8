/-
  The law of there and back. Conditions: how the names and the bytes lie, and the names' sizes.
-/
import Derived.Test.YtbheeahdbimeiaaStbY
namespace Go.Proofs.Ytbheeahdbimeiaa
open Go.RowKit Go.Maps
set_option linter.unusedVariables false
set_option linter.unusedSimpArgs false

set_option maxRecDepth 100000 in
set_option maxHeartbeats 8000000 in
theorem back_law (v u : Value) (L : List BA) (T : BA) (w : World) (hL : StrO w v L) (hM : ∀ x ∈ L, x.size ≤ 140737488351232) (hT : BysO w u (nmOf T)) :
    Calls Try.prog 5 #[v, u] w fun e w' => e = .returned (.bool true) ∧ Below w.heap.size w w' := by
  have HL := Lib.hid hL
  have HT := Lib.hid hT
  have LV := Lib.hid (live_any w)
  have FW := Lib.hid (fun W h => few_any v L W h)
  have PB := Lib.hid (fun W (h : StrO W v L) (hf : fewB L = true) => build_any v L W h (by have := (few_facts hf hM).1; omega) (fun x hx => by have := hM x hx; omega))
  have BU := Lib.hid (fun v L W h1 h2 h3 => build_any v L W h1 h2 h3)
  have CK := Lib.hid (fun v T W h1 h2 => check_any v T W h1 h2)
  have LR := Lib.hid (fun v T W h1 h2 => lrows_any v T W h1 h2)
  have BE := Lib.hid (fun u v t W h1 h2 => bytesEq_same u v t W h1 h2)
  have AT := Lib.hid (fun v T o W h1 h2 => at_any v T o W h1 h2)
  have FD := Lib.hid (fun v T s W h1 h2 => find_any v T s W h1 h2)
  obtain ⟨i0, hi, hz0', hz1, hz2⟩ := info_parts infoStr
  obtain ⟨aa, ca, rfl⟩ := hL.slice
  obtain ⟨ba, bc, hub⟩ := hT.slice
  obtain ⟨N, hN⟩ : ∃ N, (nmOf T).length = N := ⟨_, rfl⟩
  rw [hN] at hub
  subst hub
  have HNT := Lib.hid (show N = T.size by rw [← hN, nm_len])
  have hlm : L.length ≤ maxLen := by have := RowsO.len hL; rwa [List.length_map] at this
  unfold maxLen at hlm
  clear hL hM hT hN
  go_enter Try.func5, Try.ntmps5
  go_wp2_with fail
  refine LV.out.mono ?_
  rintro e w1 ⟨rfl, hb1⟩
  have HB1 := Lib.hid hb1
  clear hb1
  go_wp2_with fail
  refine (FW.out _ (HL.out.keep HB1.out)).mono ?_
  rintro e w1' ⟨rfl, rfl⟩
  by_cases hf : fewB L = true
  · rw [hf]
    by_cases hns : (1000 : Int) < (N : Int)
    · go_wp2_with fail
      go_ret
      exact ⟨rfl, HB1.out⟩
    · have hTs : T.size ≤ 1048576 := by have := HNT.out; omega
      have HF := Lib.hid hf
      clear hf
      go_wp2_with fail
      refine (CK.out _ T _ (HT.out.keep HB1.out) hTs).mono ?_
      rintro e w2 ⟨rfl, hb2⟩
      have HB2 := Lib.hid (Below.thn HB1.out HB1.out.size hb2)
      clear hb2
      by_cases hE : chkE T = 0
      · obtain ⟨M, hR, hE1, hO, hM1, hM2⟩ := again hE
        rw [hE]
        clear hE
        have HA := Lib.hid (And.intro hE1 hO)
        have HM2 := Lib.hid hM2
        clear hE1 hO hM2
        go_wp2_with fail
        refine (LR.out _ T _ (HT.out.keep HB2.out) hTs).mono ?_
        rintro e w3 ⟨⟨v3, rfl, h3⟩, hb3⟩
        rw [hR] at h3
        rw [laidB_len] at h3
        have H3 := Lib.hid h3
        have HB3 := Lib.hid (Below.thn HB2.out HB2.out.size hb3)
        obtain ⟨ra, rc, rfl⟩ := own_sliceN h3
        clear hb3 h3 hR
        go_wp2_with fail
        go_loopw [5, 36] (fun lv iv wr => ∃ (i : Nat), i ≤ M.length ∧ iv = .int .i64 (i : Int) ∧ (∃ a c, lv = .slice a i c) ∧ Hid (wr.ownsRow w3.heap.size 9 1 lv i ((M.take i).map Value.string)) ∧ Hid (Below w3.heap.size w3 wr)) (fun lv iv _ => M.length - (intOf iv).toNat)
        case atStart => exact ⟨0, by omega, rfl, ⟨_, _, rfl⟩, Lib.hid (World.ownsRow_nil _ _ _ _), Lib.hid (Below.refl _ _)⟩
        case round =>
          obtain ⟨i, hil, rfl, ⟨la, lc, rfl⟩, HROW, HBR⟩ := hrel
          by_cases hlt : (i : Int) < (M.length : Int)
          · obtain ⟨s, hs⟩ : ∃ s, M[i]? = some s := ⟨_, List.getElem?_eq_getElem (by omega)⟩
            have h3' := own_keep H3.out HBR.out
            rw [← laidB_len 1 M] at h3'
            obtain ⟨g, cap, x, hx, hv, hg, x0, x1⟩ := rows2_at h3' (k := i) (by rw [laidB_len]; omega)
            rw [laidB_len] at hv
            cases hv
            have hxs : x = (pos M i, s) := by rw [laidB_pos hs] at hx; injection hx with e; exact e.symm
            subst hxs
            simp only at x0 x1
            have w9 : IntKind.i64.wrap ((i : Int) + 1) = ((i + 1 : Nat) : Int) := by rw [IntWalk.i64_in _ (by omega)]; omega
            have ip : (0 : Int) ≤ (i : Int) := by omega
            have HX := Lib.hid (show M.take (i + 1) = M.take i ++ [s] by rw [List.take_add_one, hs]; rfl)
            have HQ := Lib.hid (And.intro (show i + 1 ≤ maxLen by unfold maxLen; omega) (show (i + 1) * 16 ≤ 140737488355328 by omega))
            have hz : w3.heap.size ≤ wr.heap.size := HBR.out.size
            have HB4 := Lib.hid (below1 wr (.cells #[.int .i64 ((pos M i : Nat) : Int), .string s] 41))
            have HR4 := Lib.hid (own_keep HROW.out HB4.out)
            have hz4 : (wr.alloc (.cells #[.int .i64 ((pos M i : Nat) : Int), .string s] 41)).heap.size = wr.heap.size + 1 := by simp
            have hn0 : (wr.alloc (.cells #[.int .i64 ((pos M i : Nat) : Int), .string s] 41)).cell? ⟨wr.heap.size, 0, none⟩ = some (.int .i64 ((pos M i : Nat) : Int)) := cells_new wr #[.int .i64 ((pos M i : Nat) : Int), .string s] 41 0 _ rfl
            have hn1 : (wr.alloc (.cells #[.int .i64 ((pos M i : Nat) : Int), .string s] 41)).cell? ⟨wr.heap.size, 1, none⟩ = some (.string s) := cells_new wr #[.int .i64 ((pos M i : Nat) : Int), .string s] 41 1 _ rfl
            clear hx h3' hs
            generalize ((pos M i : Nat) : Int) = P at *
            have HNW := Lib.hid (show ∀ j u, [Value.string s][j]? = some u → ((wr.alloc (.cells #[.int .i64 P, .string s] 41)).alloc (.cells #[.string s] 9)).cell? ((⟨wr.heap.size + 1, 0, none⟩ : Addr).add j) = some u from by
              have h := heap_alloc_new (wr.alloc (.cells #[.int .i64 P, .string s] 41)) (.cells #[.string s] 9)
              rw [World.size_alloc] at h
              exact fun j u hu => World.news_of_block h j u hu)
            go_wp2_with (at_builtin; (refine wpList_append_own _ rfl _ _ 22 rfl w3.heap.size 9 i0 (.string ⟨#[]⟩) 1 16 Try.underlying22 hi hz0' hz1 hz2 rfl (by decide) _ _ _ rfl (own_keep HR4.out (below1 _ _)) ⟨wr.heap.size + 1, 0, none⟩ 1 1 [.string s] rfl rfl HNW.out (by simp [Value.oneCell']) HQ.out.1 HQ.out.2 (by simp; omega) ?_; intro v' w5 hown5 hgrow5 _; obtain ⟨ub, uc, rfl⟩ := own_sliceN hown5; have HB5 := Lib.hid (show Below w3.heap.size w3 w5 from (((HBR.out.alloc HBR.out.size _).alloc (by simp; omega) _).grown hgrow5 (by simp; omega) (fun q hq => (HROW.out.lt q hq).1))); have HO5 := Lib.hid hown5; clear hown5 hgrow5))
            exact ⟨⟨i + 1, by omega, by first | rfl | (push_cast; rfl), ⟨_, _, rfl⟩, Lib.hid (by rw [HX.out, List.map_append]; exact HO5.out), HB5⟩, by simp [intOf]; omega⟩
          · have hi' : i = M.length := by omega
            have HST := Lib.hid (str_of_own (W := wr) (base := w3.heap.size) (v := .slice la i lc) (D := M) (by have := HROW.out; rw [hi', List.take_length] at this; rw [hi']; exact this))
            have HBW := Lib.hid (Below.thn HB3.out HB3.out.size HBR.out)
            have HM3 := Lib.hid (And.intro hM1 (fun x hx => Nat.le_trans (HM2.out x hx) (show 1048576 ≤ 281474976710656 by decide)))
            clear hil hi' HROW
            go_wp2_with fail
            refine (BU.out _ M _ HST.out HM3.out.1 HM3.out.2).mono ?_
            rintro e w4 ⟨(⟨hE2, _⟩ | ⟨_, o1, o2, rfl, q1, q2⟩), hb4⟩
            · exact absurd HA.out.1 hE2
            rw [HA.out.2] at q1
            obtain ⟨oa, oc, hoa⟩ := q1.slice
            rw [nm_len, ← HNT.out] at hoa
            subst hoa
            obtain ⟨pa, pc, rfl⟩ := q2.slice
            have Q1 := Lib.hid q1
            have HB4 := Lib.hid (Below.thn HBW.out HBW.out.size hb4)
            clear hb4 q1 q2
            go_wp2_with fail
            refine (BE.out _ _ _ _ Q1.out (HT.out.keep HB4.out)).mono ?_
            rintro e w6 ⟨rfl, rfl⟩
            go_wp2_with fail
            refine (PB.out _ (HL.out.keep HB4.out) HF.out).mono ?_
            rintro e x2 ⟨hAA, hc2⟩
            have HC2 := Lib.hid (Below.thn HB4.out HB4.out.size hc2)
            clear hc2
            rcases hAA with ⟨hE5, rfl⟩ | ⟨hE5, b1, b2, rfl, k1, k2⟩
            · have hne5 : (bldE L == 0) = false := not_beq hE5
              have hne6 : (bldE L != 0) = true := by simp [bne, hne5]
              generalize bldE L = E5 at *
              go_wp2_with fail
              go_ret
              exact ⟨rfl, HC2.out⟩
            · obtain ⟨TT, U, hTT, hTTs, hTTn, hU, hTTc⟩ := own_tab hE5
              have hz := (bld_facts hE5).1
              rw [← hTT] at k1
              have hal := atI_len L (Nat.le_refl _)
              have K1 := Lib.hid k1
              obtain ⟨ya, yc, hya⟩ := k1.slice
              obtain ⟨Z, hZ⟩ : ∃ Z, (nmOf TT).length = Z := ⟨_, rfl⟩
              rw [hZ] at hya
              subst hya
              obtain ⟨za, zc, hza⟩ := k2.slice
              rw [hal] at hza
              subst hza
              have K2 := Lib.hid k2
              have HBK := Lib.hid (fun (i : Nat) (s : BA) (h : L[i]? = some s) => at_back hTT hTTn hU hTTc h (by rw [List.any_eq_false] at hz; simpa using hz s (List.mem_of_getElem? h)))
              have CK2 := Lib.hid (CK.out _ TT _ k1 hTTs)
              rw [hTTc] at CK2
              have HTTs := Lib.hid hTTs
              have HLW := Lib.hid (HL.out.keep HC2.out)
              clear k1 k2 hZ hTT hTTs hTTn hU hTTc hz hE5
              go_wp2_with fail
              refine CK2.out.mono ?_
              rintro e x3 ⟨rfl, hc3⟩
              have HC3 := Lib.hid (Below.thn HC2.out HC2.out.size hc3)
              have K1' := Lib.hid (K1.out.keep hc3)
              have K2' := Lib.hid (K2.out.keep hc3)
              clear hc3 K1 K2 CK2
              go_wp2_with fail
              go_loopw [80] (fun iv wr => ∃ i : Nat, i ≤ L.length ∧ iv = .int .i64 (i : Int) ∧ Hid (Below x3.heap.size x3 wr)) (fun iv _ => L.length - (intOf iv).toNat)
              case atStart => exact ⟨0, Nat.zero_le _, rfl, Lib.hid (Below.refl _ _)⟩
              case round =>
                obtain ⟨i, hi9, rfl, HR9⟩ := hrel
                have HCW := Lib.hid (Below.thn HC3.out HC3.out.size HR9.out)
                by_cases hlt : (i : Int) < (L.length : Int)
                · obtain ⟨g, off, cap, x, hx, hv, hg, x0⟩ := (HL.out.keep HCW.out).at (k := i) (by omega)
                  cases hv
                  obtain ⟨g2, off2, cap2, p, hp, hv2, hg2, z0⟩ := (K2'.out.keep HR9.out).at (k := i) (by omega)
                  rw [hal] at hv2
                  cases hv2
                  obtain ⟨h8, h9⟩ := HBK.out i x hx
                  obtain rfl : p = ((posOf (uniq (nms L)) (nmOf x) : Nat) : Int) := by rw [at_get hx] at hp; injection hp with e; exact e.symm
                  have A9 := Lib.hid (AT.out _ TT ((posOf (uniq (nms L)) (nmOf x) : Nat) : Int) _ (K1'.out.keep HR9.out) HTTs.out)
                  have F9 := Lib.hid (fun W (hb : Below wr.heap.size wr W) => FD.out _ TT x W ((K1'.out.keep HR9.out).keep hb) HTTs.out)
                  unfold AtP at A9
                  unfold FndP at F9
                  rw [h8] at A9
                  rw [h9] at F9
                  have w9 : IntKind.i64.wrap ((i : Int) + 1) = ((i + 1 : Nat) : Int) := by rw [IntWalk.i64_in _ (by omega)]; omega
                  have ip : (0 : Int) ≤ (i : Int) := by omega
                  generalize posOf (uniq (nms L)) (nmOf x) = P at *
                  clear hx hp h8 h9
                  go_wp2_with fail
                  refine A9.out.mono ?_
                  rintro e x4 ⟨rfl, hc4⟩
                  have HR4 := Lib.hid hc4
                  have z1 := (hc4.cell (p := ⟨g2, off2 + i, none⟩) hg2).trans z0
                  clear hc4
                  go_wp2_with fail
                  refine (F9.out _ HR4.out).mono ?_
                  rintro e x5 ⟨rfl, hc5⟩
                  have hx4 : g2 < x4.heap.size := Nat.lt_of_lt_of_le hg2 HR4.out.size
                  have HR5 := Lib.hid (Below.thn HR9.out HR9.out.size (Below.thn HR4.out HR4.out.size hc5))
                  have z2 := (hc5.cell (p := ⟨g2, off2 + i, none⟩) hx4).trans z1
                  clear hc5 z1 z0
                  go_wp2_with fail
                  first | exact ⟨⟨i + 1, by omega, by first | rfl | (push_cast; rfl), HR5⟩, by simp [intOf]; omega⟩ | (go_roundw; (case rel => exact ⟨i + 1, by omega, by first | rfl | rw [← w9], HR5⟩); (case measure => simp [intOf]; omega))
                · go_wp2_with fail
                  go_ret
                  exact ⟨rfl, HCW.out⟩
      · have hne : (chkE T == 0) = false := not_beq hE
        have hne2 : (chkE T != 0) = true := by simp [bne, hne]
        generalize chkE T = E at *
        go_wp2_with fail
        refine (PB.out _ (HL.out.keep HB2.out) HF.out).mono ?_
        rintro e x2 ⟨hAA, hc2⟩
        have HC2 := Lib.hid (Below.thn HB2.out HB2.out.size hc2)
        clear hc2
        rcases hAA with ⟨hE5, rfl⟩ | ⟨hE5, b1, b2, rfl, k1, k2⟩
        · have hne5 : (bldE L == 0) = false := not_beq hE5
          have hne6 : (bldE L != 0) = true := by simp [bne, hne5]
          generalize bldE L = E5 at *
          go_wp2_with fail
          go_ret
          exact ⟨rfl, HC2.out⟩
        · obtain ⟨TT, U, hTT, hTTs, hTTn, hU, hTTc⟩ := own_tab hE5
          have hz := (bld_facts hE5).1
          rw [← hTT] at k1
          have hal := atI_len L (Nat.le_refl _)
          have K1 := Lib.hid k1
          obtain ⟨ya, yc, hya⟩ := k1.slice
          obtain ⟨Z, hZ⟩ : ∃ Z, (nmOf TT).length = Z := ⟨_, rfl⟩
          rw [hZ] at hya
          subst hya
          obtain ⟨za, zc, hza⟩ := k2.slice
          rw [hal] at hza
          subst hza
          have K2 := Lib.hid k2
          have HBK := Lib.hid (fun (i : Nat) (s : BA) (h : L[i]? = some s) => at_back hTT hTTn hU hTTc h (by rw [List.any_eq_false] at hz; simpa using hz s (List.mem_of_getElem? h)))
          have CK2 := Lib.hid (CK.out _ TT _ k1 hTTs)
          rw [hTTc] at CK2
          have HTTs := Lib.hid hTTs
          have HLW := Lib.hid (HL.out.keep HC2.out)
          clear k1 k2 hZ hTT hTTs hTTn hU hTTc hz hE5
          go_wp2_with fail
          refine CK2.out.mono ?_
          rintro e x3 ⟨rfl, hc3⟩
          have HC3 := Lib.hid (Below.thn HC2.out HC2.out.size hc3)
          have K1' := Lib.hid (K1.out.keep hc3)
          have K2' := Lib.hid (K2.out.keep hc3)
          clear hc3 K1 K2 CK2
          go_wp2_with fail
          go_loopw [80] (fun iv wr => ∃ i : Nat, i ≤ L.length ∧ iv = .int .i64 (i : Int) ∧ Hid (Below x3.heap.size x3 wr)) (fun iv _ => L.length - (intOf iv).toNat)
          case atStart => exact ⟨0, Nat.zero_le _, rfl, Lib.hid (Below.refl _ _)⟩
          case round =>
            obtain ⟨i, hi9, rfl, HR9⟩ := hrel
            have HCW := Lib.hid (Below.thn HC3.out HC3.out.size HR9.out)
            by_cases hlt : (i : Int) < (L.length : Int)
            · obtain ⟨g, off, cap, x, hx, hv, hg, x0⟩ := (HL.out.keep HCW.out).at (k := i) (by omega)
              cases hv
              obtain ⟨g2, off2, cap2, p, hp, hv2, hg2, z0⟩ := (K2'.out.keep HR9.out).at (k := i) (by omega)
              rw [hal] at hv2
              cases hv2
              obtain ⟨h8, h9⟩ := HBK.out i x hx
              obtain rfl : p = ((posOf (uniq (nms L)) (nmOf x) : Nat) : Int) := by rw [at_get hx] at hp; injection hp with e; exact e.symm
              have A9 := Lib.hid (AT.out _ TT ((posOf (uniq (nms L)) (nmOf x) : Nat) : Int) _ (K1'.out.keep HR9.out) HTTs.out)
              have F9 := Lib.hid (fun W (hb : Below wr.heap.size wr W) => FD.out _ TT x W ((K1'.out.keep HR9.out).keep hb) HTTs.out)
              unfold AtP at A9
              unfold FndP at F9
              rw [h8] at A9
              rw [h9] at F9
              have w9 : IntKind.i64.wrap ((i : Int) + 1) = ((i + 1 : Nat) : Int) := by rw [IntWalk.i64_in _ (by omega)]; omega
              have ip : (0 : Int) ≤ (i : Int) := by omega
              generalize posOf (uniq (nms L)) (nmOf x) = P at *
              clear hx hp h8 h9
              go_wp2_with fail
              refine A9.out.mono ?_
              rintro e x4 ⟨rfl, hc4⟩
              have HR4 := Lib.hid hc4
              have z1 := (hc4.cell (p := ⟨g2, off2 + i, none⟩) hg2).trans z0
              clear hc4
              go_wp2_with fail
              refine (F9.out _ HR4.out).mono ?_
              rintro e x5 ⟨rfl, hc5⟩
              have hx4 : g2 < x4.heap.size := Nat.lt_of_lt_of_le hg2 HR4.out.size
              have HR5 := Lib.hid (Below.thn HR9.out HR9.out.size (Below.thn HR4.out HR4.out.size hc5))
              have z2 := (hc5.cell (p := ⟨g2, off2 + i, none⟩) hx4).trans z1
              clear hc5 z1 z0
              go_wp2_with fail
              first | exact ⟨⟨i + 1, by omega, by first | rfl | (push_cast; rfl), HR5⟩, by simp [intOf]; omega⟩ | (go_roundw; (case rel => exact ⟨i + 1, by omega, by first | rfl | rw [← w9], HR5⟩); (case measure => simp [intOf]; omega))
            · go_wp2_with fail
              go_ret
              exact ⟨rfl, HCW.out⟩
  · have hf' : fewB L = false := by simpa using hf
    rw [hf']
    go_wp2_with fail
    go_ret
    exact ⟨rfl, HB1.out⟩
end Go.Proofs.Ytbheeahdbimeiaa
