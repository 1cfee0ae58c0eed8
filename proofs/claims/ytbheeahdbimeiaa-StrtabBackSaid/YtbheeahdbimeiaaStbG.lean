/-
  What each call of the document's Check returns. Conditions: how the argument lies, and its size.
-/
import Derived.Test.YtbheeahdbimeiaaStbF
namespace Go.Proofs.Ytbheeahdbimeiaa
open Go.RowKit
set_option linter.unusedVariables false
set_option linter.unusedSimpArgs false

theorem infoStr : (Try.prog.info? 9).map (fun i => (i.zero, i.size, i.bytes)) = some (some (.string ⟨#[]⟩), 1, 16) := by kernel_rfl
/-- the document's Build, of names that are few and short enough -/
theorem rbuild_few (v : Value) (L : List BA) (w : World) (hL : StrO w v L) (hll : L.length ≤ 1048576) (h1 : ∀ x ∈ L, x.size ≤ 1048576) (h2 : (outI L L.length).length ≤ 2097152) :
    Calls Try.prog 11 #[v] w (BldP w L) :=
  rbuild_any v L w hL hll (fun i hi => by
    have e1 := out_mono (L := L) (i := i) (j := L.length) (by omega)
    have e2 := h1 (L.getD i default) (by simp only [List.getD, List.getElem?_eq_getElem hi, Option.getD_some]; exact List.getElem_mem hi)
    omega) (fun x hx => by have := h1 x hx; omega)
theorem chk_eq (T : BA) (h : T.size ≤ 1048576) : chkE T = if strOfNums (outI (namesB T) (namesB T).length) = T then 0 else 190 := by
  unfold chkE
  rw [if_neg (by omega), namesB_out]
  have hby : ∀ b ∈ tabOf (uniq (namesT (nmOf T))), 0 ≤ b ∧ b ≤ 255 := by
    intro b hb
    unfold tabOf at hb
    rcases List.mem_cons.1 hb with rfl | hb
    · omega
    · obtain ⟨s, hs, hb⟩ := List.mem_flatMap.1 hb
      rcases List.mem_append.1 hb with hb | hb
      · have := (uniq_mem.1 hs).2
        rw [← nms_namesB] at this
        obtain ⟨x, _, rfl⟩ := List.mem_map.1 this
        exact nm_byte x b hb
      · rw [List.mem_singleton] at hb; subst hb; omega
  by_cases e : tabOf (uniq (namesT (nmOf T))) = nmOf T
  · rw [if_pos e, e, str_nm, if_pos rfl]
  · rw [if_neg e, if_neg (fun h => e ((nm_str hby).symm.trans (congrArg nmOf h)))]
set_option maxRecDepth 100000 in
set_option maxHeartbeats 4000000 in
theorem rcheck_any (v : Value) (T : BA) (w : World) (ht : BysO w v (nmOf T)) (hl : T.size ≤ 1048576) :
    Calls Try.prog 19 #[v] w fun e w' => e = .returned (.int .i64 (chkE T)) ∧ Below w.heap.size w w' := by
  have HT := Lib.hid ht
  have RR := Lib.hid (rrows_any v (nmOf T) w ht (by rw [nm_len]; exact hl))
  have RB := Lib.hid (fun v W h => rbuild_few v (namesB T) W h (namesB_sizes T hl).2 (namesB_sizes T hl).1 (by have := namesB_outlen T hl; omega))
  have HE := Lib.hid (chk_eq T hl)
  have HZ := Lib.hid (bld_ok (namesB_zero T) (namesB_outlen T hl))
  have HS := Lib.hid (namesB_sizes T hl)
  have HNB := Lib.hid (show namesB T = (rowsS (nmOf T)).map (·.2) from rfl)
  obtain ⟨aa, ca, rfl⟩ := ht.slice
  have hsl : decide ((1048576 : Int) < ((nmOf T).length : Int)) = false := decide_eq_false (by rw [nm_len]; omega)
  obtain ⟨i0, hi, hz0', hz1, hz2⟩ := info_parts infoStr
  generalize chkE T = E at *
  generalize namesB T = NB at *
  clear ht hl
  go_enter Try.func19, Try.ntmps19
  go_wp2_with fail
  refine (RR.out).mono ?_
  rintro e w1 ⟨⟨v1, rfl, hown⟩, hb1⟩
  have HR := Lib.hid hown
  obtain ⟨ra, rc, rfl⟩ := own_sliceN hown
  have HB1 := Lib.hid hb1
  have hnl : NB.length = (rowsS (nmOf T)).length := by rw [HNB.out, List.length_map]
  have hrl : (rowsS (nmOf T)).length ≤ 1048576 := by have := HS.out.2; omega
  generalize hRR : rowsS (nmOf T) = R at *
  clear hown hb1
  go_wp2_with fail
  go_loopw [3, 5] (fun lv iv wr => ∃ (i : Nat), i ≤ R.length ∧ iv = .int .i64 (i : Int) ∧ (∃ a c, lv = .slice a i c) ∧ Hid (wr.ownsRow w1.heap.size 9 1 lv i ((NB.take i).map Value.string)) ∧ Hid (Below w1.heap.size w1 wr)) (fun lv iv _ => R.length - (intOf iv).toNat)
  case atStart => exact ⟨0, by omega, rfl, ⟨_, _, rfl⟩, Lib.hid (World.ownsRow_nil _ _ _ _), Lib.hid (Below.refl _ _)⟩
  case round =>
    obtain ⟨i, hil, rfl, ⟨la, lc, rfl⟩, HROW, HBR⟩ := hrel
    by_cases hlt : (i : Int) < (R.length : Int)
    · obtain ⟨g, cap, x, hx, hv, hg, x0, x1⟩ := rows2_at (own_keep HR.out HBR.out) (k := i) (by omega)
      cases hv
      have w9 : IntKind.i64.wrap ((i : Int) + 1) = ((i + 1 : Nat) : Int) := by rw [IntWalk.i64_in _ (by omega)]; omega
      have ip : (0 : Int) ≤ (i : Int) := by omega
      have HX := Lib.hid (show NB.take (i + 1) = NB.take i ++ [x.2] by
        have h2 : NB[i]? = some x.2 := by rw [HNB.out, List.getElem?_map, hx]; rfl
        rw [List.take_add_one, h2]; rfl)
      have HQ := Lib.hid (And.intro (show i + 1 ≤ maxLen by unfold maxLen; omega) (show (i + 1) * 16 ≤ 140737488355328 by omega))
      have hz : w1.heap.size ≤ wr.heap.size := HBR.out.size
      obtain ⟨xp, xs⟩ := x
      simp only at x0 x1 HX
      clear hx hRR
      go_wp2_with (at_builtin; (refine wpList_append_own _ rfl _ _ 22 rfl w1.heap.size 9 i0 (.string ⟨#[]⟩) 1 16 Try.underlying22 hi hz0' hz1 hz2 rfl (by decide) _ _ _ rfl (own_keep HROW.out (below1 wr _)) ⟨wr.heap.size, 0, none⟩ 1 1 [.string xs] rfl rfl (fun j u hu => World.news_of_block (heap_alloc_new wr _) j u hu) (by simp [Value.oneCell']) HQ.out.1 HQ.out.2 (by simp; omega) ?_; intro v' w3 hown3 hgrow3 _; obtain ⟨ub, uc, rfl⟩ := own_sliceN hown3))
      have HROW3 := Lib.hid hown3
      have HB3 := Lib.hid (show Below w1.heap.size w1 w3 from (HBR.out.alloc HBR.out.size _).grown hgrow3 (by simp; omega) (fun q hq => (HROW.out.lt q hq).1))
      clear hown3 hgrow3
      go_wp2_with fail
      go_roundw
      case rel => exact ⟨i + 1, by omega, by first | rfl | rw [← w9], ⟨_, _, rfl⟩, Lib.hid (by rw [HX.out, List.map_append]; exact HROW3.out), HB3⟩
      case measure => simp [intOf]; omega
    · have hi' : i = NB.length := by omega
      have HST := Lib.hid (str_of_own (W := wr) (base := w1.heap.size) (v := .slice la i lc) (D := NB) (by have := HROW.out; rw [hi', List.take_length] at this; rw [hi']; exact this))
      have HBW := Lib.hid (HB1.out.trans (HBR.out.mono HB1.out.size))
      clear hil hi' hnl hrl hRR HROW
      go_wp2_with fail
      refine (RB.out _ _ HST.out).mono ?_
      rintro e w2 ⟨(⟨hb, _⟩ | ⟨_, v1, v2, rfl, h1, h2⟩), hb2⟩
      · exact absurd HZ.out hb
      have hc1 := conv_any (bys_of_own rfl h1)
      have hc2 := conv_any (HT.out.keep (Below.thn HBW.out HBW.out.size hb2))
      rw [str_nm] at hc2
      have HB2 := Lib.hid (Below.thn HBW.out HBW.out.size hb2)
      obtain ⟨ya, yc, rfl⟩ := own_sliceN h1
      have HE2 := Lib.hid HE.out
      clear hb2 h1 h2
      generalize strOfNums (outI NB NB.length) = O at *
      by_cases ho : O = T
      · have HE3 := Lib.hid (show E = 0 by rw [HE2.out, if_pos ho])
        subst ho
        go_wp2_with fail
        go_ret
        exact ⟨ret1 HE3.out.symm, HB2.out⟩
      · have HE3 := Lib.hid (show E = 190 by rw [HE2.out, if_neg ho])
        have hne := ba_ne ho
        have hne2 : (ByteArray.toList O != ByteArray.toList T) = true := by simp only [bne, hne]; rfl
        clear ho
        go_wp2_with fail
        go_ret
        exact ⟨ret1 HE3.out.symm, HB2.out⟩
end Go.Proofs.Ytbheeahdbimeiaa
