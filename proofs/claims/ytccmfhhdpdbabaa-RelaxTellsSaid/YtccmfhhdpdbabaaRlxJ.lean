/-
  What each call of the document's Reaches, Round and Fits returns. Conditions: how the arguments lie.
-/
import Derived.Test.YtccmfhhdpdbabaaRlxI
namespace Go.Proofs.Ytccmfhhdpdbabaa
open Go.RowKit
set_option linter.unusedVariables false
set_option linter.unusedSimpArgs false

set_option maxHeartbeats 2000000 in
theorem rreachesE_any (v b : Value) (L : List It) (B : List Bool) (n : Int) (w : World) (hL : ItsO w v L) (hB : BosO w b B) :
    Calls Try.prog 16 #[v, b, .int .i64 n] w fun e w' => e = .returned (.bool (reachesB L B n)) ∧ Below w.heap.size w w' := by
  have OF := Lib.hid (roffsetsE_any v b L B w hL hB)
  have HL := Lib.hid hL
  obtain ⟨aa, ca, rfl⟩ := hL.slice
  obtain ⟨ab, cb, rfl⟩ := hB.slice
  have hl1 := hL.len
  unfold maxLen at hl1
  clear hL hB
  go_enter Try.func16, Try.ntmps16
  go_wp2_with fail
  refine OF.out.mono ?_
  rintro e w1 ⟨⟨hE, rfl⟩ | ⟨hE, hok, hlen, v', rfl, hown⟩, hb⟩
  · have HR := Lib.hid (show reachesB L B n = false by unfold reachesB; rw [decide_eq_false hE, Bool.false_and])
    have hE' := not_beq hE
    have HB1 := Lib.hid hb
    generalize offE L B = C at *
    clear hb OF hE
    go_wp2_with fail
    go_ret
    exact ⟨ret1b HR.out.symm, HB1.out⟩
  · have HB1 := Lib.hid hb
    obtain ⟨oa, oc, rfl⟩ := own_sliceN hown
    have HA := Lib.hid (nus_of_own (offL_len L B).symm hown)
    have HK := Lib.hid hok
    have hR : reachesB L B n = (decide (0 ≤ n) && (decide (n < (L.length : Int)) && (((L.getD n.toNat default).k == 3) && reachB L B (L.getD n.toNat default) n.toNat))) := by unfold reachesB; rw [decide_eq_true hE, Bool.true_and]
    clear hb OF hown hE hlen hok
    by_cases h0 : 0 ≤ n
    · by_cases h1 : n < (L.length : Int)
      · obtain ⟨k, rfl⟩ : ∃ k : Nat, n = (k : Int) := ⟨n.toNat, by omega⟩
        have hk : k < L.length := by omega
        obtain ⟨g, off, cap, x, hx, hv, hg, x0, x1, x2, x3, x4, x5, x6⟩ := (HL.out.keep HB1.out).at hk
        cases hv
        have eX : L.getD k default = x := by simp [List.getD, hx]
        rw [decide_eq_true h0, decide_eq_true h1, Bool.true_and, Bool.true_and, Int.toNat_natCast, eX] at hR
        have hxo : okIt x (L.length : Int) = true := by have := getD_ok HK.out hk; rwa [eX] at this
        have RE := Lib.hid (fun hk' W (hb : Below w1.heap.size w1 W) => rreaches_any _ x L B k W (HA.out.keep hb) HK.out hxo hk' hk)
        unfold itV at RE
        clear hx eX hxo
        by_cases hk3 : x.k = 3
        · have hk4 : (x.k == 3) = true := by simp [hk3]
          have RE := Lib.hid (RE.out hk3)
          rw [hk4, Bool.true_and] at hR
          have HR := Lib.hid hR
          clear hR hk3
          generalize reachB L B x k = rb at *
          go_wp2_with fail
          refine (RE.out _ (Below.refl _ _)).mono ?_
          rintro e w3 ⟨rfl, hb3⟩
          have HB4 := Lib.hid (Below.thn HB1.out HB1.out.size hb3)
          clear hb3
          go_wp2_with fail
          go_ret
          exact ⟨ret1b HR.out.symm, HB4.out⟩
        · have hk4 : (x.k == 3) = false := by simp [hk3]
          rw [hk4, Bool.false_and] at hR
          have HR := Lib.hid hR
          clear hR hk3 RE
          go_wp2_with fail
          go_ret
          exact ⟨ret1b HR.out.symm, HB1.out⟩
      · have HR := Lib.hid (show reachesB L B n = false by rw [hR, decide_eq_false h1, Bool.false_and, Bool.and_false])
        clear hR
        go_wp2_with fail
        go_ret
        exact ⟨ret1b HR.out.symm, HB1.out⟩
    · have HR := Lib.hid (show reachesB L B n = false by rw [hR, decide_eq_false h0, Bool.false_and])
      clear hR
      go_wp2_with fail
      go_ret
      exact ⟨ret1b HR.out.symm, HB1.out⟩
/-- whether the i-th is long behind a round -/
def rndB (L : List It) (B : List Bool) (i : Nat) : Bool := ((L.getD i default).k == 3) && (B.getD i false || farP L B i)
def rndL (L : List It) (B : List Bool) : List Bool := (List.range L.length).map (rndB L B)
def rndK (L : List It) (B : List Bool) (k : Nat) : List Value := (List.range L.length).map fun i => .bool (if i < k then rndB L B i else false)
theorem rndK_len (L : List It) (B : List Bool) (k : Nat) : (rndK L B k).length = L.length := by simp [rndK]
theorem rndK_zero (L : List It) (B : List Bool) : List.replicate L.length (Value.bool false) = rndK L B 0 := by
  refine List.ext_getElem (by simp [rndK]) fun i h1 h2 => ?_
  simp [rndK]
theorem rndK_set (L : List It) (B : List Bool) {k : Nat} (hk : k < L.length) : (rndK L B k).set k (.bool (rndB L B k)) = rndK L B (k + 1) := by
  refine List.ext_getElem (by simp [rndK]) fun i h1 h2 => ?_
  rw [List.getElem_set]
  simp only [rndK, List.getElem_map, List.getElem_range]
  by_cases hi : k = i
  · subst hi; rw [if_pos rfl, if_pos (by omega)]
  · rw [if_neg hi]
    by_cases h : i < k
    · rw [if_pos h, if_pos (by omega)]
    · rw [if_neg h, if_neg (by omega)]
theorem rndK_same (L : List It) (B : List Bool) {k : Nat} (h0 : rndB L B k = false) : rndK L B k = rndK L B (k + 1) := by
  refine List.ext_getElem (by simp [rndK]) fun i h1 h2 => ?_
  simp only [rndK, List.getElem_map, List.getElem_range]
  by_cases hi : i < k
  · rw [if_pos hi, if_pos (by omega)]
  · by_cases h : i = k
    · subst h; rw [if_neg hi, if_pos (by omega), h0]
    · rw [if_neg hi, if_neg (by omega)]
theorem rndK_all (L : List It) (B : List Bool) : rndK L B L.length = (rndL L B).map fun x => Value.bool x := by
  unfold rndK rndL
  rw [List.map_map]
  refine List.map_congr_left fun i hi => ?_
  have := List.mem_range.1 hi
  show Value.bool _ = Value.bool _
  rw [if_pos (by omega)]
theorem rndL_len (L : List It) (B : List Bool) : (rndL L B).length = L.length := by simp [rndL]
theorem infoBool : (Try.prog.info? 4).map (fun i => (i.zero, i.size, i.bytes)) = some (some (.bool false), 1, 1) := by kernel_rfl
theorem madeBool (n : Nat) : (madeCells (Value.cells (.bool false)) (n * 1)).toList = List.replicate n (Value.bool false) := by
  rw [Nat.mul_one]; exact toList_madeCells_one (.bool false) n
def RndP (w : World) (L : List It) (B : List Bool) (e : Ending) (w' : World) : Prop :=
  ((offE L B ≠ 0 ∧ e = .returned (.tuple #[.slice none 0 0, .int .i64 0, .int .i64 (offE L B)])) ∨ (offE L B = 0 ∧ AllOk L ∧ B.length = L.length ∧ ∃ v', e = .returned (.tuple #[v', .int .i64 ((farL L B L.length).length : Int), .int .i64 0]) ∧ w'.ownsRow w.heap.size 4 1 v' L.length ((rndL L B).map fun x => Value.bool x))) ∧ Below w.heap.size w w'
set_option maxRecDepth 100000 in
set_option maxHeartbeats 8000000 in
theorem rround_any (v b : Value) (L : List It) (B : List Bool) (w : World) (hL : ItsO w v L) (hB : BosO w b B) :
    Calls Try.prog 20 #[v, b] w (RndP w L B) := by
  have OF := Lib.hid (roffsetsE_any v b L B w hL hB)
  have HL := Lib.hid hL
  have HB := Lib.hid hB
  obtain ⟨aa, ca, rfl⟩ := hL.slice
  obtain ⟨ab, cb, rfl⟩ := hB.slice
  clear hL hB
  obtain ⟨i0, hi, hz0', hz1, hz2⟩ := info_parts infoBool
  go_enter Try.func20, Try.ntmps20
  go_wp2_with fail
  refine OF.out.mono ?_
  rintro e w1 ⟨⟨hE, rfl⟩ | ⟨hE, hok, hlen, v', rfl, hown⟩, hb⟩
  · have hE' := not_beq hE
    have HE := Lib.hid hE
    have HB1 := Lib.hid hb
    generalize hC : offE L B = C at *
    have HC := Lib.hid hC
    clear hb OF hE hC
    go_wp2_with fail
    go_ret3
    exact ⟨.inl ⟨by rw [HC.out]; exact HE.out, by rw [HC.out]; rfl⟩, HB1.out⟩
  · have HB1 := Lib.hid hb
    obtain ⟨oa, oc, rfl⟩ := own_sliceN hown
    have HA := Lib.hid (nus_of_own (offL_len L B).symm hown)
    have HK := Lib.hid hok
    have HLE := Lib.hid hlen
    have HEE := Lib.hid hE
    have hl6 := hok.1
    have hw1z : w.heap.size ≤ w1.heap.size := hb.size
    rw [hlen] at HB ⊢
    clear hb OF hown hE hlen hok
    go_wp2_with (at_make; refine wpList_make_full _ rfl _ _ 23 rfl w1.heap.size 4 i0 (.bool false) 1 Try.underlying23 hi hz0' hz1 _ _ _ _ L.length rfl rfl rfl rfl (by rw [hz2]; omega) (by unfold maxLen; omega) (Nat.le_refl _) ?_; intro w2 hown2 hgrow2)
    rw [madeBool, rndK_zero L B] at hown2
    have hB2 : Below w1.heap.size w1 w2 := (Below.refl _ w1).grown hgrow2 (Nat.le_refl _) (fun k hk => by cases hk)
    have HB2 := Lib.hid hB2
    have hgz : L.length ≠ 0 ∨ L.length = 0 := by omega
    have HO2 := Lib.hid hown2
    clear hgrow2 hB2 hown2 hgz
    go_wp2_with fail
    go_loopw [11, 10] (fun iv nv wr => ∃ (k : Nat), k ≤ L.length ∧ iv = .int .i64 (k : Int) ∧ nv = .int .i64 ((farL L B k).length : Int) ∧ Hid (wr.ownsRow w1.heap.size 4 1 (.slice (some ⟨w1.heap.size, 0, none⟩) L.length L.length) L.length (rndK L B k)) ∧ Hid (Below w1.heap.size w1 wr)) (fun iv _ _ => L.length - (intOf iv).toNat)
    case atStart => exact ⟨0, Nat.zero_le _, rfl, rfl, HO2, HB2⟩
    case round =>
      obtain ⟨k, hk, rfl, rfl, HROW, HBR⟩ := hrel
      clear HO2 HB2
      by_cases hlt : (k : Int) < (L.length : Int)
      · have hlt' : k < L.length := by omega
        obtain ⟨g, off, cap, x, hx, hv, hg, y0, y1, y2, y3, y4, y5, y6⟩ := (HL.out.keep HB1.out).at hlt'
        have x0 := (HBR.out.cell (p := ⟨g, _, none⟩) hg).trans y0
        have x1 := (HBR.out.cell (p := ⟨g, _, none⟩) hg).trans y1
        have x2 := (HBR.out.cell (p := ⟨g, _, none⟩) hg).trans y2
        have x3 := (HBR.out.cell (p := ⟨g, _, none⟩) hg).trans y3
        have x4 := (HBR.out.cell (p := ⟨g, _, none⟩) hg).trans y4
        have x5 := (HBR.out.cell (p := ⟨g, _, none⟩) hg).trans y5
        have x6 := (HBR.out.cell (p := ⟨g, _, none⟩) hg).trans y6
        have ng : w1.heap.size ≠ g := by omega
        clear y0 y1 y2 y3 y4 y5 y6
        obtain ⟨gb, offb, capb, bb, hbx, hvb, hgb, xb0⟩ := (HB.out.keep HB1.out).at (k := k) (by rw [HLE.out]; omega)
        have xb := (HBR.out.cell (p := ⟨gb, offb + k, none⟩) hgb).trans xb0
        have ngb : w1.heap.size ≠ gb := by omega
        cases hv
        rw [HLE.out] at hvb
        cases hvb
        have eX : L.getD k default = x := by simp [List.getD, hx]
        have eB : B.getD k false = bb := by simp [List.getD, hbx]
        have hxo : okIt x (L.length : Int) = true := by have := getD_ok HK.out hlt'; rwa [eX] at this
        have hP : farP L B k = ((x.k == 3) && (!bb && !(reachB L B x k))) := by unfold farP; rw [eX, eB]
        have hR : rndB L B k = ((x.k == 3) && (bb || farP L B k)) := by unfold rndB; rw [eX, eB]
        have hF := farL_succ L B k
        rw [hP] at hF hR
        have hfl := farL_len L B k
        have w9 : IntKind.i64.wrap ((k : Int) + 1) = ((k + 1 : Nat) : Int) := by rw [IntWalk.i64_in _ (by omega)]; omega
        have w7 : IntKind.i64.wrap (((farL L B k).length : Int) + 1) = (((farL L B k).length + 1 : Nat) : Int) := by rw [IntWalk.i64_in _ (by omega)]; omega
        have q0 : (0 : Int) ≤ (k : Int) := by omega
        have hwz := HROW.out.lt _ rfl
        have hck : ∃ u, wr.cell? ⟨w1.heap.size, k, none⟩ = some u := ⟨_, by rw [HROW.out.cellAt k (by omega)]; exact List.getElem?_eq_getElem (by rw [rndK_len]; omega)⟩
        obtain ⟨u, hu⟩ := hck
        have hfz := HROW.out.frozenAt k
        have RE := Lib.hid (fun hk' W (hb : Below w1.heap.size w1 W) => rreaches_any _ x L B k W (HA.out.keep hb) HK.out hxo hk' hlt')
        unfold itV at RE
        clear hx eX eB hbx hxo xb0
        by_cases hk3 : x.k = 3
        · have hk4 : (x.k == 3) = true := by simp [hk3]
          have RE := Lib.hid (RE.out hk3)
          rw [hk4, Bool.true_and] at hR
          rw [hk4, Bool.true_and] at hF
          generalize hrb : reachB L B x k = rb at *
          have HROW1 := (HROW.out.stored k (.bool bb)).1
          have HBR1 := Lib.hid (HBR.out.setCell (p := ⟨w1.heap.size, k, none⟩) (Nat.le_refl _) (.bool bb))
          cases bb with
          | true =>
            have HF := Lib.hid (show farL L B (k + 1) = farL L B k by rw [hF]; simp)
            have HS := rndK_set L B hlt'
            rw [show rndB L B k = true by rw [hR]; rfl] at HS
            rw [HS] at HROW1
            have HRN := Lib.hid HROW1
            clear hF hR hP hk3 HS HROW1 RE hrb
            go_wp2_with fail
            go_roundw
            case rel => exact ⟨k + 1, by omega, by first | rfl | rw [← w9], by rw [HF.out], HRN, HBR1⟩
            case measure => simp [intOf]; omega
          | false =>
            have HRN1 := Lib.hid HROW1
            have hwz2 : w1.heap.size ≤ (wr.setCell ⟨w1.heap.size, k, none⟩ (.bool false)).heap.size := HBR1.out.size
            cases rb with
            | true =>
              have HF := Lib.hid (show farL L B (k + 1) = farL L B k by rw [hF]; simp)
              have HS := rndK_set L B hlt'
              rw [show rndB L B k = false by rw [hR]; rfl] at HS
              have HSS := Lib.hid HS
              clear hF hR hP hk3 HS HROW1 hrb
              go_wp2_with fail
              refine (RE.out _ HBR1.out).mono ?_
              rintro e w3 ⟨rfl, hb3⟩
              have HB3 := Lib.hid (Below.thn HBR1.out HBR1.out.size hb3)
              have HR3 := Lib.hid (own_keep HRN1.out hb3)
              clear hb3
              go_wp2_with fail
              go_roundw
              case rel => exact ⟨k + 1, by omega, by first | rfl | rw [← w9], by rw [HF.out], Lib.hid (by rw [← HSS.out]; exact HR3.out), HB3⟩
              case measure => simp [intOf]; omega
            | false =>
              have HF := Lib.hid (show farL L B (k + 1) = farL L B k ++ [k] by rw [hF]; simp)
              have HS := rndK_set L B hlt'
              rw [show rndB L B k = true by rw [hR]; rfl] at HS
              have HSS := Lib.hid HS
              clear hF hR hP hk3 HS HROW1 hrb
              go_wp2_with fail
              refine (RE.out _ HBR1.out).mono ?_
              rintro e w3 ⟨rfl, hb3⟩
              have HB3 := Lib.hid (Below.thn HBR1.out HBR1.out.size hb3)
              have hr3 := own_keep HRN1.out hb3
              obtain ⟨u3, hu3⟩ : ∃ u, w3.cell? ⟨w1.heap.size, k, none⟩ = some u := ⟨_, by rw [hr3.cellAt k (by omega)]; exact List.getElem?_eq_getElem (by rw [List.length_set, rndK_len]; omega)⟩
              have hfz3 := hr3.frozenAt k
              have st := (hr3.stored k (.bool true)).1
              rw [List.set_set, HSS.out] at st
              have HRN := Lib.hid st
              have HB4 := Lib.hid (HB3.out.setCell (p := ⟨w1.heap.size, k, none⟩) (Nat.le_refl _) (.bool true))
              clear hb3 hr3 st
              go_wp2_with fail
              go_roundw
              case rel => exact ⟨k + 1, by omega, by first | rfl | rw [← w9], by rw [HF.out, List.length_append]; first | rfl | rw [← w7], HRN, HB4⟩
              case measure => simp [intOf]; omega
        · have hk4 : (x.k == 3) = false := by simp [hk3]
          rw [hk4, Bool.false_and] at hR hF
          have HF := Lib.hid (show farL L B (k + 1) = farL L B k by rw [hF]; simp)
          have HS := Lib.hid (rndK_same L B hR)
          clear hF hR hP hk3 RE
          go_wp2_with fail
          go_roundw
          case rel => exact ⟨k + 1, by omega, by first | rfl | rw [← w9], by rw [HF.out], Lib.hid (by rw [← HS.out]; exact HROW.out), HBR⟩
          case measure => simp [intOf]; omega
      · go_wp2_with fail
        go_ret3
        have e : k = L.length := by omega
        subst e
        have h1 := HROW.out
        rw [rndK_all] at h1
        exact ⟨.inr ⟨HEE.out, HK.out, HLE.out, _, rfl, ownsRow_less' h1 hw1z⟩, Below.thn HB1.out hw1z HBR.out⟩
end Go.Proofs.Ytccmfhhdpdbabaa
