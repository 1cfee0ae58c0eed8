/-
  What each call of the document's Offsets returns. Conditions: how the arguments lie.
-/
import Derived.Test.YtccmfhhdpdbabaaRlxH
import Derived.Deep.AppendLies
namespace Go.Proofs.Ytccmfhhdpdbabaa
open Go.RowKit
set_option linter.unusedVariables false
set_option linter.unusedSimpArgs false

/-- what the first k + 1 are -/
def offM (L : List It) (B : List Bool) (k : Nat) : List Value := (List.range (k + 1)).map fun i => .int .i64 (offAt L B i)
theorem offM_succ (L : List It) (B : List Bool) (k : Nat) : offM L B (k + 1) = offM L B k ++ [.int .i64 (offAt L B (k + 1))] := by
  unfold offM
  rw [List.range_succ, List.map_append]; rfl
theorem offM_all (L : List It) (B : List Bool) : offM L B L.length = (offL L B).map fun x => Value.int .i64 x := by
  unfold offM offL
  rw [List.map_map]; rfl
theorem rem_neg {a p : Int} (h0 : 0 ≤ a) (hp : 0 < p) : (p - a.tmod p).tmod p = (-a).emod p := by
  have h1 := Int.emod_nonneg a (show p ≠ 0 by omega)
  have h2 := Int.emod_lt_of_pos a hp
  rw [Int.tmod_eq_emod_of_nonneg h0, Int.tmod_eq_emod_of_nonneg (by omega)]
  have e : p - a % p = -a + p * (a / p + 1) := by have := Int.emod_add_mul_ediv a p; rw [Int.mul_add]; omega
  rw [e, Int.add_mul_emod_self_left]; rfl
set_option maxRecDepth 100000 in
set_option maxHeartbeats 8000000 in
theorem roffsetsE_any (v b : Value) (L : List It) (B : List Bool) (w : World) (hL : ItsO w v L) (hB : BosO w b B) :
    Calls Try.prog 11 #[v, b] w (OffP w L B) := by
  have CK := Lib.hid (fun W (hb : Below w.heap.size w W) => rcheck_any v L W (hL.keep hb))
  have HL := Lib.hid hL
  have HB := Lib.hid hB
  obtain ⟨aa, ca, rfl⟩ := hL.slice
  obtain ⟨ab, cb, rfl⟩ := hB.slice
  have hl1 := hL.len
  have hl2 := hB.len
  unfold maxLen at hl1 hl2
  clear hL hB
  by_cases hc : chkB L = 0
  · have hok := chk_ok hc
    rw [hc] at CK
    by_cases hl : B.length = L.length
    · have hE : offE L B = 0 := by unfold offE; rw [if_pos hc, if_pos hl]
      have HK := Lib.hid hok
      have HLE := Lib.hid hl
      have HEE := Lib.hid hE
      have hl6 := hok.1
      rw [hl] at HB ⊢
      clear hc hE hok hl
      obtain ⟨i0, hi, hz0', hz1, hz2⟩ := info_parts infoI64
      go_enter Try.func11, Try.ntmps11
      go_wp2_with fail
      refine (CK.out _ (Below.refl _ _)).mono ?_
      rintro e w1 ⟨rfl, hb1⟩
      have HB1 := Lib.hid hb1
      clear hb1
      go_wp2_with fail
      have hown0 : (w1.alloc (.cells #[.int .i64 0] 2)).ownsRow w.heap.size 2 1 (.slice (some ⟨w1.heap.size, 0, none⟩) 1 1) 1 [.int .i64 0] := World.ownsRow_lit w1 #[.int .i64 0] 1 HB1.out.size (by unfold maxLen; omega) rfl
      have HO0 := Lib.hid hown0
      have HBA := Lib.hid (HB1.out.alloc HB1.out.size (.cells #[.int .i64 0] 2))
      clear hown0
      go_loopw [9, 7, 8] (fun iv av ov wr => ∃ (k : Nat), k ≤ L.length ∧ iv = .int .i64 (k : Int) ∧ av = .int .i64 (offAt L B k) ∧ (∃ fa fc, ov = .slice fa (k + 1) fc) ∧ Hid (wr.ownsRow w.heap.size 2 1 ov (k + 1) (offM L B k)) ∧ Hid (Below w.heap.size w wr)) (fun iv _ _ _ => L.length - (intOf iv).toNat)
      case atStart => exact ⟨0, Nat.zero_le _, rfl, rfl, ⟨_, _, rfl⟩, HO0, HBA⟩
      case round =>
        obtain ⟨k, hk, rfl, rfl, ⟨fa, fc, rfl⟩, HROW, HBR⟩ := hrel
        clear HO0 HBA HB1 CK
        by_cases hlt : (k : Int) < (L.length : Int)
        · have hlt' : k < L.length := by omega
          obtain ⟨g, off, cap, x, hx, hv, hg, x0, x1, x2, x3, x4, x5, x6⟩ := (HL.out.keep HBR.out).at hlt'
          obtain ⟨gb, offb, capb, bb, hbx, hvb, hgb, xb0⟩ := HB.out.at (k := k) (by rw [HLE.out]; omega)
          have xb := (HBR.out.cell (p := ⟨gb, offb + k, none⟩) hgb).trans xb0
          cases hv
          rw [HLE.out] at hvb
          cases hvb
          have eX : L.getD k default = x := by simp [List.getD, hx]
          have eB : B.getD k false = bb := by simp [List.getD, hbx]
          have hA := offAt_bound B HK.out k hk
          have hxo : okIt x (L.length : Int) = true := by have := getD_ok HK.out hlt'; rwa [eX] at this
          have hE : offAt L B (k + 1) = offAt L B k + sizeB x (offAt L B k) bb := by
            show offAt L B k + sizeB (L.getD k default) (offAt L B k) (B.getD k false) = _
            rw [eX, eB]
          have hsb := size_bound hxo (offAt L B k) bb
          have w9 : IntKind.i64.wrap ((k : Int) + 1) = ((k + 1 : Nat) : Int) := by rw [IntWalk.i64_in _ (by omega)]; omega
          have hwz : w.heap.size ≤ wr.heap.size := HBR.out.size
          have w6 : IntKind.i64.wrap (offAt L B k + sizeB x (offAt L B k) bb) = offAt L B (k + 1) := by rw [hE]; exact IntWalk.i64_in _ (by omega)
          have hal := ok_align hxo
          have hkk : x.k = 1 ∨ x.k = 2 ∨ x.k = 3 := by
            unfold okIt at hxo
            by_cases k1 : x.k = 1
            · exact .inl k1
            · by_cases k2 : x.k = 2
              · exact .inr (.inl k2)
              · by_cases k3 : x.k = 3
                · exact .inr (.inr k3)
                · rw [if_neg k1, if_neg k2, if_neg k3] at hxo; cases hxo
          obtain ⟨A2, hA2⟩ : ∃ A2, offAt L B (k + 1) = A2 := ⟨_, rfl⟩
          have HA2 := Lib.hid hA2
          rw [hA2] at w6 hE
          generalize hA1 : offAt L B k = A1 at *
          clear hA2 eX eB hbx hx hxo xb0
          rcases hkk with h | h | h
          · have hs : sizeB x A1 bb = x.s := by unfold sizeB; rw [if_neg (by omega), if_neg (by omega)]
            rw [hs] at w6
            rw [h] at x0
            clear hE hA hsb hs h hal
            go_wp2_with (at_builtin; go_loud (refine wpList_append_own _ rfl _ _ 26 rfl w.heap.size 2 i0 (.int .i64 0) 1 8 Try.underlying26 hi hz0' hz1 hz2 rfl (by decide) _ _ _ rfl (own_keep HROW.out (below1 wr _)) ⟨wr.heap.size, 0, none⟩ 1 1 [.int .i64 A2] rfl rfl (fun j u hu => World.news_of_block (heap_alloc_new wr _) j u hu) (by simp [Value.oneCell']) (by unfold maxLen; omega) (by omega) (by simp; omega) ?_; intro v' w3 hown3 hgrow3 _; obtain ⟨ub, uc, rfl⟩ := own_sliceN hown3))
            have HB3 := Lib.hid (show Below w.heap.size w w3 from (HBR.out.alloc HBR.out.size _).grown hgrow3 (by simp; omega) (fun q hq => (HROW.out.lt q hq).1))
            go_wp2_with fail
            go_roundw
            case rel => exact ⟨k + 1, by omega, by first | rfl | rw [← w9], by first | rfl | rw [HA2.out], ⟨ub, uc, rfl⟩, Lib.hid (by rw [offM_succ, HA2.out]; exact hown3), HB3⟩
            case measure => simp [intOf]; omega
          · have hs : sizeB x A1 bb = (-A1).emod (powB x.a) := by unfold sizeB; rw [if_pos h]
            have hp := pow_le (hal h).1 (hal h).2
            have PW := Lib.hid (fun W => rpower_any x.a W (hal h).1 (hal h).2)
            have hr := rem_neg (a := A1) (p := powB x.a) hA.1 (by omega)
            have m0 : 0 ≤ A1.tmod (powB x.a) := Int.tmod_nonneg _ hA.1
            have m1 : A1.tmod (powB x.a) < powB x.a := Int.tmod_lt_of_pos _ (by omega)
            have w5 : IntKind.i64.wrap (powB x.a - A1.tmod (powB x.a)) = powB x.a - A1.tmod (powB x.a) := IntWalk.i64_in _ (by omega)
            have p0 : (powB x.a == 0) = false := by simp; omega
            have p1 : ¬ powB x.a = 0 := by omega
            rw [hs, ← hr] at w6
            rw [h] at x0
            generalize powB x.a = P at *
            clear hE hA hsb hs h hal hr m0 m1 hp
            go_wp2_with fail
            refine (PW.out _).mono ?_
            rintro e w2 ⟨rfl, rfl⟩
            go_wp2_with (at_builtin; go_loud (refine wpList_append_own _ rfl _ _ 26 rfl w.heap.size 2 i0 (.int .i64 0) 1 8 Try.underlying26 hi hz0' hz1 hz2 rfl (by decide) _ _ _ rfl (own_keep HROW.out (below1 wr _)) ⟨wr.heap.size, 0, none⟩ 1 1 [.int .i64 A2] rfl rfl (fun j u hu => World.news_of_block (heap_alloc_new wr _) j u hu) (by simp [Value.oneCell']) (by unfold maxLen; omega) (by omega) (by simp; omega) ?_; intro v' w3 hown3 hgrow3 _; obtain ⟨ub, uc, rfl⟩ := own_sliceN hown3))
            have HB3 := Lib.hid (show Below w.heap.size w w3 from (HBR.out.alloc HBR.out.size _).grown hgrow3 (by simp; omega) (fun q hq => (HROW.out.lt q hq).1))
            go_wp2_with fail
            go_roundw
            case rel => exact ⟨k + 1, by omega, by first | rfl | rw [← w9], by first | rfl | rw [HA2.out], ⟨ub, uc, rfl⟩, Lib.hid (by rw [offM_succ, HA2.out]; exact hown3), HB3⟩
            case measure => simp [intOf]; omega
          · have hs : sizeB x A1 bb = if bb = true then 8 else 4 := by unfold sizeB; rw [if_neg (by omega), if_pos h]
            have w4 : IntKind.i64.wrap (A1 + 4) = A1 + 4 := IntWalk.i64_in _ (by omega)
            have w8 : IntKind.i64.wrap (A1 + 4 + 4) = A1 + 8 := by rw [IntWalk.i64_in _ (by omega)]; omega
            rw [hs] at w6 hE
            rw [h] at x0
            cases bb with
            | true =>
              have hE8 : A1 + 8 = A2 := by rw [hE]; rfl
              rw [hE8] at w8
              clear hE hA hsb hs h hal w6 hE8
              go_wp2_with (at_builtin; go_loud (refine wpList_append_own _ rfl _ _ 26 rfl w.heap.size 2 i0 (.int .i64 0) 1 8 Try.underlying26 hi hz0' hz1 hz2 rfl (by decide) _ _ _ rfl (own_keep HROW.out (below1 wr _)) ⟨wr.heap.size, 0, none⟩ 1 1 [.int .i64 A2] rfl rfl (fun j u hu => World.news_of_block (heap_alloc_new wr _) j u hu) (by simp [Value.oneCell']) (by unfold maxLen; omega) (by omega) (by simp; omega) ?_; intro v' w3 hown3 hgrow3 _; obtain ⟨ub, uc, rfl⟩ := own_sliceN hown3))
              have HB3 := Lib.hid (show Below w.heap.size w w3 from (HBR.out.alloc HBR.out.size _).grown hgrow3 (by simp; omega) (fun q hq => (HROW.out.lt q hq).1))
              go_wp2_with fail
              go_roundw
              case rel => exact ⟨k + 1, by omega, by first | rfl | rw [← w9], by first | rfl | rw [HA2.out], ⟨ub, uc, rfl⟩, Lib.hid (by rw [offM_succ, HA2.out]; exact hown3), HB3⟩
              case measure => simp [intOf]; omega
            | false =>
              have hE4 : A1 + 4 = A2 := by rw [hE]; rfl
              replace w4 := w4.trans hE4
              clear hE hA hsb hs h hal w6 hE4 w8
              go_wp2_with (at_builtin; go_loud (refine wpList_append_own _ rfl _ _ 26 rfl w.heap.size 2 i0 (.int .i64 0) 1 8 Try.underlying26 hi hz0' hz1 hz2 rfl (by decide) _ _ _ rfl (own_keep HROW.out (below1 wr _)) ⟨wr.heap.size, 0, none⟩ 1 1 [.int .i64 A2] rfl rfl (fun j u hu => World.news_of_block (heap_alloc_new wr _) j u hu) (by simp [Value.oneCell']) (by unfold maxLen; omega) (by omega) (by simp; omega) ?_; intro v' w3 hown3 hgrow3 _; obtain ⟨ub, uc, rfl⟩ := own_sliceN hown3))
              have HB3 := Lib.hid (show Below w.heap.size w w3 from (HBR.out.alloc HBR.out.size _).grown hgrow3 (by simp; omega) (fun q hq => (HROW.out.lt q hq).1))
              go_wp2_with fail
              go_roundw
              case rel => exact ⟨k + 1, by omega, by first | rfl | rw [← w9], by first | rfl | rw [HA2.out], ⟨ub, uc, rfl⟩, Lib.hid (by rw [offM_succ, HA2.out]; exact hown3), HB3⟩
              case measure => simp [intOf]; omega
        · go_wp2_with fail
          go_ret2
          have e : k = L.length := by omega
          subst e
          have h1 := HROW.out
          rw [offM_all] at h1
          exact ⟨.inr ⟨HEE.out, HK.out, HLE.out, _, rfl, h1⟩, HBR.out⟩
    · have hE : offE L B = 1 := by unfold offE; rw [if_pos hc, if_neg hl]
      have hl' : ((B.length : Int) == (L.length : Int)) = false := by simp; omega
      have HEE := Lib.hid hE
      clear hc hE hok hl
      go_enter Try.func11, Try.ntmps11
      go_wp2_with fail
      refine (CK.out _ (Below.refl _ _)).mono ?_
      rintro e w1 ⟨rfl, hb1⟩
      have HB1 := Lib.hid hb1
      clear hb1
      go_wp2_with fail
      go_ret2
      exact ⟨.inl ⟨by rw [HEE.out]; decide, by rw [HEE.out]; rfl⟩, HB1.out⟩
  · have hE : offE L B = chkB L := by unfold offE; rw [if_neg hc]
    have hc' : (chkB L == 0) = false := not_beq hc
    have HEE := Lib.hid (And.intro hE hc)
    generalize chkB L = C at *
    clear hE hc
    go_enter Try.func11, Try.ntmps11
    go_wp2_with fail
    refine (CK.out _ (Below.refl _ _)).mono ?_
    rintro e w1 ⟨rfl, hb1⟩
    have HB1 := Lib.hid hb1
    clear hb1
    go_wp2_with fail
    go_ret2
    exact ⟨.inl ⟨by rw [HEE.out.1]; exact HEE.out.2, by rw [HEE.out.1]; rfl⟩, HB1.out⟩
end Go.Proofs.Ytccmfhhdpdbabaa
