/-
  What each call of tooFar, and of the program's Offsets, Reaches and Fits, returns. Conditions: how the arguments lie.
-/
import Derived.Test.YtccmfhhdpdbabaaRlxF
import Derived.Deep.AppendLies
namespace Go.Proofs.Ytccmfhhdpdbabaa
open Go.RowKit
set_option linter.unusedVariables false
set_option linter.unusedSimpArgs false

/-- a branch that is not long and does not reach -/
def farP (L : List It) (B : List Bool) (i : Nat) : Bool := ((L.getD i default).k == 3) && (!(B.getD i false) && !(reachB L B (L.getD i default) i))
def farL (L : List It) (B : List Bool) (k : Nat) : List Nat := (List.range k).filter (farP L B)
theorem farL_succ (L : List It) (B : List Bool) (k : Nat) : farL L B (k + 1) = farL L B k ++ if farP L B k = true then [k] else [] := by
  unfold farL
  rw [List.range_succ, List.filter_append]
  congr 1
  by_cases h : farP L B k = true
  · rw [if_pos h]; simp [h]
  · rw [if_neg h]; simp [h]
theorem farL_len (L : List It) (B : List Bool) (k : Nat) : (farL L B k).length ≤ k := by
  unfold farL; exact Nat.le_trans (List.length_filter_le _ _) (by simp)
def natV (k : Nat) : Value := .int .i64 (k : Int)
theorem infoInt : (Try.prog.info? 3).map (fun i => (i.zero, i.size, i.bytes)) = some (some (.int .i64 0), 1, 8) := by kernel_rfl
theorem natV_one (l : List Nat) : ∀ u ∈ l.map natV, u.oneCell' = true := by
  intro u hu; obtain ⟨_, _, rfl⟩ := List.mem_map.1 hu; rfl
set_option maxRecDepth 100000 in
set_option maxHeartbeats 8000000 in
theorem tooFar_any (v b a : Value) (L : List It) (B : List Bool) (w : World) (hL : ItsO w v L) (hB : BosO w b B) (hA : NusO w a (offL L B)) (hlen : B.length = L.length) (hok : AllOk L) :
    Calls Try.prog 38 #[v, b, a] w fun e w' => (∃ v', e = .returned v' ∧ w'.ownsRow w.heap.size 3 1 v' (farL L B L.length).length ((farL L B L.length).map natV)) ∧ Below w.heap.size w w' := by
  obtain ⟨aa, ca, rfl⟩ := hL.slice
  obtain ⟨ab, cb, rfl⟩ := hB.slice
  obtain ⟨ac, cc, rfl⟩ := hA.slice
  rw [hlen] at hB ⊢
  rw [offL_len] at hA ⊢
  have hl6 := hok.1
  have HL := Lib.hid hL
  have HB := Lib.hid hB
  have HA := Lib.hid hA
  have HOK := Lib.hid hok
  have HLEN := Lib.hid hlen
  clear hL hB hA hok hlen
  obtain ⟨i0, hi, hz0', hz1, hz2⟩ := info_parts infoInt
  go_enter Try.func38, Try.ntmps38
  go_wp2_with fail
  go_loopw [12, 7] (fun iv fv wr => ∃ (k : Nat), k ≤ L.length ∧ iv = .int .i64 (k : Int) ∧ (∃ fa fc, fv = .slice fa (farL L B k).length fc) ∧ Hid (wr.ownsRow w.heap.size 3 1 fv (farL L B k).length ((farL L B k).map natV)) ∧ Hid (Below w.heap.size w wr)) (fun iv _ _ => L.length - (intOf iv).toNat)
  case atStart => exact ⟨0, Nat.zero_le _, rfl, ⟨none, 0, rfl⟩, Lib.hid (World.ownsRow_nil _ _ _ _), Lib.hid (Below.refl _ _)⟩
  case round =>
    obtain ⟨k, hk, rfl, ⟨fa, fc, rfl⟩, hrow, hbr⟩ := hrel
    by_cases hlt : (k : Int) < (L.length : Int)
    · have hlt' : k < L.length := by omega
      obtain ⟨g, off, cap, x, hx, hv, hg, x0, x1, x2, x3, x4, x5, x6⟩ := (HL.out.keep hbr.out).at hlt'
      obtain ⟨gb, offb, capb, bb, hbx, hvb, hgb, xb0⟩ := HB.out.at (k := k) (by rw [HLEN.out]; omega)
      have xb := (hbr.out.cell (p := ⟨gb, offb + k, none⟩) hgb).trans xb0
      cases hv
      rw [HLEN.out] at hvb
      cases hvb
      have eX : L.getD k default = x := by simp [List.getD, hx]
      have eB : B.getD k false = bb := by simp [List.getD, hbx]
      have hxo : okIt x (L.length : Int) = true := by have := getD_ok HOK.out hlt'; rwa [eX] at this
      have hP : farP L B k = ((x.k == 3) && (!bb && !(reachB L B x k))) := by unfold farP; rw [eX, eB]
      have hF := farL_succ L B k
      rw [hP] at hF
      have hfl := farL_len L B k
      have w9 : IntKind.i64.wrap ((k : Int) + 1) = ((k + 1 : Nat) : Int) := by rw [IntWalk.i64_in _ (by omega)]; omega
      have IB := Lib.hid (fun W => isBranch_any x W)
      have RE := Lib.hid (fun hk W (hb : Below w.heap.size w W) => reaches_any _ x L B k W (HA.out.keep hb) HOK.out hxo hk hlt')
      unfold itV at IB RE
      have S0' := it7_new wr x 44
      obtain ⟨c0, c1, c2, c3, c4, c5, c6⟩ := (show _ ∧ _ ∧ _ ∧ _ ∧ _ ∧ _ ∧ _ from S0')
      have hB0 := below1 wr (.cells #[.int .i64 x.k, .int .i64 x.s, .int .i64 x.a, .int .i64 x.t, .int .i64 x.d, .int .i64 x.lo, .int .i64 x.hi] 44)
      have xb' := cell_kept hB0 xb
      have HB0 := Lib.hid (Below.thn hbr.out hbr.out.size hB0)
      have HR0 := Lib.hid (own_keep hrow.out hB0)
      have hz0 : wr.heap.size < (wr.alloc (.cells #[.int .i64 x.k, .int .i64 x.s, .int .i64 x.a, .int .i64 x.t, .int .i64 x.d, .int .i64 x.lo, .int .i64 x.hi] 44)).heap.size := by simp
      have hgz : gb < (wr.alloc (.cells #[.int .i64 x.k, .int .i64 x.s, .int .i64 x.a, .int .i64 x.t, .int .i64 x.d, .int .i64 x.lo, .int .i64 x.hi] 44)).heap.size := by have := hbr.out.size; simp; omega
      have hWR := Lib.hid (show w.heap.size ≤ (wr.alloc (.cells #[.int .i64 x.k, .int .i64 x.s, .int .i64 x.a, .int .i64 x.t, .int .i64 x.d, .int .i64 x.lo, .int .i64 x.hi] 44)).heap.size from by have := hbr.out.size; simp; omega)
      generalize hW0 : wr.alloc (.cells #[.int .i64 x.k, .int .i64 x.s, .int .i64 x.a, .int .i64 x.t, .int .i64 x.d, .int .i64 x.lo, .int .i64 x.hi] 44) = W0 at *
      clear S0' hB0 xb xb0 hx hbx hxo eX eB
      by_cases hk3 : x.k = 3
      · have hk4 : (x.k == 3) = true := by simp [hk3]
        have RE := Lib.hid (RE.out hk3)
        rw [hk4] at IB hF
        generalize reachB L B x k = rb at *
        cases bb with
        | true =>
          have HF := Lib.hid (show farL L B (k + 1) = farL L B k by rw [hF]; simp)
          clear hF hP hk3 hk4
          go_wp2_with fail
          refine (IB.out _).mono ?_
          rintro e w1 ⟨rfl, hb1⟩
          have HB1 := Lib.hid (Below.thn HB0.out hWR.out hb1)
          have HR1 := Lib.hid (own_keep HR0.out hb1)
          have c0 := (bcell hb1).1 wr.heap.size 0 hz0 |>.trans c0
          have c1 := (bcell hb1).1 wr.heap.size 1 hz0 |>.trans c1
          have c2 := (bcell hb1).1 wr.heap.size 2 hz0 |>.trans c2
          have c3 := (bcell hb1).1 wr.heap.size 3 hz0 |>.trans c3
          have c4 := (bcell hb1).1 wr.heap.size 4 hz0 |>.trans c4
          have c5 := (bcell hb1).1 wr.heap.size 5 hz0 |>.trans c5
          have c6 := (bcell hb1).1 wr.heap.size 6 hz0 |>.trans c6
          have xb' := (bcell hb1).1 gb (offb + k) hgz |>.trans xb'
          have hz1' : w.heap.size ≤ w1.heap.size := HB1.out.size
          clear hb1
          go_wp2_with fail
          go_roundw
          case rel => exact ⟨k + 1, by omega, by first | rfl | rw [← w9], ⟨fa, fc, by rw [HF.out]⟩, Lib.hid (by rw [HF.out]; exact HR1.out), HB1⟩
          case measure => simp [intOf]; omega
        | false =>
          cases rb with
          | true =>
            have HF := Lib.hid (show farL L B (k + 1) = farL L B k by rw [hF]; simp)
            clear hF hP hk3 hk4
            go_wp2_with fail
            refine (IB.out _).mono ?_
            rintro e w1 ⟨rfl, hb1⟩
            have HB1 := Lib.hid (Below.thn HB0.out hWR.out hb1)
            have HR1 := Lib.hid (own_keep HR0.out hb1)
            have c0 := (bcell hb1).1 wr.heap.size 0 hz0 |>.trans c0
            have c1 := (bcell hb1).1 wr.heap.size 1 hz0 |>.trans c1
            have c2 := (bcell hb1).1 wr.heap.size 2 hz0 |>.trans c2
            have c3 := (bcell hb1).1 wr.heap.size 3 hz0 |>.trans c3
            have c4 := (bcell hb1).1 wr.heap.size 4 hz0 |>.trans c4
            have c5 := (bcell hb1).1 wr.heap.size 5 hz0 |>.trans c5
            have c6 := (bcell hb1).1 wr.heap.size 6 hz0 |>.trans c6
            have xb' := (bcell hb1).1 gb (offb + k) hgz |>.trans xb'
            have hz1' : w.heap.size ≤ w1.heap.size := HB1.out.size
            clear hb1
            go_wp2_with fail
            refine (RE.out _ HB1.out).mono ?_
            rintro e w2 ⟨rfl, hb2⟩
            have HB2 := Lib.hid (Below.thn HB1.out HB1.out.size hb2)
            have HR2 := Lib.hid (own_keep HR1.out hb2)
            clear hb2
            go_wp2_with fail
            go_roundw
            case rel => exact ⟨k + 1, by omega, by first | rfl | rw [← w9], ⟨fa, fc, by rw [HF.out]⟩, Lib.hid (by rw [HF.out]; exact HR2.out), HB2⟩
            case measure => simp [intOf]; omega
          | false =>
            have HF := Lib.hid (show farL L B (k + 1) = farL L B k ++ [k] by rw [hF]; simp)
            clear hF hP hk3 hk4
            go_wp2_with fail
            refine (IB.out _).mono ?_
            rintro e w1 ⟨rfl, hb1⟩
            have HB1 := Lib.hid (Below.thn HB0.out hWR.out hb1)
            have HR1 := Lib.hid (own_keep HR0.out hb1)
            have c0 := (bcell hb1).1 wr.heap.size 0 hz0 |>.trans c0
            have c1 := (bcell hb1).1 wr.heap.size 1 hz0 |>.trans c1
            have c2 := (bcell hb1).1 wr.heap.size 2 hz0 |>.trans c2
            have c3 := (bcell hb1).1 wr.heap.size 3 hz0 |>.trans c3
            have c4 := (bcell hb1).1 wr.heap.size 4 hz0 |>.trans c4
            have c5 := (bcell hb1).1 wr.heap.size 5 hz0 |>.trans c5
            have c6 := (bcell hb1).1 wr.heap.size 6 hz0 |>.trans c6
            have xb' := (bcell hb1).1 gb (offb + k) hgz |>.trans xb'
            have hz1' : w.heap.size ≤ w1.heap.size := HB1.out.size
            clear hb1
            go_wp2_with fail
            refine (RE.out _ HB1.out).mono ?_
            rintro e w2 ⟨rfl, hb2⟩
            have HB2 := Lib.hid (Below.thn HB1.out HB1.out.size hb2)
            have HR2 := Lib.hid (own_keep HR1.out hb2)
            have hz2' : w.heap.size ≤ w2.heap.size := HB2.out.size
            clear hb2
            generalize farL L B k = D at *
            go_wp2_with (at_builtin; go_loud (refine wpList_append_own _ rfl _ _ 57 rfl w.heap.size 3 i0 (.int .i64 0) 1 8 Try.underlying57 hi hz0' hz1 hz2 rfl (by decide) _ _ _ rfl (own_keep HR2.out (below1 w2 _)) ⟨w2.heap.size, 0, none⟩ 1 1 [.int .i64 (k : Int)] rfl rfl (fun j u hu => World.news_of_block (heap_alloc_new w2 _) j u hu) (by simp [Value.oneCell']) (by unfold maxLen; omega) (by omega) (by simp; omega) ?_; intro v' w3 hown3 hgrow3 _; obtain ⟨ub, uc, rfl⟩ := own_sliceN hown3))
            have HB3 := Lib.hid (show Below w.heap.size w w3 from (HB2.out.alloc HB2.out.size _).grown hgrow3 (by simp; omega) (fun q hq => (HR2.out.lt q hq).1))
            go_wp2_with fail
            go_roundw
            case rel => exact ⟨k + 1, by omega, by first | rfl | rw [← w9], ⟨ub, uc, by rw [HF.out, List.length_append]; rfl⟩, Lib.hid (by rw [HF.out, List.length_append, List.map_append]; exact hown3), HB3⟩
            case measure => simp [intOf]; omega
      · have hk4 : (x.k == 3) = false := by simp [hk3]
        rw [hk4] at IB hF
        have HF := Lib.hid (show farL L B (k + 1) = farL L B k by rw [hF]; simp)
        clear hF hP hk3 hk4 RE
        go_wp2_with fail
        refine (IB.out _).mono ?_
        rintro e w1 ⟨rfl, hb1⟩
        have HB1 := Lib.hid (Below.thn HB0.out hWR.out hb1)
        have HR1 := Lib.hid (own_keep HR0.out hb1)
        have c0 := (bcell hb1).1 wr.heap.size 0 hz0 |>.trans c0
        have c1 := (bcell hb1).1 wr.heap.size 1 hz0 |>.trans c1
        have c2 := (bcell hb1).1 wr.heap.size 2 hz0 |>.trans c2
        have c3 := (bcell hb1).1 wr.heap.size 3 hz0 |>.trans c3
        have c4 := (bcell hb1).1 wr.heap.size 4 hz0 |>.trans c4
        have c5 := (bcell hb1).1 wr.heap.size 5 hz0 |>.trans c5
        have c6 := (bcell hb1).1 wr.heap.size 6 hz0 |>.trans c6
        have xb' := (bcell hb1).1 gb (offb + k) hgz |>.trans xb'
        have hz1' : w.heap.size ≤ w1.heap.size := HB1.out.size
        clear hb1
        go_wp2_with fail
        go_roundw
        case rel => exact ⟨k + 1, by omega, by first | rfl | rw [← w9], ⟨fa, fc, by rw [HF.out]⟩, Lib.hid (by rw [HF.out]; exact HR1.out), HB1⟩
        case measure => simp [intOf]; omega
    · go_wp2_with fail
      go_ret
      have e : k = L.length := by omega
      subst e
      exact ⟨⟨_, rfl, hrow.out⟩, hbr.out⟩
end Go.Proofs.Ytccmfhhdpdbabaa
