/-
  What each call of the document's Build returns. Conditions: how the argument lies, and its size.
-/
import Derived.Test.YtbheeahdbimeiaaStbC
import Derived.OwnWalk
import Derived.WalkSmall
import Derived.Lib.AppendStr
namespace Go.Proofs.Ytbheeahdbimeiaa
open Go.RowKit
set_option linter.unusedVariables false
set_option linter.unusedSimpArgs false

theorem infoU8 : (Try.prog.info? 5).map (fun i => (i.zero, i.size, i.bytes)) = some (some (.int .u8 0), 1, 1) := by kernel_rfl
def byL (l : List Int) : List Value := l.map fun b => Value.int .u8 b
def inL (l : List Int) : List Value := l.map fun b => Value.int .i64 b
theorem str_cells (s : BA) : Lib.strCells s = byL (nmOf s) := by simp [Lib.strCells, byL, nmOf, Function.comp_def]
/-- rows of unlike types lie apart -/
theorem rows_apart {W : World} {B : Nat} {t1 t2 : TypeId} (ht : t1 ≠ t2) {v u : Value} {n m : Nat} {xs ys : List Value} (h1 : W.ownsRow B t1 1 v n xs) (h2 : W.ownsRow B t2 1 u m ys) : v.ownBlock = none ∨ v.ownBlock ≠ u.ownBlock := by
  rcases h1.2 with ⟨rfl, _⟩ | ⟨g, cap, cur, rfl, _, hg, _⟩
  · exact .inl rfl
  · right
    rcases h2.2 with ⟨rfl, _⟩ | ⟨g', cap', cur', rfl, _, hg', _⟩
    · intro e; cases e
    · intro e
      have : g = g' := by injection e
      subst this
      rw [hg] at hg'
      injection hg' with e1
      injection e1 with e2 e3
      exact ht e3
def BldP (w : World) (L : List BA) (e : Ending) (w' : World) : Prop :=
  ((bldE L ≠ 0 ∧ e = .returned (.tuple #[.slice none 0 0, .slice none 0 0, .int .i64 (bldE L)])) ∨
   (bldE L = 0 ∧ ∃ v1 v2, e = .returned (.tuple #[v1, v2, .int .i64 0]) ∧ w'.ownsRow w.heap.size 5 1 v1 (outI L L.length).length (byL (outI L L.length)) ∧ w'.ownsRow w.heap.size 3 1 v2 L.length (inL (atI L L.length)))) ∧ Below w.heap.size w w'
theorem bld_zero {L : List BA} {k : Nat} {y : BA} (hy : L[k]? = some y) (hz : zeroB y = true) : bldE L = 6 := by
  unfold bldE; rw [if_pos (List.any_eq_true.2 ⟨y, List.mem_of_getElem? hy, hz⟩)]
theorem bld_long {L : List BA} {i : Nat} (hn : L.any zeroB = false) (hi : i ≤ L.length) (h : 1048576 < (outI L i).length) : bldE L = 3 := by
  unfold bldE; rw [if_neg (by rw [hn]; decide), if_pos (Nat.lt_of_lt_of_le h (out_mono hi))]
theorem bld_ok {L : List BA} (hn : L.any zeroB = false) (h : (outI L L.length).length ≤ 1048576) : bldE L = 0 := by
  unfold bldE; rw [if_neg (by rw [hn]; decide), if_neg (by omega)]
set_option maxRecDepth 100000 in
set_option maxHeartbeats 1000000 in
theorem rbuild_any (v : Value) (L : List BA) (w : World) (hL : StrO w v L) (hll : L.length ≤ 1048576) (hsz : ∀ i, i < L.length → (outI L i).length + (L.getD i default).size + 1 ≤ 140737488355328) (hs2 : ∀ x ∈ L, x.size ≤ 4611686018427387904) :
    Calls Try.prog 11 #[v] w (BldP w L) := by
  have HL := Lib.hid hL
  have HSZ := Lib.hid hsz
  have ZR := Lib.hid (fun (x : BA) W (hx : x ∈ L) => rzero_any x W (hs2 x hx))
  have FI := Lib.hid (fun (i : Nat) W (hb : Below w.heap.size w W) (hi : i < L.length) => rfirst_any v L i W (RowsO.keep hL hb) hi)
  obtain ⟨aa, ca, rfl⟩ := hL.slice
  obtain ⟨i0, hi, hz0', hz1, hz2⟩ := info_parts infoInt
  obtain ⟨j0, ji, jz0, jz1, jz2⟩ := info_parts infoU8
  clear hL hsz hs2
  go_enter Try.func11, Try.ntmps11
  go_wp2_with fail
  go_loopw [5] (fun iv wr => ∃ (k : Nat), k ≤ L.length ∧ iv = .int .i64 (k : Int) ∧ Hid ((L.take k).any zeroB = false) ∧ wr = w) (fun iv _ => L.length - (intOf iv).toNat)
  case atStart => exact ⟨0, Nat.zero_le _, rfl, Lib.hid rfl, rfl⟩
  case round =>
    obtain ⟨k, hk, rfl, HN, hw⟩ := hrel
    subst wr
    by_cases hlt : (k : Int) < (L.length : Int)
    · obtain ⟨g, off, cap, y, hy, hv, hg, y0⟩ := HL.out.at (k := k) (by omega)
      cases hv
      have w9 : IntKind.i64.wrap ((k : Int) + 1) = ((k + 1 : Nat) : Int) := by rw [IntWalk.i64_in _ (by omega)]; omega
      have kp : (0 : Int) ≤ (k : Int) := by omega
      have HY := Lib.hid hy
      have ZY := Lib.hid (fun W => ZR.out y W (List.mem_of_getElem? hy))
      clear hy
      cases hz : zeroB y
      · rw [hz] at ZY
        have HN2 := Lib.hid (show (L.take (k + 1)).any zeroB = false by
          obtain ⟨h1, h2⟩ := List.getElem?_eq_some_iff.1 HY.out
          rw [List.take_succ_eq_append_getElem h1, List.any_append, HN.out, h2]
          simp [hz])
        clear hz
        go_wp2_with fail
        refine (ZY.out _).mono ?_
        rintro e w1 ⟨rfl, rfl⟩
        go_wp2_with fail
        go_roundw
        case rel => exact ⟨k + 1, by omega, by first | rfl | rw [← w9], HN2, by first | rfl | trivial⟩
        case measure => simp [intOf]; omega
      · rw [hz] at ZY
        have HE := Lib.hid (bld_zero HY.out hz)
        clear hz
        go_wp2_with fail
        refine (ZY.out _).mono ?_
        rintro e w1 ⟨rfl, rfl⟩
        go_wp2_with fail
        go_returns
        exact ⟨.inl ⟨by rw [HE.out]; decide, by rw [HE.out]; rfl⟩, Below.refl _ _⟩
    · have ek : k = L.length := by omega
      subst ek
      have HNZ := Lib.hid (show L.any zeroB = false by have := HN.out; rwa [List.take_length] at this)
      clear HN ZR hk hlt
      go_wp2_with fail
      have hown0 : (w.alloc (.cells #[.int .u8 0] 5)).ownsRow w.heap.size 5 1 (.slice (some ⟨w.heap.size, 0, none⟩) 1 1) 1 [.int .u8 0] := World.ownsRow_lit w #[.int .u8 0] 1 (Nat.le_refl _) (by unfold maxLen; omega) rfl
      have HO0 := Lib.hid hown0
      have HA0 : Hid ((w.alloc (.cells #[.int .u8 0] 5)).ownsRow w.heap.size 3 1 (.slice none 0 0) 0 []) := Lib.hid (World.ownsRow_nil _ _ _ _)
      have HB0 := Lib.hid (below1 w (.cells #[.int .u8 0] 5))
      clear hown0
      go_loopw [6, 7, 8] (fun ov av iv wr => ∃ (i : Nat) (oa : Option Addr) (oc : Nat) (xa : Option Addr) (xc : Nat), i ≤ L.length ∧ ov = .slice oa (outI L i).length oc ∧ av = .slice xa i xc ∧ iv = .int .i64 (i : Int) ∧ Hid (wr.ownsRow w.heap.size 5 1 (.slice oa (outI L i).length oc) (outI L i).length (byL (outI L i))) ∧ Hid (wr.ownsRow w.heap.size 3 1 (.slice xa i xc) i (inL (atI L i))) ∧ Hid ((outI L i).length ≤ 1048576) ∧ Hid (Below w.heap.size w wr)) (fun ov av iv _ => L.length - (intOf iv).toNat)
      case atStart => exact ⟨0, _, _, _, _, Nat.zero_le _, rfl, rfl, rfl, HO0, HA0, Lib.hid (show 1 ≤ 1048576 by decide), HB0⟩
      case round =>
        obtain ⟨i, oa, oc, xa, xc, hil, rfl, rfl, rfl, HO, HA, HS, HB⟩ := hrel
        clear HO0 HA0 HB0
        by_cases hlt : (i : Int) < (L.length : Int)
        · have hlt' : i < L.length := by omega
          obtain ⟨g, off, cap, x, hx, hv, hg, x0⟩ := HL.out.at hlt'
          cases hv
          have hX : L.getD i default = x := by simp [List.getD, hx]
          have HSX := Lib.hid (show (outI L i).length + x.size + 1 ≤ 140737488355328 by have := HSZ.out i hlt'; rwa [hX] at this)
          have w9 : IntKind.i64.wrap ((i : Int) + 1) = ((i + 1 : Nat) : Int) := by rw [IntWalk.i64_in _ (by omega)]; omega
          have ip : (0 : Int) ≤ (i : Int) := by omega
          have hfl := firstI_le L i
          have HXW := Lib.hid (And.intro hg x0)
          have FIi := Lib.hid (FI.out i _ HB.out hlt')
          have hso : (outI L i).length ≤ 1048576 := HS.out
          have hsn : decide ((1048576 : Int) < ((outI L i).length : Int)) = false := decide_eq_false (by omega)
          clear hso
          have HLL := Lib.hid hll
          have HQ := Lib.hid (And.intro (show i + 1 ≤ maxLen by unfold maxLen; omega) (show (i + 1) * 8 ≤ 140737488355328 by omega))
          clear hll
          clear hx hg x0
          by_cases he : x = ⟨#[]⟩
          · have hst := step_empty hlt' (hX.trans he)
            subst he
            have HST := Lib.hid hst
            generalize firstI L i = f at *
            clear hst
            go_wp2_with fail
            refine FIi.out.mono ?_
            rintro e w1 ⟨rfl, hb⟩
            have HO1 := Lib.hid (own_keep HO.out hb)
            have HA1 := Lib.hid (own_keep HA.out hb)
            have HB1 := Lib.hid (Below.thn HB.out HB.out.size hb)
            have xw := (HB1.out.cell (p := ⟨g, off + i, none⟩) HXW.out.1).trans HXW.out.2
            have hzw : w.heap.size ≤ w1.heap.size := HB1.out.size
            clear hb
            go_wp2_with (at_builtin; (refine wpList_append_own _ rfl _ _ 26 rfl w.heap.size 3 i0 (.int .i64 0) 1 8 Try.underlying26 hi hz0' hz1 hz2 rfl (by decide) _ _ _ rfl (own_keep HA1.out (below1 w1 _)) ⟨w1.heap.size, 0, none⟩ 1 1 [.int .i64 (0)] rfl rfl (fun j u hu => World.news_of_block (heap_alloc_new w1 _) j u hu) (by simp [Value.oneCell']) HQ.out.1 HQ.out.2 (by simp; omega) ?_; intro v' w3 hown3 hgrow3 _; obtain ⟨ub, uc, rfl⟩ := own_sliceN hown3))
            have HAX := Lib.hid hown3
            have HOX := Lib.hid (World.ownsRow.kept (own_keep HO1.out (below1 w1 (.cells #[.int .i64 0] 3))) hgrow3 (rows_apart (by decide) (own_keep HO1.out (below1 w1 (.cells #[.int .i64 0] 3))) (own_keep HA1.out (below1 w1 (.cells #[.int .i64 0] 3)))))
            have HB3 := Lib.hid (show Below w.heap.size w w3 from (HB1.out.alloc HB1.out.size (.cells #[.int .i64 0] 3)).grown hgrow3 (by simp; omega) (fun q hq => (HA1.out.lt q hq).1))
            clear hown3 hgrow3
            go_roundw
            case rel => exact ⟨i + 1, oa, oc, ub, uc, by omega, by rw [HST.out.1], rfl, by first | rfl | rw [← w9], Lib.hid (by rw [HST.out.1]; exact HOX.out), Lib.hid (by rw [HST.out.2]; unfold inL; rw [List.map_append]; exact HAX.out), Lib.hid (by rw [HST.out.1]; exact HS.out), HB3⟩
            case measure => simp [intOf]; omega
          · have hx1 := ba_ne he
            have hx2 : (ByteArray.toList x).isEmpty = false := by
              cases hc : ByteArray.toList x with
              | nil => exact absurd (ba_ext (by rw [ByteArray.toList_eq] at hc; exact hc)) he
              | cons c r => rfl
            have hne : L.getD i default ≠ ⟨#[]⟩ := by rw [hX]; exact he
            by_cases hf : firstI L i < i
            · have HST := Lib.hid (step_old hlt' hne hf)
              have HAL := Lib.hid (atI_len L hil)
              generalize firstI L i = f at *
              have hfi : (f : Int) < (i : Int) := by omega
              have fp : (0 : Int) ≤ (f : Int) := by omega
              have HF := Lib.hid hf
              clear hne hX he hf
              go_wp2_with fail
              refine FIi.out.mono ?_
              rintro e w1 ⟨rfl, hb⟩
              have HO1 := Lib.hid (own_keep HO.out hb)
              have HA1 := Lib.hid (own_keep HA.out hb)
              have HB1 := Lib.hid (Below.thn HB.out HB.out.size hb)
              have xw := (HB1.out.cell (p := ⟨g, off + i, none⟩) HXW.out.1).trans HXW.out.2
              have hzw : w.heap.size ≤ w1.heap.size := HB1.out.size
              have hnu : NusO w1 (.slice xa i xc) (atI L i) := nus_of_own HAL.out.symm HA1.out
              obtain ⟨g', off', cap', z, hz, hv', hg', z0⟩ := hnu.at (k := f) (by rw [HAL.out]; exact HF.out)
              rw [HAL.out] at hv'
              cases hv'
              have HZ := Lib.hid hz
              clear hb hnu hz
              go_wp2_with (at_builtin; (refine wpList_append_own _ rfl _ _ 26 rfl w.heap.size 3 i0 (.int .i64 0) 1 8 Try.underlying26 hi hz0' hz1 hz2 rfl (by decide) _ _ _ rfl (own_keep HA1.out (below1 w1 _)) ⟨w1.heap.size, 0, none⟩ 1 1 [.int .i64 z] rfl rfl (fun j u hu => World.news_of_block (heap_alloc_new w1 _) j u hu) (by simp [Value.oneCell']) HQ.out.1 HQ.out.2 (by simp; omega) ?_; intro v' w3 hown3 hgrow3 _; obtain ⟨ub, uc, rfl⟩ := own_sliceN hown3))
              have HAX := Lib.hid hown3
              have HOX := Lib.hid (World.ownsRow.kept (own_keep HO1.out (below1 w1 (.cells #[.int .i64 z] 3))) hgrow3 (rows_apart (by decide) (own_keep HO1.out (below1 w1 (.cells #[.int .i64 z] 3))) (own_keep HA1.out (below1 w1 (.cells #[.int .i64 z] 3)))))
              have HB3 := Lib.hid (show Below w.heap.size w w3 from (HB1.out.alloc HB1.out.size (.cells #[.int .i64 z] 3)).grown hgrow3 (by simp; omega) (fun q hq => (HA1.out.lt q hq).1))
              clear hown3 hgrow3
              go_roundw
              case rel => exact ⟨i + 1, oa, oc, ub, uc, by omega, by rw [HST.out.1], rfl, by first | rfl | rw [← w9], Lib.hid (by rw [HST.out.1]; exact HOX.out), Lib.hid (by rw [HST.out.2, show (atI L i).getD f 0 = z by simp [List.getD, HZ.out]]; unfold inL; rw [List.map_append]; exact HAX.out), Lib.hid (by rw [HST.out.1]; exact HS.out), HB3⟩
              case measure => simp [intOf]; omega
            · have HST := Lib.hid (step_new hlt' hne hf)
              have HLN := Lib.hid (show (outI L (i + 1)).length = (outI L i).length + x.size + 1 by rw [HST.out.1, hX, List.length_append, List.length_append, nm_len]; rfl)
              rw [hX] at HST
              have hfi : ¬ (firstI L i : Int) < (i : Int) := by omega
              have HSQ := Lib.hid (show (outI L i).length + x.size ≤ maxLen ∧ (outI L i).length + x.size ≤ 140737488355328 ∧ (outI L i).length + x.size + 1 ≤ maxLen ∧ ((outI L i).length + x.size + 1) * 1 ≤ 140737488355328 by have := HSX.out; unfold maxLen; omega)
              by_cases hb9 : (1048576 : Int) < ((outI L i).length : Int) + (x.size : Int) + 1
              · have HE3 := Lib.hid (bld_long HNZ.out (show i + 1 ≤ L.length by omega) (by rw [HLN.out]; omega))
                generalize firstI L i = f at *
                clear hne hX he hf
                have hbig : decide ((1048576 : Int) < ((outI L i).length : Int) + (x.size : Int) + 1) = true := decide_eq_true hb9
                clear hb9
                go_wp2_with fail
                refine FIi.out.mono ?_
                rintro e w1 ⟨rfl, hb⟩
                have HO1 := Lib.hid (own_keep HO.out hb)
                have HA1 := Lib.hid (own_keep HA.out hb)
                have HB1 := Lib.hid (Below.thn HB.out HB.out.size hb)
                have xw := (HB1.out.cell (p := ⟨g, off + i, none⟩) HXW.out.1).trans HXW.out.2
                have hzw : w.heap.size ≤ w1.heap.size := HB1.out.size
                clear hb
                go_wp2_with (first | (at_builtin; (refine wpList_append_own _ rfl _ _ 26 rfl w.heap.size 3 i0 (.int .i64 0) 1 8 Try.underlying26 hi hz0' hz1 hz2 rfl (by decide) _ _ _ rfl (own_keep HA1.out (below1 w1 (.cells #[.int .i64 ((outI L i).length : Int)] 3))) ⟨w1.heap.size, 0, none⟩ 1 1 [.int .i64 ((outI L i).length : Int)] rfl rfl (fun j u hu => World.news_of_block (heap_alloc_new w1 _) j u hu) (by simp [Value.oneCell']) HQ.out.1 HQ.out.2 (by simp; omega) ?_; intro v' w3 hown3 hgrow3 _; obtain ⟨ub, uc, rfl⟩ := own_sliceN hown3; have HAX := Lib.hid hown3; have HOX := Lib.hid (World.ownsRow.kept (own_keep HO1.out (below1 w1 (.cells #[.int .i64 ((outI L i).length : Int)] 3))) hgrow3 (rows_apart (by decide) (own_keep HO1.out (below1 w1 (.cells #[.int .i64 ((outI L i).length : Int)] 3))) (own_keep HA1.out (below1 w1 (.cells #[.int .i64 ((outI L i).length : Int)] 3))))); have HB3 := Lib.hid (show Below w.heap.size w w3 from (HB1.out.alloc HB1.out.size (.cells #[.int .i64 ((outI L i).length : Int)] 3)).grown hgrow3 (by simp; omega) (fun q hq => (HA1.out.lt q hq).1)); have hz3 : w.heap.size ≤ w3.heap.size := HB3.out.size; have xw3 := (HB3.out.cell (p := ⟨g, off + i, none⟩) HXW.out.1).trans HXW.out.2; clear hown3 hgrow3)) | (at_builtin; (refine Lib.wpList_append_own_string _ rfl _ _ 25 9 rfl w.heap.size 5 j0 Try.underlying25 Try.underlying9 ji jz0 jz1 jz2 _ _ _ rfl HOX.out x rfl HSQ.out.1 HSQ.out.2.1 hz3 ?_; intro v4 w4 hown4 hgrow4 _; obtain ⟨ob, ocb, rfl⟩ := own_sliceN hown4; have HO4 := Lib.hid hown4; have HA4 := Lib.hid (World.ownsRow.kept HAX.out hgrow4 (rows_apart (by decide) HAX.out HOX.out)); have HB4 := Lib.hid (show Below w.heap.size w w4 from HB3.out.grown hgrow4 hz3 (fun q hq => (HOX.out.lt q hq).1)); have hz4 : w.heap.size ≤ w4.heap.size := HB4.out.size; clear hown4 hgrow4)) | (at_builtin; (refine wpList_append_own _ rfl _ _ 25 rfl w.heap.size 5 j0 (.int .u8 0) 1 1 Try.underlying25 ji jz0 jz1 jz2 rfl (by decide) _ _ _ rfl (own_keep HO4.out (below1 w4 (.cells #[.int .u8 0] 5))) ⟨w4.heap.size, 0, none⟩ 1 1 [.int .u8 0] rfl rfl (fun j u hu => World.news_of_block (heap_alloc_new w4 _) j u hu) (by simp [Value.oneCell']) HSQ.out.2.2.1 HSQ.out.2.2.2 (by simp; omega) ?_; intro v5 w5 hown5 hgrow5 _; obtain ⟨pb, pc, rfl⟩ := own_sliceN hown5; have HO5 := Lib.hid hown5; have HA5 := Lib.hid (World.ownsRow.kept (own_keep HA4.out (below1 w4 (.cells #[.int .u8 0] 5))) hgrow5 (rows_apart (by decide) (own_keep HA4.out (below1 w4 (.cells #[.int .u8 0] 5))) (own_keep HO4.out (below1 w4 (.cells #[.int .u8 0] 5))))); have HB5 := Lib.hid (show Below w.heap.size w w5 from (HB4.out.alloc HB4.out.size (.cells #[.int .u8 0] 5)).grown hgrow5 (by simp; omega) (fun q hq => (HO4.out.lt q hq).1)); clear hown5 hgrow5)))
                go_returns
                exact ⟨.inl ⟨by rw [HE3.out]; decide, by rw [HE3.out]; rfl⟩, HB5.out⟩
              · have HLE := Lib.hid (show (outI L i).length + x.size + 1 ≤ 1048576 by omega)
                generalize firstI L i = f at *
                clear hne hX he hf
                have hbig : decide ((1048576 : Int) < ((outI L i).length : Int) + (x.size : Int) + 1) = false := decide_eq_false hb9
                clear hb9
                go_wp2_with fail
                refine FIi.out.mono ?_
                rintro e w1 ⟨rfl, hb⟩
                have HO1 := Lib.hid (own_keep HO.out hb)
                have HA1 := Lib.hid (own_keep HA.out hb)
                have HB1 := Lib.hid (Below.thn HB.out HB.out.size hb)
                have xw := (HB1.out.cell (p := ⟨g, off + i, none⟩) HXW.out.1).trans HXW.out.2
                have hzw : w.heap.size ≤ w1.heap.size := HB1.out.size
                clear hb
                go_wp2_with (first | (at_builtin; (refine wpList_append_own _ rfl _ _ 26 rfl w.heap.size 3 i0 (.int .i64 0) 1 8 Try.underlying26 hi hz0' hz1 hz2 rfl (by decide) _ _ _ rfl (own_keep HA1.out (below1 w1 (.cells #[.int .i64 ((outI L i).length : Int)] 3))) ⟨w1.heap.size, 0, none⟩ 1 1 [.int .i64 ((outI L i).length : Int)] rfl rfl (fun j u hu => World.news_of_block (heap_alloc_new w1 _) j u hu) (by simp [Value.oneCell']) HQ.out.1 HQ.out.2 (by simp; omega) ?_; intro v' w3 hown3 hgrow3 _; obtain ⟨ub, uc, rfl⟩ := own_sliceN hown3; have HAX := Lib.hid hown3; have HOX := Lib.hid (World.ownsRow.kept (own_keep HO1.out (below1 w1 (.cells #[.int .i64 ((outI L i).length : Int)] 3))) hgrow3 (rows_apart (by decide) (own_keep HO1.out (below1 w1 (.cells #[.int .i64 ((outI L i).length : Int)] 3))) (own_keep HA1.out (below1 w1 (.cells #[.int .i64 ((outI L i).length : Int)] 3))))); have HB3 := Lib.hid (show Below w.heap.size w w3 from (HB1.out.alloc HB1.out.size (.cells #[.int .i64 ((outI L i).length : Int)] 3)).grown hgrow3 (by simp; omega) (fun q hq => (HA1.out.lt q hq).1)); have hz3 : w.heap.size ≤ w3.heap.size := HB3.out.size; have xw3 := (HB3.out.cell (p := ⟨g, off + i, none⟩) HXW.out.1).trans HXW.out.2; clear hown3 hgrow3)) | (at_builtin; (refine Lib.wpList_append_own_string _ rfl _ _ 25 9 rfl w.heap.size 5 j0 Try.underlying25 Try.underlying9 ji jz0 jz1 jz2 _ _ _ rfl HOX.out x rfl HSQ.out.1 HSQ.out.2.1 hz3 ?_; intro v4 w4 hown4 hgrow4 _; obtain ⟨ob, ocb, rfl⟩ := own_sliceN hown4; have HO4 := Lib.hid hown4; have HA4 := Lib.hid (World.ownsRow.kept HAX.out hgrow4 (rows_apart (by decide) HAX.out HOX.out)); have HB4 := Lib.hid (show Below w.heap.size w w4 from HB3.out.grown hgrow4 hz3 (fun q hq => (HOX.out.lt q hq).1)); have hz4 : w.heap.size ≤ w4.heap.size := HB4.out.size; clear hown4 hgrow4)) | (at_builtin; (refine wpList_append_own _ rfl _ _ 25 rfl w.heap.size 5 j0 (.int .u8 0) 1 1 Try.underlying25 ji jz0 jz1 jz2 rfl (by decide) _ _ _ rfl (own_keep HO4.out (below1 w4 (.cells #[.int .u8 0] 5))) ⟨w4.heap.size, 0, none⟩ 1 1 [.int .u8 0] rfl rfl (fun j u hu => World.news_of_block (heap_alloc_new w4 _) j u hu) (by simp [Value.oneCell']) HSQ.out.2.2.1 HSQ.out.2.2.2 (by simp; omega) ?_; intro v5 w5 hown5 hgrow5 _; obtain ⟨pb, pc, rfl⟩ := own_sliceN hown5; have HO5 := Lib.hid hown5; have HA5 := Lib.hid (World.ownsRow.kept (own_keep HA4.out (below1 w4 (.cells #[.int .u8 0] 5))) hgrow5 (rows_apart (by decide) (own_keep HA4.out (below1 w4 (.cells #[.int .u8 0] 5))) (own_keep HO4.out (below1 w4 (.cells #[.int .u8 0] 5))))); have HB5 := Lib.hid (show Below w.heap.size w w5 from (HB4.out.alloc HB4.out.size (.cells #[.int .u8 0] 5)).grown hgrow5 (by simp; omega) (fun q hq => (HO4.out.lt q hq).1)); clear hown5 hgrow5)))
                go_roundw
                case rel => exact ⟨i + 1, pb, pc, ub, uc, by omega, by rw [HLN.out], rfl, by first | rfl | rw [← w9], Lib.hid (by rw [HLN.out, HST.out.1]; unfold byL; rw [List.map_append, List.map_append]; have := HO5.out; rw [str_cells] at this; exact this), Lib.hid (by rw [HST.out.2]; unfold inL; rw [List.map_append]; exact HA5.out), Lib.hid (by rw [HLN.out]; exact HLE.out), HB5⟩
                case measure => simp [intOf]; omega
        · have ei : i = L.length := by omega
          subst ei
          have HE := Lib.hid (bld_ok HNZ.out HS.out)
          go_wp2_with fail
          go_returns
          exact ⟨.inr ⟨HE.out, _, _, rfl, HO.out, HA.out⟩, HB.out⟩
end Go.Proofs.Ytbheeahdbimeiaa
