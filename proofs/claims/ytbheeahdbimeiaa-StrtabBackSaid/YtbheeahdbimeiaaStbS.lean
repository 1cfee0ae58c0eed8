/-
  What each call of the program's Build returns. Conditions: how the argument lies, and its size.
-/
import Derived.Test.YtbheeahdbimeiaaStbR
namespace Go.Proofs.Ytbheeahdbimeiaa
open Go.RowKit Go.Maps
set_option linter.unusedVariables false
set_option linter.unusedSimpArgs false

theorem own_set {W : World} {B k n : Nat} {t : TypeId} {v : Value} {xs : List Value} (h : W.ownsRow B t k v n xs) {p : Addr} (hp : some p.block ≠ v.ownBlock) (u : Value) : (W.setCell p u).ownsRow B t k v n xs := by
  refine ⟨h.1, ?_⟩
  rcases h.2 with h1 | ⟨g, cap, cur, rfl, h2, h3, h4⟩
  · exact .inl h1
  · exact .inr ⟨g, cap, cur, rfl, h2, (Below.heap_setCell _ _ _ _ (by rintro rfl; exact hp rfl)).trans h3, h4⟩
theorem own_first {W : World} {B : Nat} {b : Nat} {x : Value} {t : TypeId} (h : W.heap[b]? = some (.cells #[x] t (0, 0))) (hB : B ≤ b) : W.ownsRow B t 1 (.slice (some ⟨b, 0, none⟩) 1 1) 1 [x] :=
  ⟨rfl, .inr ⟨b, 1, #[x], rfl, hB, h, Nat.le_refl _, by decide, rfl, rfl⟩⟩
theorem ne_own {W : World} {B k n b m : Nat} {t : TypeId} {v : Value} {xs : List Value} {D : DW} (h : W.ownsRow B t k v n xs) (hm : OwnPl W b m D) : some b ≠ v.ownBlock := by
  rcases row_ne_map h hm with e | e
  · rw [e]; intro e; cases e
  · exact fun k => e k.symm
theorem both_grown {A B : World} {row : Option Nat} {b n gA : Nat} {D : DW} {M : Array Value} (hD : OwnPl A b n D) (hA : A.heap[gA]? = some (.cells M 3 (0, 0))) (hg : A.grownBy B row) (h1 : some b ≠ row) (h2 : some gA ≠ row) : OwnPl B b n D ∧ B.heap[gA]? = some (.cells M 3 (0, 0)) :=
  ⟨hD.kept hg h1, (hg.block _ (heap_lt hA) h2).trans hA⟩
theorem ne_map {W : World} {b n gA : Nat} {D : DW} {M : Array Value} (hD : OwnPl W b n D) (hA : W.heap[gA]? = some (.cells M 3 (0, 0))) : gA ≠ b := by
  rintro rfl
  obtain ⟨es, ck, hb⟩ := own_isMap hD
  rw [hb] at hA; cases hA
/-- the world behind the store of a place -/
theorem stored {w0 wr : World} {L : List BA} {i p b n gA : Nat} {D : DW} {tv : Value} {m : Nat} {xs : List Value} (hD : OwnPl wr b n D) (hA : wr.heap[gA]? = some (.cells (atM L i) 3 (0, 0))) (hT : wr.ownsRow w0.heap.size 5 1 tv m xs) (hS : (atM L i).setIfInBounds i (.int .i64 (p : Int)) = atM L (i + 1)) (hB : Below w0.heap.size w0 wr) (hg : w0.heap.size ≤ gA) :
    OwnPl (wr.setCell ⟨gA, i, none⟩ (.int .i64 (p : Int))) b n D ∧ (wr.setCell ⟨gA, i, none⟩ (.int .i64 (p : Int))).heap[gA]? = some (.cells (atM L (i + 1)) 3 (0, 0)) ∧ (wr.setCell ⟨gA, i, none⟩ (.int .i64 (p : Int))).ownsRow w0.heap.size 5 1 tv m xs ∧
    Below w0.heap.size w0 (wr.setCell ⟨gA, i, none⟩ (.int .i64 (p : Int))) ∧ gA < (wr.setCell ⟨gA, i, none⟩ (.int .i64 (p : Int))).heap.size := by
  refine ⟨hD.setCell (by show b ≠ gA; exact fun e => ne_map hD hA e.symm) _, ?_, own_set hT (row_ne_block hT hA (by decide)) _, hB.setCell (p := ⟨gA, i, none⟩) hg _, by have := heap_lt hA; simpa [World.setCell] using this⟩
  have := heap_setCell_same wr gA i (atM L i) 3 (.int .i64 (p : Int)) hA
  rw [← hS]; exact this
set_option maxRecDepth 100000 in
set_option maxHeartbeats 8000000 in
theorem build_any (v : Value) (L : List BA) (w : World) (hL : StrO w v L) (hll : L.length ≤ 1048576) (hsz : ∀ x ∈ L, x.size ≤ 281474976710656) :
    Calls Try.prog 10 #[v] w (BldQ w L) := by
  have HL := Lib.hid hL
  have HSZ := Lib.hid hsz
  have SI := Lib.hid (fun s W => sidx_any s W)
  have BG := Lib.hid (fun W => begun_any W)
  have POld := Lib.hid (fun b n D g s at' p W h1 h2 h3 h4 => put_old b n D g s at' p W h1 h2 h3 h4)
  have PNew := Lib.hid (fun b n D g s p W h1 h2 h3 h4 h5 h6 => put_new b n D g s p W h1 h2 h3 h4 h5 h6)
  obtain ⟨aa, ca, rfl⟩ := hL.slice
  obtain ⟨j0, ji, jz0, jz1, jz2⟩ := info_parts infoU8
  have hmk := make_ints L.length hll
  clear hL hsz
  go_enter Try.func10, Try.ntmps10
  go_wp2_with fail
  go_loopw [14] (fun iv wr => ∃ (k : Nat), k ≤ L.length ∧ iv = .int .i64 (k : Int) ∧ Hid ((L.take k).any zeroB = false) ∧ wr = w) (fun iv _ => L.length - (intOf iv).toNat)
  case atStart => exact ⟨0, Nat.zero_le _, rfl, Lib.hid rfl, rfl⟩
  case round =>
    obtain ⟨k, hk, rfl, HN, hw⟩ := hrel
    subst wr
    by_cases hlt : (k : Int) < (L.length : Int)
    · obtain ⟨g, off, cap, y, hy, hv, hg, y0⟩ := HL.out.at (k := k) (by omega)
      cases hv
      have kp : (0 : Int) ≤ (k : Int) := by omega
      have w9 : IntKind.i64.wrap ((k : Int) + 1) = ((k + 1 : Nat) : Int) := by rw [IntWalk.i64_in _ (by omega)]; omega
      have S1 := Lib.hid (SI.out y w)
      have HY := Lib.hid hy
      clear hy
      by_cases hz : zeroB y = true
      · have HE := Lib.hid (bld_zero HY.out hz)
        have hge : (0 : Int) ≤ idx0 (nmOf y) := by
          have h1 := idx0_ge (nmOf y)
          have h2 : idx0 (nmOf y) ≠ -1 := fun e => by rw [idx0_zero] at e; rw [e] at hz; cases hz
          omega
        generalize idx0 (nmOf y) = I at *
        clear hz
        go_wp2_with fail
        refine S1.out.mono ?_
        rintro e w1 ⟨rfl, rfl⟩
        go_wp2_with fail
        go_returns
        exact ⟨.inl ⟨by rw [HE.out]; decide, by rw [HE.out]; rfl⟩, Below.refl _ _⟩
      · have hz' : zeroB y = false := by simpa using hz
        rw [(idx0_zero y).2 hz'] at S1
        have HN2 := Lib.hid (show (L.take (k + 1)).any zeroB = false by rw [List.take_add_one, HY.out, List.any_append, HN.out]; simp [hz'])
        clear hz hz'
        go_wp2_with fail
        refine S1.out.mono ?_
        rintro e w1 ⟨rfl, rfl⟩
        go_wp2_with fail
        go_roundw
        case rel => exact ⟨k + 1, by omega, by first | rfl | rw [← w9], HN2, by first | rfl | trivial⟩
        case measure => simp [intOf]; omega
    · have HNZ := Lib.hid (show L.any zeroB = false by have := HN.out; rwa [List.take_of_length_le (by omega)] at this)
      clear HN
      go_wp2_with fail
      refine (BG.out _).mono ?_
      rintro e w1 ⟨rfl, ⟨D0, hD0, hR0⟩, hb1⟩
      have hz1 : (w.alloc (.cells #[.int .u8 0] 5)).heap.size = w.heap.size + 1 := by simp
      rw [hz1] at hD0 hb1 ⊢
      have ht0 : w1.heap[w.heap.size]? = some (.cells #[.int .u8 0] 5 (0, 0)) := (hb1.block _ (by omega)).trans (heap_alloc_new w _)
      have hBw1 : Below w.heap.size w w1 := (below1 w (.cells #[.int .u8 0] 5)).trans (hb1.mono (by omega))
      have hlt1 := hD0.lt
      rw [← gB_zero L] at hR0
      have hz2 : (w1.alloc (.cells (inL (List.replicate L.length 0)).toArray 3)).heap.size = w1.heap.size + 1 := by simp
      have HA0 := Lib.hid (show (w1.alloc (.cells (inL (List.replicate L.length 0)).toArray 3)).heap[w1.heap.size]? = some (.cells (atM L 0) 3 (0, 0)) from heap_alloc_new w1 _)
      have HT0 := Lib.hid (own_first (B := w.heap.size) (((below1 w1 (.cells (inL (List.replicate L.length 0)).toArray 3)).block _ (heap_lt ht0)).trans ht0) (Nat.le_refl _))
      have HD0 := Lib.hid (And.intro (hD0.alloc (.cells (inL (List.replicate L.length 0)).toArray 3)) hR0)
      have HB0 := Lib.hid (hBw1.alloc hBw1.size (.cells (inL (List.replicate L.length 0)).toArray 3))
      have hgA : w.heap.size ≤ w1.heap.size := hBw1.size
      clear hD0 hR0 hb1 ht0 hBw1 hz1
      go_wp2_with fail
      generalize w1.alloc (.cells (inL (List.replicate L.length 0)).toArray 3) = W2 at *
      generalize w1.heap.size = gA at *
      clear hmk
      go_loopw [7, 29] (fun tv iv wr => ∃ (i : Nat) (ta : Option Addr) (tc : Nat), i ≤ L.length ∧ tv = .slice ta (outI L i).length tc ∧ iv = .int .i64 (i : Int) ∧ Hid (wr.ownsRow w.heap.size 5 1 tv (outI L i).length (byL (outI L i))) ∧ Hid (∃ D, OwnPl wr (w.heap.size + 1) (i + 1) D ∧ MapR D (gB L i)) ∧ Hid (wr.heap[gA]? = some (.cells (atM L i) 3 (0, 0))) ∧ Hid ((outI L i).length ≤ 1048576) ∧ Hid (Below w.heap.size w wr) ∧ Hid (gA < wr.heap.size)) (fun tv iv _ => L.length - (intOf iv).toNat)
      case atStart => exact ⟨0, _, _, Nat.zero_le _, rfl, rfl, Lib.hid HT0.out, Lib.hid ⟨D0, HD0.out⟩, HA0, Lib.hid (show (outI L 0).length ≤ 1048576 by rw [show (outI L 0).length = 1 from rfl]; decide), HB0, Lib.hid (by omega)⟩
      case round =>
        obtain ⟨i, ta, tc, hil, rfl, rfl, HTB, HDD, HAT, HS, HB, HGA⟩ := hrel
        by_cases hlt2 : (i : Int) < (L.length : Int)
        · have hit : i < L.length := by omega
          obtain ⟨g, off, cap, y, hy, hv, hg, y0⟩ := (HL.out.keep HB.out).at (k := i) hit
          cases hv
          have ip : (0 : Int) ≤ (i : Int) := by omega
          have w9 : IntKind.i64.wrap ((i : Int) + 1) = ((i + 1 : Nat) : Int) := by rw [IntWalk.i64_in _ (by omega)]; omega
          have HY := Lib.hid (show L.getD i default = y by simp [List.getD, hy])
          have hys : y.size ≤ 281474976710656 := HSZ.out y (List.mem_of_getElem? hy)
          obtain ⟨D, hD, hR⟩ := HDD.out
          have HIT := Lib.hid hit
          obtain ⟨p, hp, hat⟩ := at_next hit
          rw [HY.out] at hp
          have HPN := Lib.hid (And.intro hp hat)
          have HASET := Lib.hid (atM_set hit hat)
          have hpl := gB_le hp
          clear hy hat
          have hb48 : (i : Int) < ((L.length : Nat) : Int) := hlt2
          cases hgx : gB L i y with
          | some q =>
            obtain ⟨e1, e2⟩ := gB_old hit (by rw [HY.out]; exact hgx)
            have PO := Lib.hid (POld.out (w.heap.size + 1) (i + 1) D (gB L i) y ((outI L i).length : Int) q wr hD hR (by unfold maxLen; omega) hgx)
            have HM := Lib.hid (show OwnPl wr (w.heap.size + 1) (i + 1) D ∧ MapR D (gB L (i + 1)) by rw [e1]; exact ⟨hD, hR⟩)
            have HO2 := Lib.hid e2
            have hk2 := key_ok (s := y) (by unfold maxLen; omega)
            clear hgx hD hR e1 e2 hp hit
            go_wp2_with fail
            refine PO.out.mono ?_
            rintro e w2 ⟨rfl, rfl⟩
            obtain ⟨z, hz⟩ : ∃ z, (atM L i)[i]? = some z := ⟨_, Array.getElem?_eq_getElem (by rw [atM_size (Nat.le_of_lt HIT.out)]; exact HIT.out)⟩
            have cA : wr.cell? ⟨gA, i, none⟩ = some z := (Lib.cell_of_heap HAT.out i).trans hz
            have fA := Lib.frozen_of_heap HAT.out i
            have HK := Lib.hid ((HM.out.2.yes HPN.out.1).2)
            have HST := Lib.hid (stored (w0 := w) HM.out.1 HAT.out HTB.out HASET.out HB.out hgA)
            clear hz
            go_wp2_with (at_lookup; refine wpList_lookup_own_int _ rfl _ _ 49 rfl 9 3 .i64 (string_keyed Try.underlying9) Try.underlying49 Try.underlying3 (zero_int _) (w.heap.size + 1) (i + 1) D rfl HM.out.1 _ (keyB y) rfl hk2 ?_; intro c hat hwc; obtain rfl : c = (p : Int) := by have h2 := HK.out.symm.trans hat; injection h2 with h3; injection h3 with _ h4; exact h4.symm)
            go_roundw
            case rel => exact ⟨i + 1, ta, tc, by omega, by rw [HO2.out], by first | rfl | rw [← w9], Lib.hid (by rw [HO2.out]; exact HST.out.2.2.1), Lib.hid ⟨D, HST.out.1.mono (by omega), HM.out.2⟩, Lib.hid HST.out.2.1, Lib.hid (by rw [HO2.out]; exact HS.out), Lib.hid HST.out.2.2.2.1, Lib.hid HST.out.2.2.2.2⟩
            case measure => simp [intOf]; omega
          | none =>
            obtain ⟨e1, e2⟩ := gB_new hit (by rw [HY.out]; exact hgx)
            rw [HY.out] at e1 e2
            have PN := Lib.hid (PNew.out (w.heap.size + 1) (i + 1) D (gB L i) y (outI L i).length wr hD hR (by unfold maxLen; omega) hgx (by unfold maxLen; omega) (by have := HS.out; omega))
            have HO2 := Lib.hid e2
            have HG2 := Lib.hid e1
            have HDw := Lib.hid hD
            have hk2 := key_ok (s := y) (by unfold maxLen; omega)
            have HLN := Lib.hid (show (outI L (i + 1)).length = (outI L i).length + y.size + 1 by rw [e2, List.length_append, List.length_append, nm_len]; rfl)
            have w7 : IntKind.i64.wrap (((outI L i).length : Int) + (y.size : Int)) = ((outI L i).length : Int) + (y.size : Int) := by rw [IntWalk.i64_in _ (by have := HS.out; omega)]
            have w8 : IntKind.i64.wrap (((outI L i).length : Int) + (y.size : Int) + 1) = ((outI L i).length : Int) + (y.size : Int) + 1 := by rw [IntWalk.i64_in _ (by have := HS.out; omega)]
            clear hgx hD hR e1 e2 hp hit
            by_cases hb9 : (1048576 : Int) < ((outI L i).length : Int) + (y.size : Int) + 1
            · have HE3 := Lib.hid (bld_long HNZ.out (show i + 1 ≤ L.length by omega) (by rw [HLN.out]; omega))
              have hbig : decide ((1048576 : Int) < ((outI L i).length : Int) + (y.size : Int) + 1) = true := decide_eq_true hb9
              clear hb9
              go_wp2_with fail
              refine PN.out.mono ?_
              rintro e w2 ⟨rfl, _, hg2⟩
              have HB2 := Lib.hid (HB.out.grown hg2 HB.out.size (fun q e => by cases e; omega))
              clear hg2
              go_wp2_with fail
              go_returns
              exact ⟨.inl ⟨by rw [HE3.out]; decide, by rw [HE3.out]; rfl⟩, HB2.out⟩
            · have HLE := Lib.hid (show (outI L i).length + y.size + 1 ≤ 1048576 by omega)
              have HSQ := Lib.hid (show (outI L i).length + y.size ≤ maxLen ∧ (outI L i).length + y.size ≤ 140737488355328 ∧ (outI L i).length + y.size + 1 ≤ maxLen ∧ ((outI L i).length + y.size + 1) * 1 ≤ 140737488355328 by have := HLE.out; unfold maxLen; omega)
              have hbig : decide ((1048576 : Int) < ((outI L i).length : Int) + (y.size : Int) + 1) = false := decide_eq_false hb9
              clear hb9
              go_wp2_with fail
              refine PN.out.mono ?_
              rintro e w2 ⟨rfl, ⟨D2, hD2, hR2⟩, hg2⟩
              rw [← HG2.out] at hR2
              have HR2 := Lib.hid hR2
              have hA2 := (hg2.block _ (heap_lt HAT.out) (fun e => ne_map HDw.out HAT.out (by injection e))).trans HAT.out
              have HT2 := Lib.hid (World.ownsRow.kept HTB.out hg2 (row_ne_map HTB.out HDw.out))
              have HB2 := Lib.hid (HB.out.grown hg2 HB.out.size (fun q e => by cases e; omega))
              have HX2 := Lib.hid (And.intro hD2 hA2)
              have hz2' : w.heap.size ≤ w2.heap.size := HB2.out.size
              clear hg2 hD2 hR2 hA2
              go_wp2_with (first
                | (at_builtin; (refine Lib.wpList_append_own_string _ rfl _ _ 25 9 rfl w.heap.size 5 j0 Try.underlying25 Try.underlying9 ji jz0 jz1 jz2 _ _ _ rfl HT2.out y rfl HSQ.out.1 HSQ.out.2.1 hz2' ?_; intro v4 w4 hown4 hgrow4 _; obtain ⟨ob, ocb, rfl⟩ := own_sliceN hown4; have HO4 := Lib.hid hown4; have HX4 := Lib.hid (both_grown HX2.out.1 HX2.out.2 hgrow4 (ne_own HT2.out HX2.out.1) (row_ne_block HT2.out HX2.out.2 (by decide))); have HB4 := Lib.hid (show Below w.heap.size w w4 from HB2.out.grown hgrow4 hz2' (fun q hq => (HT2.out.lt q hq).1)); have hz4 : w.heap.size ≤ w4.heap.size := HB4.out.size; clear hown4 hgrow4))
                | (at_builtin; (refine wpList_append_own _ rfl _ _ 25 rfl w.heap.size 5 j0 (.int .u8 0) 1 1 Try.underlying25 ji jz0 jz1 jz2 rfl (by decide) _ _ _ rfl (own_keep HO4.out (below1 w4 (.cells #[.int .u8 0] 5))) ⟨w4.heap.size, 0, none⟩ 1 1 [.int .u8 0] rfl rfl (fun j u hu => World.news_of_block (heap_alloc_new w4 _) j u hu) (by simp [Value.oneCell']) HSQ.out.2.2.1 HSQ.out.2.2.2 (by simp; omega) ?_; intro v5 w5 hown5 hgrow5 _; obtain ⟨pb, pc, rfl⟩ := own_sliceN hown5; have HO5 := Lib.hid hown5; have HX5 := Lib.hid (both_grown (HX4.out.1.alloc (.cells #[.int .u8 0] 5)) (((below1 w4 (.cells #[.int .u8 0] 5)).block _ (heap_lt HX4.out.2)).trans HX4.out.2) hgrow5 (ne_own HO4.out HX4.out.1) (row_ne_block HO4.out HX4.out.2 (by decide))); have HB5 := Lib.hid (show Below w.heap.size w w5 from (HB4.out.alloc HB4.out.size (.cells #[.int .u8 0] 5)).grown hgrow5 (by simp; omega) (fun q hq => (HO4.out.lt q hq).1)); clear hown5 hgrow5; obtain ⟨z, hz⟩ : ∃ z, (atM L i)[i]? = some z := ⟨_, Array.getElem?_eq_getElem (by rw [atM_size (Nat.le_of_lt HIT.out)]; exact HIT.out)⟩; have cA : w5.cell? ⟨gA, i, none⟩ = some z := (Lib.cell_of_heap HX5.out.2 i).trans hz; have fA := Lib.frozen_of_heap HX5.out.2 i; have HK := Lib.hid ((HR2.out.yes HPN.out.1).2); have HST := Lib.hid (stored (w0 := w) HX5.out.1 HX5.out.2 HO5.out HASET.out HB5.out hgA); clear hz))
                | (at_lookup; refine wpList_lookup_own_int _ rfl _ _ 49 rfl 9 3 .i64 (string_keyed Try.underlying9) Try.underlying49 Try.underlying3 (zero_int _) (w.heap.size + 1) (i + 1 + 1) D2 rfl HX5.out.1 _ (keyB y) rfl hk2 ?_; intro c hat hwc; obtain rfl : c = (p : Int) := by have h2 := HK.out.symm.trans hat; injection h2 with h3; injection h3 with _ h4; exact h4.symm))
              go_roundw
              case rel => exact ⟨i + 1, pb, pc, by omega, by rw [HLN.out], by first | rfl | rw [← w9], Lib.hid (by rw [HLN.out, HO2.out]; unfold byL; rw [List.map_append, List.map_append]; have := HST.out.2.2.1; rw [str_cells] at this; exact this), Lib.hid ⟨D2, HST.out.1, HR2.out⟩, Lib.hid HST.out.2.1, Lib.hid (by rw [HLN.out]; exact HLE.out), Lib.hid HST.out.2.2.2.1, Lib.hid HST.out.2.2.2.2⟩
              case measure => simp [intOf]; omega
        · obtain rfl : i = L.length := by omega
          have HE := Lib.hid (bld_ok HNZ.out HS.out)
          have HN1 := Lib.hid (bys_of_own rfl HTB.out)
          have HN2 := Lib.hid (row_of_block (by have := HAT.out; rwa [atM_all] at this) (by rw [atI_len L (Nat.le_refl _)]; unfold maxLen; omega))
          rw [atI_len L (Nat.le_refl _)] at HN2
          go_wp2_with fail
          go_returns
          exact ⟨.inr ⟨HE.out, _, _, rfl, HN1.out, HN2.out⟩, HB.out⟩
end Go.Proofs.Ytbheeahdbimeiaa
