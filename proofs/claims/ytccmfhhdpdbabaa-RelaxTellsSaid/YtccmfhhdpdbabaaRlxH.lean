/-
  What each call of the program's Offsets, Reaches and Fits returns. Conditions: how the arguments lie.
-/
import Derived.Test.YtccmfhhdpdbabaaRlxG
namespace Go.Proofs.Ytccmfhhdpdbabaa
open Go.RowKit
set_option linter.unusedVariables false
set_option linter.unusedSimpArgs false

theorem ownsRow_less' {w : World} {B B' : Nat} {e : TypeId} {size : Nat} {v : Value} {n : Nat} {xs : List Value} (h : w.ownsRow B e size v n xs) (hB : B' ≤ B) : w.ownsRow B' e size v n xs := by
  obtain ⟨h1, h2⟩ := h
  refine ⟨h1, ?_⟩
  rcases h2 with h2 | ⟨g, cap, cur, a, b, c⟩
  · exact .inl h2
  · exact .inr ⟨g, cap, cur, a, by omega, c⟩
def offE (L : List It) (B : List Bool) : Int := if chkB L = 0 then (if B.length = L.length then 0 else 1) else chkB L
def OffP (w : World) (L : List It) (B : List Bool) (e : Ending) (w' : World) : Prop :=
  ((offE L B ≠ 0 ∧ e = .returned (.tuple #[.slice none 0 0, .int .i64 (offE L B)])) ∨ (offE L B = 0 ∧ AllOk L ∧ B.length = L.length ∧ ∃ v', e = .returned (.tuple #[v', .int .i64 0]) ∧ w'.ownsRow w.heap.size 2 1 v' (L.length + 1) ((offL L B).map fun x => Value.int .i64 x))) ∧ Below w.heap.size w w'
theorem offsetsE_any (v b : Value) (L : List It) (B : List Bool) (w : World) (hL : ItsO w v L) (hB : BosO w b B) :
    Calls Try.prog 10 #[v, b] w (OffP w L B) := by
  have CK := Lib.hid (fun W (hb : Below w.heap.size w W) => check_any v L W (hL.keep hb))
  have OF := Lib.hid (fun W (hb : Below w.heap.size w W) h1 h2 => offsets_any v b L B W (hL.keep hb) (hB.keep hb) h1 h2)
  obtain ⟨aa, ca, rfl⟩ := hL.slice
  obtain ⟨ab, cb, rfl⟩ := hB.slice
  have hl1 := hL.len
  have hl2 := hB.len
  unfold maxLen at hl1 hl2
  clear hL hB
  by_cases hc : chkB L = 0
  · have hok := chk_ok hc
    rw [hc] at CK
    by_cases hl : B.length = L.length
    · have hE : offE L B = 0 := by unfold offE; rw [if_pos hc, if_pos hl]
      have OF := Lib.hid (fun W hb => OF.out W hb hl hok)
      have HK := Lib.hid hok
      have HLE := Lib.hid hl
      have HEE := Lib.hid hE
      rw [hl] at OF ⊢
      clear hc hE hok hl
      go_enter Try.func10, Try.ntmps10
      go_wp2_with fail
      refine (CK.out _ (Below.refl _ _)).mono ?_
      rintro e w1 ⟨rfl, hb1⟩
      have HB1 := Lib.hid hb1
      clear hb1
      go_wp2_with fail
      refine (OF.out _ HB1.out).mono ?_
      rintro e w2 ⟨⟨v', rfl, hown⟩, hb2⟩
      have HB2 := Lib.hid (Below.thn HB1.out HB1.out.size hb2)
      have HO := Lib.hid hown
      clear hb2 hown
      go_wp2_with fail
      go_ret2
      exact ⟨.inr ⟨HEE.out, HK.out, HLE.out, _, rfl, ownsRow_less' HO.out HB1.out.size⟩, HB2.out⟩
    · have hE : offE L B = 1 := by unfold offE; rw [if_pos hc, if_neg hl]
      have hl' : ((B.length : Int) == (L.length : Int)) = false := by simp; omega
      have HEE := Lib.hid hE
      clear hc hE hok hl
      go_enter Try.func10, Try.ntmps10
      go_wp2_with fail
      refine (CK.out _ (Below.refl _ _)).mono ?_
      rintro e w1 ⟨rfl, hb1⟩
      have HB1 := Lib.hid hb1
      clear hb1
      go_wp2_with fail
      go_ret2
      exact ⟨.inl ⟨by rw [HEE.out]; decide, by rw [HEE.out]; rfl⟩, HB1.out⟩
  · have hE : offE L B = chkB L := by unfold offE; rw [if_neg hc]
    have hc' : (chkB L == 0) = false := not_beq hc
    have HEE := Lib.hid (And.intro hE hc)
    generalize chkB L = C at *
    clear hE hc
    go_enter Try.func10, Try.ntmps10
    go_wp2_with fail
    refine (CK.out _ (Below.refl _ _)).mono ?_
    rintro e w1 ⟨rfl, hb1⟩
    have HB1 := Lib.hid hb1
    clear hb1
    go_wp2_with fail
    go_ret2
    exact ⟨.inl ⟨by rw [HEE.out.1]; exact HEE.out.2, by rw [HEE.out.1]; rfl⟩, HB1.out⟩
/-- whether the n-th item reaches -/
def reachesB (L : List It) (B : List Bool) (n : Int) : Bool := decide (offE L B = 0) && (decide (0 ≤ n) && (decide (n < (L.length : Int)) && (((L.getD n.toNat default).k == 3) && reachB L B (L.getD n.toNat default) n.toNat)))
set_option maxHeartbeats 2000000 in
theorem reachesE_any (v b : Value) (L : List It) (B : List Bool) (n : Int) (w : World) (hL : ItsO w v L) (hB : BosO w b B) :
    Calls Try.prog 15 #[v, b, .int .i64 n] w fun e w' => e = .returned (.bool (reachesB L B n)) ∧ Below w.heap.size w w' := by
  have OF := Lib.hid (offsetsE_any v b L B w hL hB)
  have HL := Lib.hid hL
  obtain ⟨aa, ca, rfl⟩ := hL.slice
  obtain ⟨ab, cb, rfl⟩ := hB.slice
  have hl1 := hL.len
  unfold maxLen at hl1
  clear hL hB
  go_enter Try.func15, Try.ntmps15
  go_wp2_with fail
  refine OF.out.mono ?_
  rintro e w1 ⟨⟨hE, rfl⟩ | ⟨hE, hok, hlen, v', rfl, hown⟩, hb⟩
  · have HR := Lib.hid (show reachesB L B n = false by unfold reachesB; rw [decide_eq_false hE, Bool.false_and])
    have hE' := not_beq hE
    have HB1 := Lib.hid hb
    generalize offE L B = C at *
    clear hb OF hE
    go_wp2_with fail
    go_ret
    exact ⟨ret1b HR.out.symm, HB1.out⟩
  · have HB1 := Lib.hid hb
    obtain ⟨oa, oc, rfl⟩ := own_sliceN hown
    have HA := Lib.hid (nus_of_own (offL_len L B).symm hown)
    have HK := Lib.hid hok
    have hR : reachesB L B n = (decide (0 ≤ n) && (decide (n < (L.length : Int)) && (((L.getD n.toNat default).k == 3) && reachB L B (L.getD n.toNat default) n.toNat))) := by unfold reachesB; rw [decide_eq_true hE, Bool.true_and]
    clear hb OF hown hE hlen hok
    by_cases h0 : 0 ≤ n
    · by_cases h1 : n < (L.length : Int)
      · obtain ⟨k, rfl⟩ : ∃ k : Nat, n = (k : Int) := ⟨n.toNat, by omega⟩
        have hk : k < L.length := by omega
        obtain ⟨g, off, cap, x, hx, hv, hg, x0, x1, x2, x3, x4, x5, x6⟩ := (HL.out.keep HB1.out).at hk
        cases hv
        have eX : L.getD k default = x := by simp [List.getD, hx]
        rw [decide_eq_true h0, decide_eq_true h1, Bool.true_and, Bool.true_and, Int.toNat_natCast, eX] at hR
        have hxo : okIt x (L.length : Int) = true := by have := getD_ok HK.out hk; rwa [eX] at this
        have IB := Lib.hid (fun W => isBranch_any x W)
        have RE := Lib.hid (fun hk' W (hb : Below w1.heap.size w1 W) => reaches_any _ x L B k W (HA.out.keep hb) HK.out hxo hk' hk)
        unfold itV at IB RE
        clear hx eX hxo
        by_cases hk3 : x.k = 3
        · have hk4 : (x.k == 3) = true := by simp [hk3]
          have RE := Lib.hid (RE.out hk3)
          rw [hk4, Bool.true_and] at hR
          rw [hk4] at IB
          have HR := Lib.hid hR
          clear hR hk4 hk3
          generalize reachB L B x k = rb at *
          go_wp2_with fail
          refine (IB.out _).mono ?_
          rintro e w2 ⟨rfl, hb2⟩
          have HB2 := Lib.hid (Below.thn HB1.out HB1.out.size hb2)
          have HB3 := Lib.hid hb2
          have x0 := (bcell hb2).1 g _ hg |>.trans x0
          have x1 := (bcell hb2).1 g _ hg |>.trans x1
          have x2 := (bcell hb2).1 g _ hg |>.trans x2
          have x3 := (bcell hb2).1 g _ hg |>.trans x3
          have x4 := (bcell hb2).1 g _ hg |>.trans x4
          have x5 := (bcell hb2).1 g _ hg |>.trans x5
          have x6 := (bcell hb2).1 g _ hg |>.trans x6
          clear hb2
          go_wp2_with fail
          refine (RE.out _ HB3.out).mono ?_
          rintro e w3 ⟨rfl, hb3⟩
          have HB4 := Lib.hid (Below.thn HB2.out HB2.out.size hb3)
          clear hb3
          go_wp2_with fail
          go_ret
          exact ⟨ret1b HR.out.symm, HB4.out⟩
        · have hk4 : (x.k == 3) = false := by simp [hk3]
          rw [hk4, Bool.false_and] at hR
          rw [hk4] at IB
          have HR := Lib.hid hR
          clear hR hk4 hk3 RE
          go_wp2_with fail
          refine (IB.out _).mono ?_
          rintro e w2 ⟨rfl, hb2⟩
          have HB2 := Lib.hid (Below.thn HB1.out HB1.out.size hb2)
          clear hb2
          go_wp2_with fail
          go_ret
          exact ⟨ret1b HR.out.symm, HB2.out⟩
      · have HR := Lib.hid (show reachesB L B n = false by rw [hR, decide_eq_false h1, Bool.false_and, Bool.and_false])
        clear hR
        go_wp2_with fail
        go_ret
        exact ⟨ret1b HR.out.symm, HB1.out⟩
    · have HR := Lib.hid (show reachesB L B n = false by rw [hR, decide_eq_false h0, Bool.false_and])
      clear hR
      go_wp2_with fail
      go_ret
      exact ⟨ret1b HR.out.symm, HB1.out⟩
/-- whether each branch that is not long reaches -/
def fitsB (L : List It) (B : List Bool) : Bool := decide (offE L B = 0) && decide (farL L B L.length = [])
set_option maxHeartbeats 2000000 in
theorem fits_any (v b : Value) (L : List It) (B : List Bool) (w : World) (hL : ItsO w v L) (hB : BosO w b B) :
    Calls Try.prog 17 #[v, b] w fun e w' => e = .returned (.bool (fitsB L B)) ∧ Below w.heap.size w w' := by
  have OF := Lib.hid (offsetsE_any v b L B w hL hB)
  have TF := Lib.hid (fun a W (hb : Below w.heap.size w W) ha h1 h2 => tooFar_any v b a L B W (hL.keep hb) (hB.keep hb) ha h1 h2)
  obtain ⟨aa, ca, rfl⟩ := hL.slice
  obtain ⟨ab, cb, rfl⟩ := hB.slice
  clear hL hB
  go_enter Try.func17, Try.ntmps17
  go_wp2_with fail
  refine OF.out.mono ?_
  rintro e w1 ⟨⟨hE, rfl⟩ | ⟨hE, hok, hlen, v', rfl, hown⟩, hb⟩
  · have HR := Lib.hid (show fitsB L B = false by unfold fitsB; rw [decide_eq_false hE, Bool.false_and])
    have hE' := not_beq hE
    have HB1 := Lib.hid hb
    generalize offE L B = C at *
    clear hb OF hE TF
    go_wp2_with fail
    go_ret
    exact ⟨ret1b HR.out.symm, HB1.out⟩
  · have HB1 := Lib.hid hb
    obtain ⟨oa, oc, rfl⟩ := own_sliceN hown
    have HA := Lib.hid (nus_of_own (offL_len L B).symm hown)
    have TF := Lib.hid (TF.out _ w1 hb HA.out hlen hok)
    have hR : fitsB L B = decide (farL L B L.length = []) := by unfold fitsB; rw [decide_eq_true hE, Bool.true_and]
    clear hb OF hown hE hlen hok HA
    generalize hF : farL L B L.length = F at *
    go_wp2_with fail
    refine TF.out.mono ?_
    rintro e w2 ⟨⟨v2, rfl, hown2⟩, hb2⟩
    obtain ⟨fa, fc, rfl⟩ := own_sliceN hown2
    have HB2 := Lib.hid (Below.thn HB1.out HB1.out.size hb2)
    clear hb2 hown2
    cases F with
    | nil =>
      have HR := Lib.hid (show fitsB L B = true by rw [hR]; rfl)
      clear hR
      go_wp2_with fail
      go_ret
      exact ⟨ret1b HR.out.symm, HB2.out⟩
    | cons q F =>
      have HR := Lib.hid (show fitsB L B = false by rw [hR]; rfl)
      have hq : ((F.length : Int) + 1 == 0) = false := by simp; omega
      clear hR hF
      go_wp2_with fail
      go_ret
      exact ⟨ret1b (by first | exact HR.out.symm | (rw [HR.out]; exact hq) | rw [HR.out]), HB2.out⟩
end Go.Proofs.Ytccmfhhdpdbabaa
