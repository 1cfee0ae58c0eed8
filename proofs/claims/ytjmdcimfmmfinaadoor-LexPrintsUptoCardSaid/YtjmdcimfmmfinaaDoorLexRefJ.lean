/-
  The document's short, Quote, num, Unquote: what each call returns. Conditions: the sizes that each lemma states.
-/
import Derived.Test.YtjmdcimfmmfinaaDoorLexRefC
import Derived.Test.YtjmdcimfmmfinaaDoorLexPrintM
import Derived.Test.YtjmdcimfmmfinaaDoorLexM
import Derived.Deep.RegionHeld3
namespace Go.Proofs.YtjmdcimfmmfinaaDoor
open Go.RowKit
set_option linter.unusedVariables false
attribute [local go_sem] Oper.semAt_some

theorem u8_eqF {a b : UInt8} (h : a ≠ b) : ((a.toNat : Int) == (b.toNat : Int)) = false := by rw [u8_eq]; simp [h]
theorem stop_at {p : Prop} (h : Hid p) : p := h.out
theorem byteCells_ap (a b : Bs) : Lib.byteCells (a ++ b) = Lib.byteCells a ++ Lib.byteCells b := by simp [Lib.byteCells]
def shortV (c : UInt8) : UInt8 := (letterOf c).getD 0
theorem letter_nz : ∀ c : UInt8, (match letterOf c with | some l => l != 0 | none => true) = true := all_bytes (by decide +kernel)
set_option maxHeartbeats 2000000 in
theorem rshort_any (c : UInt8) (w : World) :
    Calls Tryd.prog 41 #[.int .u8 (c.toNat : Int)] w fun e w' => e = .returned (.int .u8 ((shortV c).toNat : Int)) ∧ w = w' := by
  have n1 := c.toNat_lt
  by_cases h0 : c = 0
  · subst h0
    go_enter Tryd.func41, Tryd.ntmps41
    go_wp2_with fail
    go_ret
    exact ⟨rfl, rfl⟩
  by_cases h9 : c = 9
  · subst h9
    go_enter Tryd.func41, Tryd.ntmps41
    go_wp2_with fail
    go_ret
    exact ⟨rfl, rfl⟩
  by_cases h10 : c = 10
  · subst h10
    go_enter Tryd.func41, Tryd.ntmps41
    go_wp2_with fail
    go_ret
    exact ⟨rfl, rfl⟩
  by_cases h13 : c = 13
  · subst h13
    go_enter Tryd.func41, Tryd.ntmps41
    go_wp2_with fail
    go_ret
    exact ⟨rfl, rfl⟩
  by_cases h34 : c = 34
  · subst h34
    go_enter Tryd.func41, Tryd.ntmps41
    go_wp2_with fail
    go_ret
    exact ⟨rfl, rfl⟩
  by_cases h92 : c = 92
  · subst h92
    go_enter Tryd.func41, Tryd.ntmps41
    go_wp2_with fail
    go_ret
    exact ⟨rfl, rfl⟩
  have R := Lib.hid (show shortV c = 0 by
    unfold shortV letterOf
    rw [if_neg h0, if_neg h9, if_neg h10, if_neg h13, if_neg h34, if_neg h92]; rfl)
  have b0 : ((c.toNat : Int) == 0) = false := u8_eqF (b := 0) h0
  have b9 : ((c.toNat : Int) == 9) = false := u8_eqF (b := 9) h9
  have b10 : ((c.toNat : Int) == 10) = false := u8_eqF (b := 10) h10
  have b13 : ((c.toNat : Int) == 13) = false := u8_eqF (b := 13) h13
  have b34 : ((c.toNat : Int) == 34) = false := u8_eqF (b := 34) h34
  have b92 : ((c.toNat : Int) == 92) = false := u8_eqF (b := 92) h92
  clear h0 h9 h10 h13 h34 h92
  go_enter Tryd.func41, Tryd.ntmps41
  go_wp2_with fail
  go_ret
  exact ⟨by rw [R.out]; rfl, rfl⟩

theorem conv1 (d : UInt8) (W : World) (b : Nat) (h : W.cell? ⟨b, 0, none⟩ = some (.int .u8 (d.toNat : Int))) : (convert 48 9 (.slice (some ⟨b, 0, none⟩) 1 1)).run Tryd.prog W = .ok (.string ⟨#[d]⟩) W :=
  run_convert_bytes_back W 48 9 5 ⟨b, 0, none⟩ 1 [d] Tryd.underlying48 Tryd.underlying5 Tryd.underlying9 (fun j hj => by
    obtain rfl : j = 0 := by simpa using hj
    simpa [Addr.add] using h)
theorem digit_nat (n : Nat) : (UInt8.ofNat (48 + n % 10)).toNat = 48 + n % 10 := by
  rw [UInt8.toNat_ofNat']; omega
theorem cell_ad {w W' : World} {v : Value} {t : TypeId} (hb : Below ((w.alloc (.cells #[v] t)).drew).heap.size ((w.alloc (.cells #[v] t)).drew) W') : W'.cell? ⟨w.heap.size, 0, none⟩ = some v :=
  (hb.cell (p := ⟨w.heap.size, 0, none⟩) (by simp)).trans (show (w.alloc (.cells #[v] t)).cell? ⟨w.heap.size, 0, none⟩ = some v by rw [World.cell?_alloc_new]; rfl)
set_option maxRecDepth 100000 in
set_option maxHeartbeats 8000000 in
theorem rnum_any (n : Nat) : n < 18446744073709551616 → ∀ w : World, Calls Tryd.prog 39 #[.int .u64 (n : Int)] w fun e w' => e = .returned (.string ⟨(Lib.decDigits n).toArray⟩) ∧ Below w.heap.size w w' := by
  induction n using Nat.strongRecOn with
  | _ n ih =>
    intro h64 w
    obtain ⟨D, hDD⟩ : ∃ D, UInt8.ofNat (48 + n % 10) = D := ⟨_, rfl⟩
    have hD := digit_nat n
    rw [hDD] at hD
    have CV := conv1 D
    by_cases h : n < 10
    · have hR := Lib.hid (show (⟨(Lib.decDigits n).toArray⟩ : ByteArray) = ⟨#[D]⟩ by rw [Lib.decDigits_one h, ← hDD, Nat.mod_eq_of_lt h])
      have h10 : (n : Int) < 10 := by omega
      have e1 : IntKind.u64.wrap (48 + (n : Int)) = (D.toNat : Int) := by rw [IntKind.wrap_u64]; omega
      have e2 : IntKind.u8.wrap (D.toNat : Int) = (D.toNat : Int) := by rw [IntKind.wrap_u8]; have := D.toNat_lt; omega
      have e3 : 48 + (n : Int) = (D.toNat : Int) := by omega
      clear ih hD hDD h64
      go_enter Tryd.func39, Tryd.ntmps39
      go_wp2_with fail
      go_ret
      exact ⟨by rw [hR.out]; rfl, below1 w _⟩
    · have hR := Lib.hid (show Lib.decDigits n = Lib.decDigits (n / 10) ++ [D] by rw [Lib.decDigits, dif_neg h, hDD])
      obtain ⟨m, hm⟩ : ∃ m, n / 10 = m := ⟨_, rfl⟩
      obtain ⟨r, hr⟩ : ∃ r, n % 10 = r := ⟨_, rfl⟩
      rw [hm] at hR
      rw [hr] at hD
      have IH := Lib.hid (ih m (by omega) (by omega))
      obtain ⟨A, hA⟩ : ∃ A, (⟨(Lib.decDigits m).toArray⟩ : ByteArray) = A := ⟨_, rfl⟩
      rw [hA] at IH
      have hAl : A.data.toList = Lib.decDigits m := by rw [← hA]
      have hAs : A.size ≤ 21 := by
        rw [size_list, hAl, Lib.decDigits_length]
        rcases Nat.eq_zero_or_pos m with h0 | h0
        · rw [h0]; simp [Lib.nDigits_small]
        · have := Lib.numDigits_eq m h0 (by omega); split at this <;> omega
      have hAc : ¬ (9223372036854775807 < A.size + 1) := by omega
      have HRA := Lib.hid (show A ++ ⟨#[D]⟩ = (⟨(Lib.decDigits n).toArray⟩ : ByteArray) by rw [hR.out, ← hA, show (⟨#[D]⟩ : ByteArray) = ⟨[D].toArray⟩ from rfl, ByteArray.mk_append_mk])
      have h10 : ¬ ((n : Int) < 10) := by omega
      have h10' : decide (n < 10) = false := decide_eq_false h
      have QO : IntKind.u64.wrap ((n : Int) / 10) = (m : Int) := by rw [IntKind.wrap_u64]; omega
      have e0 : Int.tmod (n : Int) 10 = (r : Int) := by rw [show Int.tmod (n : Int) 10 = ((n % 10 : Nat) : Int) from rfl]; omega
      have e1 : IntKind.u64.wrap (D.toNat : Int) = (D.toNat : Int) := by rw [IntKind.wrap_u64]; omega
      have e2 : IntKind.u8.wrap (D.toNat : Int) = (D.toNat : Int) := by rw [IntKind.wrap_u8]; have := D.toNat_lt; omega
      have e3 : 48 + (r : Int) = (D.toNat : Int) := by omega
      clear ih hD hDD h64 h hm hr hA hAl
      go_enter Tryd.func39, Tryd.ntmps39
      go_wp2_with fail
      go_region_with (first | (go_at_call 39; refine (IH.out _).mono ?_; rintro e w2 ⟨rfl, hb2⟩; have HB2 : Hid (Below w.drew.heap.size w.drew w2) := Lib.hid hb2; clear hb2) | (go_at_call 39; refine (IH.out _).mono ?_; rintro e w2 ⟨rfl, hb2⟩; have HB2 := Lib.hid hb2; have K3 := cell_ad hb2; clear hb2))
      all_goals
        go_wp2_with fail
        go_ret
        refine ⟨by rw [← HRA.out]; rfl, ?_⟩
        first
          | exact (Below.thn (Below.refl _ w).drew (Nat.le_refl _) HB2.out).alloc (Below.thn (Below.refl _ w).drew (Nat.le_refl _) HB2.out).size _
          | exact Below.thn (below1 w _).drew (by simp) HB2.out

/-! ### Quote -/
theorem quoted1_some {c l : UInt8} (h : letterOf c = some l) : quoted1 c = [92, l] := by unfold quoted1; rw [h]
theorem shortV_none {c : UInt8} (h : letterOf c = none) : shortV c = 0 := by unfold shortV; rw [h]; rfl
theorem stands_doc {c : UInt8} (h : letterOf c = none) : stands c 34 = (decide (32 ≤ (c.toNat : Int)) && decide ((c.toNat : Int) ≤ 126)) := by
  have key : ∀ c : UInt8, (match letterOf c with | some _ => true | none => stands c 34 == (decide (32 ≤ (c.toNat : Int)) && decide ((c.toNat : Int) ≤ 126))) = true := all_bytes (by decide +kernel)
  have := key c
  rw [h] at this
  simpa using this
set_option maxRecDepth 100000 in
set_option maxHeartbeats 16000000 in
theorem rQuote_any (s : ByteArray) (w : World) (hs : s.size ≤ 1048576) :
    Calls Tryd.prog 23 #[.string s] w fun e w' => e = .returned (.string ⟨(quoteB s.data.toList).toArray⟩) ∧ Below w.heap.size w w' := by
  obtain ⟨i0, hi, hz0, hz1, hz2⟩ := info_parts infoByte
  have SH := Lib.hid (fun c w => rshort_any c w)
  go_enter Tryd.func23, Tryd.ntmps23
  go_wp2_with fail
  have ho0 : (w.alloc (.cells #[.int .u8 34] 5)).ownsRow w.heap.size 5 1 (.slice (some ⟨w.heap.size, 0, none⟩) 1 1) (34 :: (s.data.toList.take 0).flatMap quoted1).length (Lib.byteCells (34 :: (s.data.toList.take 0).flatMap quoted1)) :=
    ⟨rfl, .inr ⟨w.heap.size, 1, _, rfl, Nat.le_refl _, heap_alloc_new w _, Nat.le_refl _, by unfold maxLen; omega, rfl, rfl⟩⟩
  have HO0 := Lib.hid ho0
  clear ho0
  go_loopw [3, 4] (fun v i wr => ∃ k : Nat, i = .int .i64 (k : Int) ∧ k ≤ s.size ∧ wr.ownsRow w.heap.size 5 1 v (34 :: (s.data.toList.take k).flatMap quoted1).length (Lib.byteCells (34 :: (s.data.toList.take k).flatMap quoted1)) ∧ Below w.heap.size w wr) (fun _ i _ => s.size - (intOf i).toNat)
  case atStart => exact ⟨0, rfl, by omega, HO0.out, below1 w _⟩
  case round =>
    obtain ⟨k, rfl, hk, hown, hbel⟩ := hrel
    clear HO0
    have hz := hbel.size
    have hql := quote_len (s.data.toList.take k)
    have htl : (s.data.toList.take k).length ≤ k := List.length_take_le _ _
    by_cases hlt : (k : Int) < (s.size : Int)
    · have hlt' : k < s.size := by omega
      obtain ⟨c, hc⟩ : ∃ c, s[k] = c := ⟨_, rfl⟩
      have hts : (34 :: (s.data.toList.take (k + 1)).flatMap quoted1) = (34 :: (s.data.toList.take k).flatMap quoted1) ++ quoted1 c := by
        rw [List.take_succ_eq_append_getElem (by rw [← size_list]; exact hlt'), ← get_list hlt', hc]
        simp
      obtain ⟨P, hP⟩ : ∃ P, (34 :: (s.data.toList.take k).flatMap quoted1) = P := ⟨_, rfl⟩
      have hPl : P.length ≤ 4194305 := by rw [← hP, List.length_cons]; omega
      rw [hP] at hts hown
      have IX := fun w => index_any (i := (k : Int)) hlt' rfl hc w
      have w9 : IntKind.i64.wrap ((k : Int) + 1) = ((k + 1 : Nat) : Int) := by rw [IntWalk.i64_in _ (by omega)]; omega
      have SC := Lib.hid (fun w => SH.out c w)
      have HO := Lib.hid hown
      have HB := Lib.hid hbel
      have fin : ∀ (v' : Value) (w' : World), w'.ownsRow w.heap.size 5 1 v' (P ++ quoted1 c).length (Lib.byteCells (P ++ quoted1 c)) → w'.ownsRow w.heap.size 5 1 v' (34 :: (s.data.toList.take (k + 1)).flatMap quoted1).length (Lib.byteCells (34 :: (s.data.toList.take (k + 1)).flatMap quoted1)) := fun v' w' h => by rw [hts]; exact h
      have FIN := Lib.hid fin
      clear hts hown hbel hql htl hP fin hc
      cases hl : letterOf c with
      | some l =>
        have hsv : shortV c = l := by unfold shortV; rw [hl]; rfl
        have hlz : ((l.toNat : Int) != 0) = true := by
          have := letter_nz c
          rw [hl] at this
          have hne : l ≠ 0 := by simpa using this
          exact u8_ne (b := 0) hne
        rw [hsv] at SC
        have hq := quoted1_some hl
        rw [hq] at FIN
        clear hl hsv hq
        go_wp2_with fail
        refine (SC.out _).mono ?_
        rintro e w1 ⟨rfl, rfl⟩
        go_wp2_with fail
        refine (SC.out _).mono ?_
        rintro e w1 ⟨rfl, rfl⟩
        have hown := HO.out
        go_wp2_with (at_builtin; refine wpList_append_own _ rfl _ _ 48 rfl w.heap.size 5 i0 (.int .u8 0) 1 1 Tryd.underlying48 hi hz0 hz1 hz2 rfl (by decide) _ _ _ rfl (hown.alloc _) ⟨wr.heap.size, 0, none⟩ 2 2 [.int .u8 92, .int .u8 (l.toNat : Int)] rfl rfl (cells_new _ _ _) (by simp [Value.oneCell']) (by unfold maxLen; omega) (by omega) (by simp; omega) ?_; intro v3 w3 hown3 hgrow3 _; refine stop_at ?_)
        have HF := Lib.hid (FIN.out v3 w3 (by rw [List.length_append, byteCells_ap]; exact hown3))
        have HB3 := Lib.hid ((HB.out.alloc hz _).grown hgrow3 (by simp; omega) (fun k hk => (hown.lt k hk).1))
        clear hown3 hgrow3 hown
        refine Lib.hid ?_
        go_wp2_with fail
        exact ⟨⟨k + 1, by first | rfl | rw [← w9] | simp, by omega, HF.out, HB3.out⟩, by simp [intOf]; omega⟩
      | none =>
        have hsd := stands_doc hl
        rw [shortV_none hl] at SC
        have n1 := c.toNat_lt
        by_cases hst : stands c 34 = true
        · have hq : quoted1 c = [c] := by unfold quoted1; rw [hl]; simp [hst]
          rw [hst] at hsd
          have hsd' := hsd.symm
          simp only [Bool.and_eq_true, decide_eq_true_eq] at hsd'
          obtain ⟨g1, g2⟩ := hsd'
          rw [hq] at FIN
          clear hl hsd hq hst
          go_wp2_with fail
          refine (SC.out _).mono ?_
          rintro e w1 ⟨rfl, rfl⟩
          have hown := HO.out
          go_wp2_with (at_builtin; refine wpList_append_own _ rfl _ _ 48 rfl w.heap.size 5 i0 (.int .u8 0) 1 1 Tryd.underlying48 hi hz0 hz1 hz2 rfl (by decide) _ _ _ rfl (hown.alloc _) ⟨wr.heap.size, 0, none⟩ 1 1 [.int .u8 (c.toNat : Int)] rfl rfl (cells_new _ _ _) (by simp [Value.oneCell']) (by unfold maxLen; omega) (by omega) (by simp; omega) ?_; intro v3 w3 hown3 hgrow3 _; refine stop_at ?_)
          have HF := Lib.hid (FIN.out v3 w3 (by rw [List.length_append, byteCells_ap]; exact hown3))
          have HB3 := Lib.hid ((HB.out.alloc hz _).grown hgrow3 (by simp; omega) (fun k hk => (hown.lt k hk).1))
          clear hown3 hgrow3 hown
          refine Lib.hid ?_
          go_wp2_with fail
          exact ⟨⟨k + 1, by first | rfl | rw [← w9] | simp, by omega, HF.out, HB3.out⟩, by simp [intOf]; omega⟩
        · obtain ⟨q, hq⟩ : ∃ q, c.toNat / 16 = q := ⟨_, rfl⟩
          obtain ⟨r, hr⟩ : ∃ r, c.toNat % 16 = r := ⟨_, rfl⟩
          have x1 := hex_index q (by omega)
          have x2 := hex_index r (by omega)
          have q1 : (c.toNat : Int) / 16 = (q : Int) := by omega
          have q2 : Int.tmod (c.toNat : Int) 16 = (r : Int) := by rw [show Int.tmod (c.toNat : Int) 16 = ((c.toNat % 16 : Nat) : Int) from rfl]; omega
          have q3 : (c.toNat : Int) % 16 = (r : Int) := by omega
          have q4 : IntKind.u8.wrap (q : Int) = (q : Int) := by rw [IntKind.wrap_u8]; omega
          have R : quoted1 c = [92, 120, hexD q, hexD r] := by unfold quoted1; rw [hl, ← hq, ← hr]; simp [hst]
          rw [R] at FIN
          have hng : ¬ ((32 : Int) ≤ (c.toNat : Int) ∧ (c.toNat : Int) ≤ 126) := by
            intro h; apply hst; rw [hsd]; simp [h.1, h.2]
          clear hl hsd hq hr R hst
          by_cases g1 : (32 : Int) ≤ (c.toNat : Int)
          · have g2 : ¬ ((c.toNat : Int) ≤ 126) := fun h => hng ⟨g1, h⟩
            clear hng
            go_wp2_with fail
            refine (SC.out _).mono ?_
            rintro e w1 ⟨rfl, rfl⟩
            have hown := HO.out
            go_wp2_with fail
            go_region_law (refine step_append_lies _ (by rfl) (.tmp 16) (.tmp 23) 48 (by rfl) w.heap.size 5 i0 (.int .u8 0) 1 1 Tryd.underlying48 hi hz0 hz1 hz2 (by rfl) (by decide) u3 P.length (Lib.byteCells P) (by rfl) (hown.drew.alloc _) ⟨wr.heap.size, 0, none⟩ 4 4 [.int .u8 92, .int .u8 120, .int .u8 ((hexD q).toNat : Int), .int .u8 ((hexD r).toNat : Int)] (by rfl) (by rfl) (by exact cells_new _ _ _) (by simp [Value.oneCell']) (by decide) (by unfold maxLen; omega) (by omega) (by simp; omega) _ (by rfl) ?_; intro g cap w3 hown3 hgrow3 _ _)
            all_goals
              have HF := Lib.hid (FIN.out _ w3 (by rw [List.length_append, byteCells_ap]; exact hown3))
              have HB3 := Lib.hid (((HB.out.alloc hz _).drew).grown hgrow3 (by simp; omega) (fun k hk => (hown.lt k hk).1))
              clear hown3 hgrow3 hown
              go_wp2_with fail
              exact ⟨⟨k + 1, by first | rfl | rw [← w9] | simp, by omega, HF.out, HB3.out⟩, by simp [intOf]; omega⟩
          · clear hng
            go_wp2_with fail
            refine (SC.out _).mono ?_
            rintro e w1 ⟨rfl, rfl⟩
            have hown := HO.out
            go_wp2_with fail
            go_region_law (refine step_append_lies _ (by rfl) (.tmp 16) (.tmp 23) 48 (by rfl) w.heap.size 5 i0 (.int .u8 0) 1 1 Tryd.underlying48 hi hz0 hz1 hz2 (by rfl) (by decide) u3 P.length (Lib.byteCells P) (by rfl) (hown.drew.alloc _) ⟨wr.heap.size, 0, none⟩ 4 4 [.int .u8 92, .int .u8 120, .int .u8 ((hexD q).toNat : Int), .int .u8 ((hexD r).toNat : Int)] (by rfl) (by rfl) (by exact cells_new _ _ _) (by simp [Value.oneCell']) (by decide) (by unfold maxLen; omega) (by omega) (by simp; omega) _ (by rfl) ?_; intro g cap w3 hown3 hgrow3 _ _)
            all_goals
              have HF := Lib.hid (FIN.out _ w3 (by rw [List.length_append, byteCells_ap]; exact hown3))
              have HB3 := Lib.hid (((HB.out.alloc hz _).drew).grown hgrow3 (by simp; omega) (fun k hk => (hown.lt k hk).1))
              clear hown3 hgrow3 hown
              go_wp2_with fail
              exact ⟨⟨k + 1, by first | rfl | rw [← w9] | simp, by omega, HF.out, HB3.out⟩, by simp [intOf]; omega⟩
    · have hk2 : k = s.size := by omega
      rw [hk2, show s.data.toList.take s.size = s.data.toList by rw [size_list, List.take_length]] at hown hql
      have R := Lib.hid (show quoteB s.data.toList = (34 :: s.data.toList.flatMap quoted1) ++ [34] from rfl)
      rw [← size_list] at hql
      generalize s.data.toList.flatMap quoted1 = body at *
      have hnl : (s.size : Int) ≤ (k : Int) := by omega
      clear htl hlt hk
      go_wp2_with (at_builtin; refine wpList_append_own _ rfl _ _ 48 rfl w.heap.size 5 i0 (.int .u8 0) 1 1 Tryd.underlying48 hi hz0 hz1 hz2 rfl (by decide) _ _ _ rfl (hown.alloc _) ⟨wr.heap.size, 0, none⟩ 1 1 [.int .u8 34] rfl rfl (cells_new _ _ _) (by simp [Value.oneCell']) (by unfold maxLen; simp only [List.length_cons]; omega) (by simp only [List.length_cons]; omega) (by simp; omega) ?_; intro v2 w2 hown2 hgrow2 _; have hcv := conv_row (l := (34 :: body) ++ [34]) (by rw [byteCells_ap]; exact hown2) (by simp) (by simp))
      go_ret
      exact ⟨ret1s (by rw [R.out]; rfl), (hbel.alloc hz _).grown hgrow2 (by simp; omega) (fun k hk => (hown.lt k hk).1)⟩
end Go.Proofs.YtjmdcimfmmfinaaDoor
