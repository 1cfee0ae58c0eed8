/-
  What each call of the program's digits and code returns. Conditions: what the variables of the library hold (Good), and the sizes that each lemma states.
-/
import Derived.Test.YtdkflmpdelfgoaaGreatDoorLexF
namespace Go.Proofs.YtdkflmpdelfgoaaGreatDoor
open Go.RowKit

def NumOut (o : Option (Nat × Nat)) (v n : Int) (ok : Bool) : Prop := (ok = true ∧ ∃ u m : Nat, o = some (u, m) ∧ v = (u : Int) ∧ n = (m : Int)) ∨ (ok = false ∧ o = none)
def DigOut (o : Option Nat) (m : Nat) (e : Ending) : Prop := ∃ (v : Int) (n : Int) (ok : Bool), e = .returned (.tuple #[.int .u64 v, .int .i64 n, .bool ok]) ∧ NumOut (o.map fun u => (u, m)) v n ok
theorem hasPrefix_two (s : Bs) (a b : UInt8) : Lib.hasPrefix s [a, b] = decide (s.take 2 = [a, b]) := by
  unfold Lib.hasPrefix
  rw [Bool.eq_iff_iff, decide_eq_true_eq, List.isPrefixOf_iff_prefix, List.prefix_iff_eq_take]
  exact ⟨fun h => h.symm, fun h => h.symm⟩
theorem extract_list (s : ByteArray) (a b : Nat) : (s.extract a b).data.toList = (s.data.toList.take b).drop a := by
  rw [ByteArray.data_extract, Array.toList_extract, List.extract_eq_take_drop, List.drop_take]
theorem dig_fin {base : Nat} {l d : Bs} {n : Nat} (hb : 1 ≤ base) (h : parseD d = digitsV base l) : ∀ o, pS base 18446744073709551615 l = o →
    (∀ v : Nat, o = some (some v) → DigOut (parseD d) n (.returned (.tuple #[.int .u64 (v : Int), .int .i64 (n : Int), .bool true]))) ∧ ((∀ v, o ≠ some (some v)) → ∀ u : Int, DigOut (parseD d) n (.returned (.tuple #[.int .u64 u, .int .i64 (n : Int), .bool false]))) := by
  intro o ho
  refine ⟨fun v hv => ?_, fun hno u => ?_⟩
  · rw [h, (digitsV_pS hb l v).1 (ho.trans hv)]
    exact ⟨_, _, _, rfl, .inl ⟨rfl, v, n, rfl, rfl, rfl⟩⟩
  · refine ⟨_, _, _, rfl, .inr ⟨rfl, ?_⟩⟩
    cases hd : parseD d with
    | none => rfl
    | some v => exact absurd (ho.symm.trans ((digitsV_pS hb l v).2 (h ▸ hd))) (hno v)
theorem list_drop {s : ByteArray} {d : Bs} (h : s.data.toList = d) (k : Nat) : (s.extract k s.size).data.toList = d.drop k := by
  rw [extract_list, size_list, List.take_length, h]
theorem list_take {s : ByteArray} {d : Bs} (h : s.data.toList = d) (k : Nat) : (s.extract 0 k).data.toList = d.take k := by
  rw [extract_list, List.drop_zero, h]
set_option maxHeartbeats 4000000 in
theorem digits_any (s : ByteArray) (w : World) (hG : Good w) (hs : s.size ≤ 281474976710656) :
    Calls Tryz.prog 69 #[.string s] w fun e w' => DigOut (parseD (s.data.toList.take (run isLD s.data.toList))) (run isLD s.data.toList) e ∧ Below w.heap.size w w' := by
  have K := Lib.hid (fun w => count_any 6 s w (by decide) (by unfold maxLen; omega))
  rw [show hasB 6 = isLD from funext hasB_6] at K
  have hn := run_le isLD s.data.toList
  rw [← size_list] at hn
  obtain ⟨n, hnn⟩ : ∃ n, run isLD s.data.toList = n := ⟨_, rfl⟩
  rw [hnn] at K hn ⊢
  obtain ⟨d, hd⟩ : ∃ d, s.data.toList.take n = d := ⟨_, rfl⟩
  have hdl : d.length = n := by rw [← hd, List.length_take, ← size_list]; omega
  obtain ⟨D, hD⟩ : ∃ D, s.extract 0 n = D := ⟨_, rfl⟩
  have hDl : D.data.toList = d := by rw [← hD, list_take rfl, hd]
  have hDs : D.size = n := by rw [size_list, hDl, hdl]
  rw [hd]
  have HD := Lib.hid hD
  have HS := Lib.hid hDs
  have HP1 := Lib.hid (fun w => Tryz.strings_HasPrefix D ⟨#[48, 120]⟩ w)
  have HP2 := Lib.hid (fun w => Tryz.strings_HasPrefix D ⟨#[48, 98]⟩ w)
  rw [show (⟨#[48, 120]⟩ : ByteArray).data.toList = [48, 120] from rfl, hDl, hasPrefix_two] at HP1
  rw [show (⟨#[48, 98]⟩ : ByteArray).data.toList = [48, 98] from rfl, hDl, hasPrefix_two] at HP2
  have PG : ∀ (bI : Int) (base : Nat) (l : Bs), (∀ (t : ByteArray) (w : World), Good w → t.size ≤ 281474976710656 → Calls Tryz.prog 83 #[.string t, .int .i64 bI, .int .i64 64] w fun e w' => ParseOut (pS base 18446744073709551615 t.data.toList) e ∧ Below w.heap.size w w') → l.length ≤ n →
      ∀ (E : ByteArray), E.data.toList = l → ∀ w1, w = w1 → Calls Tryz.prog 83 #[.string E, .int .i64 bI, .int .i64 64] w1 fun e w' => ParseOut (pS base 18446744073709551615 l) e ∧ Below w1.heap.size w1 w' := fun bI base l hc hl E hE w1 hw => by
    subst hw
    have := hc E w hG (by rw [size_list, hE]; omega)
    rwa [hE] at this
  clear hnn hd hD hG
  by_cases hx : d.take 2 = [48, 120]
  · have h2 : 2 ≤ d.length := by have := congrArg List.length hx; simp at this; omega
    have h2' : (2 : Int) ≤ (D.size : Int) := by omega
    have P := Lib.hid (PG 16 16 (d.drop 2) parse_16 (by rw [List.length_drop]; omega))
    have PD := Lib.hid (list_drop hDl 2)
    have R := Lib.hid (dig_fin (base := 16) (n := n) (by decide) (show parseD d = digitsV 16 (d.drop 2) by unfold parseD; rw [if_pos hx]))
    rw [hx] at HP1
    simp only [decide_true] at HP1
    clear hx PG hdl h2 hDl hDs
    go_enter Tryz.func69, Tryz.ntmps69
    go_wp2_with fail
    refine (K.out _).mono ?_
    rintro e w' ⟨rfl, rfl⟩
    go_wp2_with fail
    rw [HD.out]
    refine (HP1.out _).mono ?_
    rintro e w' ⟨rfl, rfl⟩
    go_wp2_with fail
    refine (P.out _ PD.out _ rfl).mono ?_
    rintro e w1 ⟨ho, hb⟩
    obtain ⟨o, hoo⟩ : ∃ o, pS 16 18446744073709551615 (d.drop 2) = o := ⟨_, rfl⟩
    rw [hoo] at ho
    have HR := Lib.hid (R.out _ hoo)
    have HB := Lib.hid hb
    clear hb hoo
    rcases ho with ⟨v, rfl, rfl⟩ | ⟨hno, u, T, p, rfl⟩
    · have HV := Lib.hid (HR.out.1 v rfl)
      go_wp2_with fail
      go_quiet (fail)
      go_wp2_with fail
      go_ret3
      exact ⟨HV.out, below_drewN HB.out _⟩
    · have HV := Lib.hid (HR.out.2 hno u)
      clear hno HR
      go_wp2_with fail
      go_quiet (fail)
      go_wp2_with fail
      go_ret3
      exact ⟨HV.out, below_drewN HB.out _⟩
  · rw [show decide (d.take 2 = [48, 120]) = false from decide_eq_false hx] at HP1
    by_cases hy : d.take 2 = [48, 98]
    · have h2 : 2 ≤ d.length := by have := congrArg List.length hy; simp at this; omega
      have h2' : (2 : Int) ≤ (D.size : Int) := by omega
      have P := Lib.hid (PG 2 2 (d.drop 2) parse_2 (by rw [List.length_drop]; omega))
      have PD := Lib.hid (list_drop hDl 2)
      have R := Lib.hid (dig_fin (base := 2) (n := n) (by decide) (show parseD d = digitsV 2 (d.drop 2) by unfold parseD; rw [if_neg hx, if_pos hy]))
      rw [hy] at HP2
      simp only [decide_true] at HP2
      clear hx hy PG hdl h2 hDl hDs
      go_enter Tryz.func69, Tryz.ntmps69
      go_wp2_with fail
      refine (K.out _).mono ?_
      rintro e w' ⟨rfl, rfl⟩
      go_wp2_with fail
      rw [HD.out]
      refine (HP1.out _).mono ?_
      rintro e w' ⟨rfl, rfl⟩
      go_wp2_with fail
      refine (HP2.out _).mono ?_
      rintro e w' ⟨rfl, rfl⟩
      go_wp2_with fail
      refine (P.out _ PD.out _ rfl).mono ?_
      rintro e w1 ⟨ho, hb⟩
      obtain ⟨o, hoo⟩ : ∃ o, pS 2 18446744073709551615 (d.drop 2) = o := ⟨_, rfl⟩
      rw [hoo] at ho
      have HR := Lib.hid (R.out _ hoo)
      have HB := Lib.hid hb
      clear hb hoo
      rcases ho with ⟨v, rfl, rfl⟩ | ⟨hno, u, T, p, rfl⟩
      · have HV := Lib.hid (HR.out.1 v rfl)
        go_wp2_with fail
        go_quiet (fail)
        go_wp2_with fail
        go_ret3
        exact ⟨HV.out, below_drewN HB.out _⟩
      · have HV := Lib.hid (HR.out.2 hno u)
        clear hno HR
        go_wp2_with fail
        go_quiet (fail)
        go_wp2_with fail
        go_ret3
        exact ⟨HV.out, below_drewN HB.out _⟩
    · rw [show decide (d.take 2 = [48, 98]) = false from decide_eq_false hy] at HP2
      by_cases hz : 1 < d.length ∧ d.head? = some 48
      · have RZ := Lib.hid (show parseD d = none by unfold parseD; rw [if_neg hx, if_neg hy, if_pos hz])
        have hn1 : 1 < (n : Int) := by omega
        obtain ⟨r, hr⟩ : ∃ r, d = 48 :: r := by
          cases d with
          | nil => cases hz.2
          | cons c r => simp at hz; exact ⟨r, by rw [hz.2]⟩
        obtain ⟨h0, gx⟩ := head_byte (hDl.trans hr)
        have h0' : 0 < (D.size : Int) := by omega
        clear hx hy hz PG hdl hDl hDs hr
        go_enter Tryz.func69, Tryz.ntmps69
        go_wp2_with fail
        refine (K.out _).mono ?_
        rintro e w' ⟨rfl, rfl⟩
        go_wp2_with fail
        rw [HD.out]
        refine (HP1.out _).mono ?_
        rintro e w' ⟨rfl, rfl⟩
        go_wp2_with fail
        refine (HP2.out _).mono ?_
        rintro e w' ⟨rfl, rfl⟩
        go_wp2_with fail
        go_ret3
        exact ⟨⟨_, _, _, rfl, .inr ⟨rfl, by rw [RZ.out]; rfl⟩⟩, Below.refl _ _⟩
      · have R := Lib.hid (dig_fin (base := 10) (n := n) (by decide) (show parseD d = digitsV 10 d by unfold parseD; rw [if_neg hx, if_neg hy, if_neg hz]))
        have P := Lib.hid (PG 10 10 d parse_10 (by omega))
        have PD := Lib.hid hDl
        by_cases hn1 : 1 < n
        · have hn1' : 1 < (n : Int) := by omega
          obtain ⟨c, r, hr⟩ : ∃ c r, d = c :: r := List.exists_cons_of_ne_nil (fun e => by rw [e] at hdl; simp at hdl; omega)
          obtain ⟨h0, gx⟩ := head_byte (hDl.trans hr)
          have hc : c ≠ 48 := fun e => hz ⟨by omega, by rw [hr, e]; rfl⟩
          have bc : ((c.toNat : Int) == 48) = false := by
            rw [beq_eq_false_iff_ne]; intro e; exact hc (UInt8.toNat_inj.1 (by show c.toNat = 48; omega))
          have h0' : 0 < (D.size : Int) := by omega
          clear hx hy hz PG hdl hDl hDs hr hc hn1
          go_enter Tryz.func69, Tryz.ntmps69
          go_wp2_with fail
          refine (K.out _).mono ?_
          rintro e w' ⟨rfl, rfl⟩
          go_wp2_with fail
          rw [HD.out]
          refine (HP1.out _).mono ?_
          rintro e w' ⟨rfl, rfl⟩
          go_wp2_with fail
          refine (HP2.out _).mono ?_
          rintro e w' ⟨rfl, rfl⟩
          go_wp2_with fail
          refine (P.out _ PD.out _ rfl).mono ?_
          rintro e w1 ⟨ho, hb⟩
          obtain ⟨o, hoo⟩ : ∃ o, pS 10 18446744073709551615 d = o := ⟨_, rfl⟩
          rw [hoo] at ho
          have HR := Lib.hid (R.out _ hoo)
          have HB := Lib.hid hb
          clear hb hoo
          rcases ho with ⟨v, rfl, rfl⟩ | ⟨hno, u, T, p, rfl⟩
          · have HV := Lib.hid (HR.out.1 v rfl)
            go_wp2_with fail
            go_quiet (fail)
            go_wp2_with fail
            go_ret3
            exact ⟨HV.out, below_drewN HB.out _⟩
          · have HV := Lib.hid (HR.out.2 hno u)
            clear hno HR
            go_wp2_with fail
            go_quiet (fail)
            go_wp2_with fail
            go_ret3
            exact ⟨HV.out, below_drewN HB.out _⟩
        · have hn1' : ¬ 1 < (n : Int) := by omega
          have dn1 : decide (1 < n) = false := by simp; omega
          clear hx hy hz PG hdl hDl hDs hn1
          go_enter Tryz.func69, Tryz.ntmps69
          go_wp2_with fail
          refine (K.out _).mono ?_
          rintro e w' ⟨rfl, rfl⟩
          go_wp2_with fail
          rw [HD.out]
          refine (HP1.out _).mono ?_
          rintro e w' ⟨rfl, rfl⟩
          go_wp2_with fail
          refine (HP2.out _).mono ?_
          rintro e w' ⟨rfl, rfl⟩
          go_wp2_with fail
          refine (P.out _ PD.out _ rfl).mono ?_
          rintro e w1 ⟨ho, hb⟩
          obtain ⟨o, hoo⟩ : ∃ o, pS 10 18446744073709551615 d = o := ⟨_, rfl⟩
          rw [hoo] at ho
          have HR := Lib.hid (R.out _ hoo)
          have HB := Lib.hid hb
          clear hb hoo
          rcases ho with ⟨v, rfl, rfl⟩ | ⟨hno, u, T, p, rfl⟩
          · have HV := Lib.hid (HR.out.1 v rfl)
            go_wp2_with fail
            go_quiet (fail)
            go_wp2_with fail
            go_ret3
            exact ⟨HV.out, below_drewN HB.out _⟩
          · have HV := Lib.hid (HR.out.2 hno u)
            clear hno HR
            go_wp2_with fail
            go_quiet (fail)
            go_wp2_with fail
            go_ret3
            exact ⟨HV.out, below_drewN HB.out _⟩
end Go.Proofs.YtdkflmpdelfgoaaGreatDoor
