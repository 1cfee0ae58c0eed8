/-
  What each call of the program's decimal returns. Conditions: what the variables of the library hold (Good), and a text of at most 2^48 letters.
-/
import Derived.Test.YtefglodkcddgiaaDoorNamesB
namespace Go.Proofs.YtefglodkcddgiaaDoor
open Go.RowKit

set_option maxHeartbeats 1000000 in
theorem decimal_some (s : ByteArray) (lo hi n : Nat) (w : World) (h : dig s.data.toList lo hi = some n) :
    Calls Tryd.prog 22 #[.string s, .int .i64 (lo : Int), .int .i64 (hi : Int)] w fun e w' => e = .returned (.tuple #[.int .i64 (n : Int), .bool true]) ∧ Below w.heap.size w w' := by
  obtain ⟨h1, h2, h3, h4⟩ := dig_spec h
  have hs : s = ⟨(dd n).toArray⟩ := bytes_eq h3.symm
  have hz : s.size ≤ 2 := by have := (dd_len n).2; rw [h3] at this; exact this
  have hp : Lib.parseIntB 64 s.data.toList = .ok (n : Int) := by rw [← h3]; exact dd_parse n h4
  have P := Lib.hid (Tryd.strconv_ParseInt_10_at64_ok s (by omega) n hp)
  have F := Lib.hid (Tryd.strconv_FormatInt_10_small n h4)
  rw [dec_dd h4, ← hs] at F
  have i1 : (lo : Int) ≤ (n : Int) := by omega
  have i2 : (n : Int) ≤ (hi : Int) := by omega
  have hd : decide (n < lo) = false := by simp only [decide_eq_false_iff_not]; omega
  have hd2 : decide (hi < n) = false := by simp only [decide_eq_false_iff_not]; omega
  clear h hs hz hp h1 h2 h3 h4
  go_enter Tryd.func22, Tryd.ntmps22
  go_wp2_with fail
  refine (P.out _).mono ?_
  rintro e w1 ⟨rfl, hb⟩
  have hb : Below w.heap.size w w1 := by
    rcases hb with rfl | ⟨t, rfl⟩
    · exact Below.refl _ _
    · exact Lib.bytesWorld_below _ _ _
  go_wp2_with fail
  refine (F.out _).mono ?_
  rintro e w2 ⟨rfl, rfl⟩
  go_wp2_with fail
  go_ret2
  exact ⟨rfl, hb⟩

/-- a text that is no numeral -/
theorem parse_bad (s : ByteArray) (hlim : s.size ≤ 281474976710656) (h1 : ∀ v, Lib.parseIntB 64 s.data.toList ≠ .ok v) (h2 : Lib.parseIntB 64 s.data.toList ≠ .range) (ev : Value) (w : World) (hv : w.cell? ⟨1, 0, none⟩ = some ev) (hev : ev = .nilIface ∨ ∃ te pe, ev = .iface te pe) :
    Calls Tryd.prog 36 #[.string s, .int .i64 10, .int .i64 64] w fun e w' => ∃ N, e = .returned (.tuple #[.int .i64 0, .iface 97 (.pointer (some ⟨N, 0, none⟩))]) ∧ Below w.heap.size w w' := by
  rcases e : Lib.parseIntB 64 s.data.toList with v | _ | _
  · exact absurd e (h1 v)
  · refine Calls.mono (Any.strconv_ParseInt_10_at64_syntax Tryd.laysC174 s hlim e ev w hv hev) ?_
    rintro e' w' ⟨N, h3, _, _, h4⟩
    exact ⟨N, h3, h4⟩
  · exact absurd e h2
set_option maxHeartbeats 1000000 in
theorem decimal_none (s : ByteArray) (lo hi : Nat) (w : World) (hG : Good w) (hh : hi < 100) (hs : s.size ≤ 281474976710656) (h : dig s.data.toList lo hi = none) :
    Calls Tryd.prog 22 #[.string s, .int .i64 (lo : Int), .int .i64 (hi : Int)] w fun e w' => e = .returned (.tuple #[.int .i64 0, .bool false]) ∧ Below w.heap.size w w' := by
  rw [dig_iff_none hh] at h
  obtain ⟨te, pe, hc1⟩ := hG.syn
  obtain ⟨tf, pf, hc2⟩ := hG.rng
  rcases hp : Lib.parseIntB 64 s.data.toList with v | _ | _
  · have P := Lib.hid (Tryd.strconv_ParseInt_10_at64_ok s (by omega) v hp)
    by_cases g1 : v < (lo : Int)
    · clear hc1 hc2 hp h hh hs hG
      go_enter Tryd.func22, Tryd.ntmps22
      go_wp2_with fail
      refine (P.out _).mono ?_
      rintro e w1 ⟨rfl, hb⟩
      have hb : Below w.heap.size w w1 := by
        rcases hb with rfl | ⟨t, rfl⟩
        · exact Below.refl _ _
        · exact Lib.bytesWorld_below _ _ _
      go_wp2_with fail
      go_ret2
      exact ⟨rfl, hb⟩
    by_cases g2 : (hi : Int) < v
    · clear hc1 hc2 hp h hh hs hG
      go_enter Tryd.func22, Tryd.ntmps22
      go_wp2_with fail
      refine (P.out _).mono ?_
      rintro e w1 ⟨rfl, hb⟩
      have hb : Below w.heap.size w w1 := by
        rcases hb with rfl | ⟨t, rfl⟩
        · exact Below.refl _ _
        · exact Lib.bytesWorld_below _ _ _
      go_wp2_with fail
      go_ret2
      exact ⟨rfl, hb⟩
    obtain ⟨n, rfl⟩ : ∃ n : Nat, v = (n : Int) := ⟨v.toNat, by omega⟩
    have F := Lib.hid (Tryd.strconv_FormatInt_10_small n (by omega))
    rw [dec_dd (show n < 100 by omega)] at F
    have hne := h n (by omega) (by omega)
    have hd : decide (n < lo) = false := by simp only [decide_eq_false_iff_not]; omega
    have hd2 : decide (hi < n) = false := by simp only [decide_eq_false_iff_not]; omega
    obtain ⟨D, hD⟩ : ∃ D, (⟨(dd n).toArray⟩ : ByteArray) = D := ⟨_, rfl⟩
    rw [hD] at F
    have hne2 : (D.toList == s.toList) = false := by
      rw [beq_eq_false_iff_ne]
      intro e
      rw [ByteArray.toList_eq, ByteArray.toList_eq] at e
      rw [← hD] at e
      exact hne e
    clear hc1 hc2 hp h hh hs hG hD hne
    go_enter Tryd.func22, Tryd.ntmps22
    go_wp2_with fail
    refine (P.out _).mono ?_
    rintro e w1 ⟨rfl, hb⟩
    have hb : Below w.heap.size w w1 := by
      rcases hb with rfl | ⟨t, rfl⟩
      · exact Below.refl _ _
      · exact Lib.bytesWorld_below _ _ _
    go_wp2_with fail
    refine (F.out _).mono ?_
    rintro e w2 ⟨rfl, rfl⟩
    go_wp2_with fail
    go_ret2
    exact ⟨rfl, hb⟩
  · have P := Lib.hid (parse_bad s hs (fun v e => by rw [hp] at e; cases e) (fun e => by rw [hp] at e; cases e) _ w hc1 (.inr ⟨_, _, rfl⟩))
    clear hc1 hc2 hp h hh hs hG
    go_enter Tryd.func22, Tryd.ntmps22
    go_wp2_with fail
    refine P.out.mono ?_
    rintro e w1 ⟨N, rfl, hb⟩
    go_wp2_with fail
    go_ret2
    exact ⟨rfl, hb⟩
  · have P := Lib.hid (Tryd.strconv_ParseInt_10_at64_range s hs hp _ w hc2 (.inr ⟨_, _, rfl⟩))
    generalize Lib.intSat 64 s.data.toList = sat at P
    clear hc1 hc2 hp h hh hs hG
    go_enter Tryd.func22, Tryd.ntmps22
    go_wp2_with fail
    refine P.out.mono ?_
    rintro e w1 ⟨N, rfl, _, _, hb⟩
    go_wp2_with fail
    go_ret2
    exact ⟨rfl, hb⟩
end Go.Proofs.YtefglodkcddgiaaDoor
