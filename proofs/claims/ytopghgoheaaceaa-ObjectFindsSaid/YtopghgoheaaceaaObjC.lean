/-
  What each call of isSectionName, isSymbolName and of the document's name returns. No conditions beyond the sizes that each lemma states.
-/
import Derived.Test.YtopghgoheaaceaaObjA
namespace Go.Proofs.Ytopghgoheaaceaa
open Go.RowKit
set_option linter.unusedVariables false
set_option linter.unusedSimpArgs false

theorem get_list {s : ByteArray} {k : Nat} (h : k < s.size) : s[k] = s.data.toList[k]'(by rw [← size_list]; exact h) := by
  show s.data[k] = _
  simp
theorem all_take {l : List UInt8} {p : UInt8 → Bool} {k : Nat} (hk : k < l.length) (h : (l.take k).all p = true) : (l.take (k + 1)).all p = p l[k] := by
  rw [List.take_succ_eq_append_getElem hk, List.all_append, h]; simp
theorem all_false {l : List UInt8} {p : UInt8 → Bool} {k : Nat} (hk : k < l.length) (h : p l[k] = false) : l.all p = false := by
  rw [← Bool.not_eq_true, List.all_eq_true]
  intro f
  rw [f _ (List.getElem_mem hk)] at h; cases h
def seeB (c : UInt8) : Bool := decide (33 ≤ (c.toNat : Int)) && decide ((c.toNat : Int) ≤ 126)
def secName (n : BA) : Bool := n.data.toList.all seeB && (decide (1 ≤ (n.size : Int)) && decide ((n.size : Int) ≤ 32))
def nzB (c : UInt8) : Bool := !((c.toNat : Int) == 0)
def symName (n : BA) : Bool := n.data.toList.all nzB && (decide (1 ≤ (n.size : Int)) && decide ((n.size : Int) ≤ 255))
set_option maxHeartbeats 1000000 in
theorem secName_any (s : BA) (w : World) (hs : s.size ≤ 281474976710656) :
    Calls Try.prog 81 #[.string s] w fun e w' => e = .returned (.bool (secName s)) ∧ w = w' := by
  have E : Hid (secName s = (s.data.toList.all seeB && (decide (1 ≤ (s.size : Int)) && decide ((s.size : Int) ≤ 32)))) := Lib.hid rfl
  generalize secName s = R at *
  go_enter Try.func81, Try.ntmps81
  go_wp2_with fail
  go_loop [6] (fun i => ∃ k : Nat, k ≤ s.size ∧ i = .int .i64 (k : Int) ∧ Hid ((s.data.toList.take k).all seeB = true)) (fun i => s.size - (intOf i).toNat)
  case atStart => exact ⟨0, Nat.zero_le _, rfl, Lib.hid rfl⟩
  case round =>
    obtain ⟨k, hk, rfl, hrun⟩ := hrel
    by_cases hlt : k < s.size
    · have w9 : IntKind.i64.wrap ((k : Int) + 1) = ((k + 1 : Nat) : Int) := by rw [IntWalk.i64_in _ (by omega)]; omega
      have HA := Lib.hid (all_take (p := seeB) (by rw [← size_list]; exact hlt) hrun.out)
      have HF := Lib.hid (fun h => all_false (l := s.data.toList) (p := seeB) (k := k) (by rw [← size_list]; exact hlt) h)
      rw [← get_list hlt] at HA HF
      have HS : Hid (seeB s[k] = (decide (33 ≤ (s[k].toNat : Int)) && decide ((s[k].toNat : Int) ≤ 126))) := Lib.hid rfl
      by_cases h1 : (s[k].toNat : Int) < 33
      · have HR := Lib.hid (HF.out (HS.out.trans (by rw [decide_eq_false (by omega)]; rfl)))
        clear hrun HA HF HS
        go_wp2_with fail
        go_ret
        exact ⟨ret1b (by rw [E.out, HR.out]; rfl), rfl⟩
      · by_cases h2 : 126 < (s[k].toNat : Int)
        · have HR := Lib.hid (HF.out (HS.out.trans (by rw [decide_eq_false (show ¬ (s[k].toNat : Int) ≤ 126 by omega), Bool.and_false])))
          clear hrun HA HF HS
          go_wp2_with fail
          go_ret
          exact ⟨ret1b (by rw [E.out, HR.out]; rfl), rfl⟩
        · have HN := Lib.hid (HA.out.trans (HS.out.trans (by rw [decide_eq_true (by omega), decide_eq_true (by omega), Bool.and_self])))
          clear hrun HA HF HS
          go_wp2_with fail
          go_round
          case rel => exact ⟨k + 1, by omega, by first | rfl | rw [← w9], HN⟩
          case measure => simp [intOf]; omega
    · have HR := Lib.hid (show s.data.toList.all seeB = true by
        have := hrun.out
        rw [List.take_of_length_le (by rw [← size_list]; omega)] at this
        exact this)
      clear hrun
      by_cases h1 : 1 ≤ (s.size : Int)
      · have E2 := Lib.hid (E.out.trans (by rw [HR.out, decide_eq_true h1, Bool.true_and, Bool.true_and]))
        go_wp2_with fail
        go_ret
        exact ⟨ret1b (by rw [E2.out]), rfl⟩
      · have E2 := Lib.hid (E.out.trans (by rw [HR.out, decide_eq_false h1, Bool.true_and, Bool.false_and]))
        go_wp2_with fail
        go_ret
        exact ⟨ret1b (by rw [E2.out]), rfl⟩
set_option maxHeartbeats 1000000 in
theorem rname_any (s : BA) (w : World) (hs : s.size ≤ 281474976710656) :
    Calls Try.prog 69 #[.string s] w fun e w' => e = .returned (.bool (secName s)) ∧ w = w' := by
  have E : Hid (secName s = (s.data.toList.all seeB && (decide (1 ≤ (s.size : Int)) && decide ((s.size : Int) ≤ 32)))) := Lib.hid rfl
  generalize secName s = R at *
  go_enter Try.func69, Try.ntmps69
  go_wp2_with fail
  go_loop [3] (fun i => ∃ k : Nat, k ≤ s.size ∧ i = .int .i64 (k : Int) ∧ Hid ((s.data.toList.take k).all seeB = true)) (fun i => s.size - (intOf i).toNat)
  case atStart => exact ⟨0, Nat.zero_le _, rfl, Lib.hid rfl⟩
  case round =>
    obtain ⟨k, hk, rfl, hrun⟩ := hrel
    by_cases hlt : k < s.size
    · have w9 : IntKind.i64.wrap ((k : Int) + 1) = ((k + 1 : Nat) : Int) := by rw [IntWalk.i64_in _ (by omega)]; omega
      have HA := Lib.hid (all_take (p := seeB) (by rw [← size_list]; exact hlt) hrun.out)
      have HF := Lib.hid (fun h => all_false (l := s.data.toList) (p := seeB) (k := k) (by rw [← size_list]; exact hlt) h)
      rw [← get_list hlt] at HA HF
      have HS : Hid (seeB s[k] = (decide (33 ≤ (s[k].toNat : Int)) && decide ((s[k].toNat : Int) ≤ 126))) := Lib.hid rfl
      by_cases h1 : (s[k].toNat : Int) < 33
      · have HR := Lib.hid (HF.out (HS.out.trans (by rw [decide_eq_false (by omega)]; rfl)))
        clear hrun HA HF HS
        go_wp2_with fail
        go_ret
        exact ⟨ret1b (by rw [E.out, HR.out]; rfl), rfl⟩
      · by_cases h2 : 126 < (s[k].toNat : Int)
        · have HR := Lib.hid (HF.out (HS.out.trans (by rw [decide_eq_false (show ¬ (s[k].toNat : Int) ≤ 126 by omega), Bool.and_false])))
          clear hrun HA HF HS
          go_wp2_with fail
          go_ret
          exact ⟨ret1b (by rw [E.out, HR.out]; rfl), rfl⟩
        · have HN := Lib.hid (HA.out.trans (HS.out.trans (by rw [decide_eq_true (by omega), decide_eq_true (by omega), Bool.and_self])))
          clear hrun HA HF HS
          go_wp2_with fail
          go_round
          case rel => exact ⟨k + 1, by omega, by first | rfl | rw [← w9], HN⟩
          case measure => simp [intOf]; omega
    · have HR := Lib.hid (show s.data.toList.all seeB = true by
        have := hrun.out
        rw [List.take_of_length_le (by rw [← size_list]; omega)] at this
        exact this)
      clear hrun
      by_cases h1 : 1 ≤ (s.size : Int)
      · have E2 := Lib.hid (E.out.trans (by rw [HR.out, decide_eq_true h1, Bool.true_and, Bool.true_and]))
        go_wp2_with fail
        go_ret
        exact ⟨ret1b (by rw [E2.out]), rfl⟩
      · have E2 := Lib.hid (E.out.trans (by rw [HR.out, decide_eq_false h1, Bool.true_and, Bool.false_and]))
        go_wp2_with fail
        go_ret
        exact ⟨ret1b (by rw [E2.out]), rfl⟩
set_option maxHeartbeats 1000000 in
theorem symName_any (s : BA) (w : World) (hs : s.size ≤ 281474976710656) :
    Calls Try.prog 62 #[.string s] w fun e w' => e = .returned (.bool (symName s)) ∧ w = w' := by
  have E : Hid (symName s = (s.data.toList.all nzB && (decide (1 ≤ (s.size : Int)) && decide ((s.size : Int) ≤ 255)))) := Lib.hid rfl
  generalize symName s = R at *
  go_enter Try.func62, Try.ntmps62
  go_wp2_with fail
  go_loop [6] (fun i => ∃ k : Nat, k ≤ s.size ∧ i = .int .i64 (k : Int) ∧ Hid ((s.data.toList.take k).all nzB = true)) (fun i => s.size - (intOf i).toNat)
  case atStart => exact ⟨0, Nat.zero_le _, rfl, Lib.hid rfl⟩
  case round =>
    obtain ⟨k, hk, rfl, hrun⟩ := hrel
    by_cases hlt : k < s.size
    · have w9 : IntKind.i64.wrap ((k : Int) + 1) = ((k + 1 : Nat) : Int) := by rw [IntWalk.i64_in _ (by omega)]; omega
      have HA := Lib.hid (all_take (p := nzB) (by rw [← size_list]; exact hlt) hrun.out)
      have HF := Lib.hid (fun h => all_false (l := s.data.toList) (p := nzB) (k := k) (by rw [← size_list]; exact hlt) h)
      rw [← get_list hlt] at HA HF
      have HS : Hid (nzB s[k] = !((s[k].toNat : Int) == 0)) := Lib.hid rfl
      cases h1 : ((s[k].toNat : Int) == 0) with
      | true =>
        have HR := Lib.hid (HF.out (HS.out.trans (by rw [h1]; rfl)))
        clear hrun HA HF HS
        go_wp2_with fail
        go_ret
        exact ⟨ret1b (by rw [E.out, HR.out]; rfl), rfl⟩
      | false =>
        have HN := Lib.hid (HA.out.trans (HS.out.trans (by rw [h1, Bool.not_false])))
        clear hrun HA HF HS
        go_wp2_with fail
        go_round
        case rel => exact ⟨k + 1, by omega, by first | rfl | rw [← w9], HN⟩
        case measure => simp [intOf]; omega
    · have HR := Lib.hid (show s.data.toList.all nzB = true by
        have := hrun.out
        rw [List.take_of_length_le (by rw [← size_list]; omega)] at this
        exact this)
      clear hrun
      by_cases h1 : 1 ≤ (s.size : Int)
      · have E2 := Lib.hid (E.out.trans (by rw [HR.out, decide_eq_true h1, Bool.true_and, Bool.true_and]))
        go_wp2_with fail
        go_ret
        exact ⟨ret1b (by rw [E2.out]), rfl⟩
      · have E2 := Lib.hid (E.out.trans (by rw [HR.out, decide_eq_false h1, Bool.true_and, Bool.false_and]))
        go_wp2_with fail
        go_ret
        exact ⟨ret1b (by rw [E2.out]), rfl⟩
end Go.Proofs.Ytopghgoheaaceaa
