/-
  What each call of the document's symbol returns. Conditions: how the sections lie, the name's size.
-/
import Derived.Test.YtopghgoheaaceaaObjH
namespace Go.Proofs.Ytopghgoheaaceaa
open Go.RowKit
set_option linter.unusedVariables false
set_option linter.unusedSimpArgs false

set_option maxHeartbeats 8000000 in
theorem rsymbol_any (y : Sy) (v : Value) (l : List Sc) (w : World) (hl : SecsO w v l) (hn : y.name.size ≤ 281474976710656) :
    Calls Try.prog 44 #[syV y, v] w fun e w' => e = .returned (.bool (symOk y l)) ∧ Below w.heap.size w w' := by
  have ES : symOk y l = (symName y.name && stands y l) := rfl
  have E := stands_e y l
  generalize stands y l = R at *
  generalize symOk y l = R2 at *
  obtain ⟨name, sec, val, gl⟩ := y
  unfold syV
  simp only at E ES hn ⊢
  have EN : symName name = (name.data.toList.all nzB && (decide (1 ≤ (name.size : Int)) && decide ((name.size : Int) ≤ 255))) := rfl
  generalize symName name = R1 at *
  have HL := Lib.hid hl
  have hlen := hl.len
  unfold maxLen at hlen
  obtain ⟨al, cl, rfl⟩ := hl.slice
  clear hl
  obtain ⟨W1, hW1⟩ : ∃ W1, w.alloc (.cells #[.string name, .int .i64 sec, .int .i64 val, .bool gl] 36) = W1 := ⟨_, rfl⟩
  have HB1 : Hid (Below w.heap.size w W1) := Lib.hid (by rw [← hW1]; exact below1 w _)
  have c0 : W1.cell? ⟨w.heap.size, 0, none⟩ = some (.string name) := by rw [← hW1]; exact cells_new w _ _ 0 _ rfl
  have c1 : W1.cell? ⟨w.heap.size, 1, none⟩ = some (.int .i64 sec) := by rw [← hW1]; exact cells_new w _ _ 1 _ rfl
  have c2 : W1.cell? ⟨w.heap.size, 2, none⟩ = some (.int .i64 val) := by rw [← hW1]; exact cells_new w _ _ 2 _ rfl
  have c3 : W1.cell? ⟨w.heap.size, 3, none⟩ = some (.bool gl) := by rw [← hW1]; exact cells_new w _ _ 3 _ rfl
  by_cases s1 : (name.size : Int) < 1
  · have HE := Lib.hid (show R2 = false by rw [ES, EN, decide_eq_false (show ¬ 1 ≤ (name.size : Int) by omega), Bool.false_and, Bool.and_false, Bool.false_and])
    replace s1 := decide_eq_true s1
    clear E ES EN
    go_enter Try.func44, Try.ntmps44
    go_wp2_with fail
    go_ret
    exact ⟨ret1b (by rw [HE.out]), HB1.out⟩
  by_cases s2 : (255 : Int) < (name.size : Int)
  · have HE := Lib.hid (show R2 = false by rw [ES, EN, decide_eq_false (show ¬ (name.size : Int) ≤ 255 by omega), Bool.and_false, Bool.and_false, Bool.false_and])
    replace s1 := decide_eq_false s1
    clear E ES EN
    go_enter Try.func44, Try.ntmps44
    go_wp2_with fail
    go_ret
    exact ⟨ret1b (by rw [HE.out]), HB1.out⟩
  rw [decide_eq_true (show 1 ≤ (name.size : Int) by omega), decide_eq_true (show (name.size : Int) ≤ 255 by omega), Bool.true_and, Bool.and_true] at EN
  have HES := Lib.hid ES
  have HEN := Lib.hid EN
  have HEE := Lib.hid E
  clear E ES EN
  go_enter Try.func44, Try.ntmps44
  go_wp2_with fail
  clear hW1
  go_loop [5] (fun i => ∃ k : Nat, k ≤ name.size ∧ i = .int .i64 (k : Int) ∧ Hid ((name.data.toList.take k).all nzB = true)) (fun i => name.size - (intOf i).toNat)
  case atStart => exact ⟨0, Nat.zero_le _, rfl, Lib.hid rfl⟩
  case round =>
    obtain ⟨k, hk, rfl, hrun⟩ := hrel
    by_cases hlt : k < name.size
    · have w9 : IntKind.i64.wrap ((k : Int) + 1) = ((k + 1 : Nat) : Int) := by rw [IntWalk.i64_in _ (by omega)]; omega
      have HA := Lib.hid (all_take (p := nzB) (by rw [← size_list]; exact hlt) hrun.out)
      have HF := Lib.hid (fun h => all_false (l := name.data.toList) (p := nzB) (k := k) (by rw [← size_list]; exact hlt) h)
      rw [← get_list hlt] at HA HF
      have HS : Hid (nzB name[k] = !((name[k].toNat : Int) == 0)) := Lib.hid rfl
      cases h1 : ((name[k].toNat : Int) == 0) with
      | true =>
        have HR := Lib.hid (HF.out (HS.out.trans (by rw [h1]; rfl)))
        have HE := Lib.hid (show R2 = false by rw [HES.out, HEN.out, HR.out, Bool.false_and])
        clear hrun HA HF HS
        go_wp2_with fail
        go_ret
        exact ⟨ret1b (by rw [HE.out]), HB1.out⟩
      | false =>
        have HN := Lib.hid (HA.out.trans (HS.out.trans (by rw [h1, Bool.not_false])))
        clear hrun HA HF HS
        go_wp2_with fail
        go_round
        case rel => exact ⟨k + 1, by omega, by first | rfl | rw [← w9], HN⟩
        case measure => simp [intOf]; omega
    · have HR := Lib.hid (show name.data.toList.all nzB = true by
        have := hrun.out
        rw [List.take_of_length_le (by rw [← size_list]; omega)] at this
        exact this)
      have E : R2 = R := by rw [HES.out, HEN.out, HR.out, Bool.true_and]
      rw [HEE.out] at E
      clear hrun HEE HES HEN
      have hkn : ¬ (k : Int) < (name.size : Int) := by omega
      by_cases h2 : sec = -2
      · subst h2
        have HE := Lib.hid (E.trans (if_pos rfl))
        clear E
        go_wp2_with fail
        go_ret
        exact ⟨ret1b (by rw [HE.out]), HB1.out⟩
      rw [if_neg h2] at E
      by_cases h1 : sec = -1
      · subst h1
        rw [if_pos rfl] at E
        have HE := Lib.hid E
        clear E h2
        cases gl with
        | false =>
          go_wp2_with fail
          go_ret
          exact ⟨ret1b (by rw [HE.out]; try rfl), HB1.out⟩
        | true =>
          go_wp2_with fail
          go_ret
          exact ⟨ret1b (by rw [HE.out]; try rfl), HB1.out⟩
      rw [if_neg h1] at E
      have b2 : (sec == -2) = false := by simpa using h2
      have b1 : (sec == -1) = false := by simpa using h1
      clear h1 h2
      by_cases n0 : 0 ≤ sec
      · by_cases n1 : sec < (l.length : Int)
        · have n4 : numOk sec (l.length : Int) = true := by unfold numOk; rw [decide_eq_true n0, decide_eq_true n1]; rfl
          rw [n4, Bool.true_and] at E
          obtain ⟨q, rfl⟩ : ∃ q : Nat, sec = (q : Int) := ⟨sec.toNat, by omega⟩
          have hq : q < l.length := by omega
          obtain ⟨g, off, cap, s, hs, hv, hg, _, x0, x1, x2, x3, x4, x5⟩ := (HL.out.keep HB1.out).at hq
          cases hv
          have hsz : szAt l (q : Int) = s.size := by unfold szAt; rw [Int.toNat_natCast, hs]
          rw [hsz] at E
          obtain ⟨Z, hZ⟩ : ∃ Z, s.size = Z := ⟨_, rfl⟩
          rw [hZ] at E x3
          have nn : (0 : Int) ≤ (q : Int) := by omega
          clear n4 hsz x0 x1 x2 x4 x5 hs hZ n0
          by_cases h0 : 0 ≤ val
          · rw [decide_eq_true h0, Bool.true_and] at E
            replace h0 := decide_eq_true h0
            have HE := Lib.hid E
            clear E
            go_wp2_with fail
            go_quiet (fail)
            go_wp2_with fail
            go_ret
            exact ⟨ret1b (by rw [HE.out]), below_drewN HB1.out _⟩
          · rw [decide_eq_false h0, Bool.false_and] at E
            replace h0 := decide_eq_false h0
            have HE := Lib.hid E
            clear E
            go_wp2_with fail
            go_quiet (fail)
            go_wp2_with fail
            go_ret
            exact ⟨ret1b (by rw [HE.out]), below_drewN HB1.out _⟩
        · have n4 : numOk sec (l.length : Int) = false := by unfold numOk; rw [decide_eq_false n1, Bool.and_false]
          rw [n4, Bool.false_and] at E
          have HE := Lib.hid E
          replace n1 := decide_eq_false n1
          replace n0 := decide_eq_true n0
          clear E n4
          go_wp2_with fail
          go_quiet (fail)
          go_wp2_with fail
          go_ret
          exact ⟨ret1b (by rw [HE.out]), below_drewN HB1.out _⟩
      · have n4 : numOk sec (l.length : Int) = false := by unfold numOk; rw [decide_eq_false n0, Bool.false_and]
        rw [n4, Bool.false_and] at E
        have HE := Lib.hid E
        replace n0 := decide_eq_false n0
        clear E n4
        go_wp2_with fail
        go_quiet (fail)
        go_wp2_with fail
        go_ret
        exact ⟨ret1b (by rw [HE.out]), below_drewN HB1.out _⟩
end Go.Proofs.Ytopghgoheaaceaa
