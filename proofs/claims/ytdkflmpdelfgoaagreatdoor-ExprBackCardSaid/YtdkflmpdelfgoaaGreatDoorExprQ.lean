/-
  Print: what each call returns. Conditions: what the variables hold (GoodE), and the sizes that each lemma states.
-/
import Derived.Test.YtdkflmpdelfgoaaGreatDoorExprP
namespace Go.Proofs.YtdkflmpdelfgoaaGreatDoor
open Go.RowKit Go.Shelf
set_option linter.unusedVariables false
attribute [local go_sem] Oper.semAt_some

def pvOk (v : V3) : Bool := partB v.2.1 && partB v.2.2 && (decide (v.2.1 = E0) || !decide (v.2.1 = v.2.2))
def printV (v : V3) : BA × Int := if pvOk v = true then (⟨(vtB v).toArray⟩, 0) else (E0, 90)
def PV (r : BA × Int) : Value := .tuple #[.string r.1, .int .i64 r.2]
theorem partB_size {s : BA} (h : partB s = true) : s.size ≤ 512 := by
  unfold partB at h
  rcases Bool.or_eq_true _ _ ▸ h with h | h
  · rw [of_decide_eq_true h]; decide
  · simp only [symB, Bool.and_eq_true, decide_eq_true_eq] at h
    rw [size_list]; exact h.1
theorem lists_ne {p m : BA} (h : p ≠ m) : (p.toList == m.toList) = false := by
  rw [beq_eq_false_iff_ne]
  intro e
  rw [ByteArray.toList_eq, ByteArray.toList_eq] at e
  exact h (ByteArray.ext (Array.ext' e))
set_option maxRecDepth 100000 in
set_option maxHeartbeats 8000000 in
theorem print_any (v : V3) (w : World) (hG : GoodE w) (h0 : -9223372036854775808 ≤ v.1) (h1 : v.1 ≤ 9223372036854775807) (hp : v.2.1.size ≤ maxLen) (hm : v.2.2.size ≤ maxLen) :
    Calls Tryz.prog 12 #[vlV v] w fun e w' => e = .returned (PV (printV v)) ∧ Below w.heap.size w w' := by
  have GD := Lib.hid (fun V (hb : Below w.heap.size w V) => hG.thn hb)
  have VTX := Lib.hid (fun V (hb : Below w.heap.size w V) hp hm => valueText_any v V (hG.thn hb) h0 h1 hp hm)
  obtain ⟨n, p, m⟩ := v
  simp only at h0 h1 hp hm VTX
  have IP := Lib.hid (fun V => isPart_any p V hp)
  have IM := Lib.hid (fun V => isPart_any m V hm)
  unfold printV pvOk vlV at *
  simp only at *
  clear hG h0 h1 hp hm
  cases hbp : partB p with
  | false =>
    rw [hbp] at IP
    go_enter Tryz.func12, Tryz.ntmps12
    go_wp2_with fail
    refine (IP.out _).mono ?_
    rintro e w1 ⟨rfl, rfl⟩
    go_wp2_with fail
    go_ret2
    exact ⟨rfl, below1 w _⟩
  | true =>
    have HSP := Lib.hid (partB_size hbp)
    rw [hbp] at IP
    cases hbm : partB m with
    | false =>
      rw [hbm] at IM
      go_enter Tryz.func12, Tryz.ntmps12
      go_wp2_with fail
      refine (IP.out _).mono ?_
      rintro e w1 ⟨rfl, rfl⟩
      go_wp2_with fail
      refine (IM.out _).mono ?_
      rintro e w1 ⟨rfl, rfl⟩
      go_wp2_with fail
      go_ret2
      exact ⟨rfl, below1 w _⟩
    | true =>
      have HSM := Lib.hid (partB_size hbm)
      rw [hbm] at IM
      by_cases ep : p = E0
      · subst ep
        rw [decide_eq_true rfl]
        go_enter Tryz.func12, Tryz.ntmps12
        go_wp2_with fail
        refine (IP.out _).mono ?_
        rintro e w1 ⟨rfl, rfl⟩
        go_wp2_with fail
        refine (IM.out _).mono ?_
        rintro e w1 ⟨rfl, rfl⟩
        go_wp2_with fail
        refine (VTX.out _ (below1 w _) HSP.out HSM.out).mono ?_
        rintro e w2 ⟨rfl, hb⟩
        have HB := Lib.hid (Below.thn (below1 w (.cells #[.int .i64 n, .string E0, .string m] 36)) (by simp) hb)
        clear hb
        go_wp2_with fail
        go_ret2
        exact ⟨rfl, HB.out⟩
      · have ep' := lit_no (l := []) ep
        by_cases epm : p = m
        · subst epm
          go_enter Tryz.func12, Tryz.ntmps12
          go_wp2_with fail
          refine (IP.out _).mono ?_
          rintro e w1 ⟨rfl, rfl⟩
          go_wp2_with fail
          refine (IP.out _).mono ?_
          rintro e w1 ⟨rfl, rfl⟩
          go_wp2_with fail
          all_goals (go_ret2; exact ⟨rfl, below1 w _⟩)
        · have e3 := lists_ne epm
          go_enter Tryz.func12, Tryz.ntmps12
          go_wp2_with fail
          refine (IP.out _).mono ?_
          rintro e w1 ⟨rfl, rfl⟩
          go_wp2_with fail
          refine (IM.out _).mono ?_
          rintro e w1 ⟨rfl, rfl⟩
          go_wp2_with fail
          refine (VTX.out _ (below1 w _) HSP.out HSM.out).mono ?_
          rintro e w2 ⟨rfl, hb⟩
          have HB := Lib.hid (Below.thn (below1 w (.cells #[.int .i64 n, .string p, .string m] 36)) (by simp) hb)
          clear hb
          go_wp2_with fail
          all_goals (go_ret2; exact ⟨rfl, HB.out⟩)
end Go.Proofs.YtdkflmpdelfgoaaGreatDoor
