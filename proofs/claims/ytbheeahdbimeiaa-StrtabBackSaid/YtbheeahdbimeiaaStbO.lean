/-
  What each call of the program's At returns. Conditions: how the argument lies, and its size.
-/
import Derived.Test.YtbheeahdbimeiaaStbL
namespace Go.Proofs.Ytbheeahdbimeiaa
open Go.RowKit Go.Shelf Go.Maps
set_option linter.unusedVariables false
set_option linter.unusedSimpArgs false

theorem idx_tk {t : List Int} {o : Nat} (h : t.getLast? = some 0) (ho : o < t.length) : idx0 (t.drop o) = ((tk t o).length : Int) := by
  unfold idx0 tk
  rw [if_pos]
  have h2 : (t.drop o).getLast? = some 0 := by rw [List.getLast?_drop, if_neg (by omega)]; exact h
  exact List.mem_of_getLast? h2
set_option maxRecDepth 100000 in
set_option maxHeartbeats 4000000 in
theorem at_any (v : Value) (T : BA) (o : Int) (w : World) (ht : BysO w v (nmOf T)) (hl : T.size ≤ 1048576) :
    Calls Try.prog 14 #[v, .int .i64 o] w (AtP w T o) := by
  have HT := Lib.hid ht
  have RC := Lib.hid (check_any v T w ht hl)
  have BI := Lib.hid (fun g off n c l W h1 h2 h3 => bidx_any g off n c l W h1 h2 h3)
  obtain ⟨aa, ca, rfl⟩ := ht.slice
  have HA := Lib.hid (show atR T o = if chkE T = 0 then (if o < 0 ∨ (T.size : Int) ≤ o then (⟨#[]⟩, 7) else (strOfNums (tk (nmOf T) o.toNat), 0)) else (⟨#[]⟩, chkE T) from rfl)
  unfold AtP
  generalize hR : atR T o = R at *
  clear hR
  have HLN := Lib.hid (nm_len T)
  have HBY := Lib.hid (nm_byte T)
  clear ht
  go_enter Try.func14, Try.ntmps14
  go_wp2_with fail
  refine RC.out.mono ?_
  rintro e w1 ⟨rfl, hb1⟩
  have HB1 := Lib.hid hb1
  clear hb1
  by_cases hE : chkE T = 0
  · have HL0 := Lib.hid (tab_last0 hE)
    rw [if_pos hE] at HA
    rw [hE]
    clear hE
    by_cases ho : o < 0 ∨ (T.size : Int) ≤ o
    · rw [if_pos ho] at HA
      rcases ho with ho | ho
      · go_wp2_with fail
        go_returns
        exact ⟨by rw [HA.out]; rfl, HB1.out⟩
      · have h0 : ¬ o < 0 := by omega
        have h1 : ((nmOf T).length : Int) ≤ o := by rw [HLN.out]; omega
        go_wp2_with fail
        go_returns
        exact ⟨by rw [HA.out]; rfl, HB1.out⟩
    · rw [if_neg ho] at HA
      obtain ⟨k, rfl⟩ : ∃ k : Nat, o = (k : Int) := ⟨o.toNat, by omega⟩
      have hk : k < (nmOf T).length := by rw [HLN.out]; omega
      obtain ⟨f1, f2, f3, f4⟩ := tk_facts HL0.out hk
      have hix := idx_tk HL0.out hk
      rw [show ((k : Int)).toNat = k by omega] at HA
      obtain ⟨g, off, rfl⟩ := slice_off HT.out (by omega)
      have hcv := conv_seg (HT.out.keep HB1.out) (show k ≤ k + (tk (nmOf T) k).length by omega) (show k + (tk (nmOf T) k).length ≤ (nmOf T).length by omega)
      rw [f3, Nat.add_sub_cancel_left] at hcv
      have hca : (nmOf T).length ≤ ca ∧ ¬ ca = k := by have := HT.out.cap; omega
      obtain ⟨hca1, hca2⟩ := hca
      have BI2 := Lib.hid (BI.out g (off + k) ((nmOf T).length - k) (ca - k) ((nmOf T).drop k) w1 (by rw [List.length_drop]) (fun b hb => HBY.out b (List.mem_of_mem_drop hb)) (fun i hi => by
        obtain ⟨g', off', cap', y, hy, hv, hg', y0⟩ := (HT.out.keep HB1.out).at (k := k + i) (by omega)
        cases hv
        rw [Nat.add_assoc, y0]
        simp [List.getD, List.getElem?_drop, hy]))
      rw [hix] at BI2
      have ls : (nmOf T).length ≤ 1048576 := by rw [HLN.out]; exact hl
      clear hix f2 f3 f4
      generalize tk (nmOf T) k = Q at *
      generalize nmOf T = t at *
      have h0 : ¬ (k : Int) < 0 := by omega
      have h1 : ¬ ((t.length : Int) ≤ (k : Int)) := by omega
      have kl : (k : Int) ≤ (t.length : Int) := by omega
      have ql : (Q.length : Int) ≤ ((ca - k : Nat) : Int) := by omega
      have q0 : (0 : Int) ≤ (Q.length : Int) := by omega
      clear ho
      go_wp2_with fail
      refine BI2.out.mono ?_
      rintro e w2 ⟨rfl, rfl⟩
      go_wp2_with fail
      go_returns
      exact ⟨by rw [HA.out]; rfl, HB1.out⟩
  · rw [if_neg hE] at HA
    have hne : (chkE T == 0) = false := not_beq hE
    have hne2 : (chkE T != 0) = true := by simp [bne, hne]
    generalize chkE T = E at *
    go_wp2_with fail
    go_returns
    exact ⟨by rw [HA.out]; rfl, HB1.out⟩
end Go.Proofs.Ytbheeahdbimeiaa
