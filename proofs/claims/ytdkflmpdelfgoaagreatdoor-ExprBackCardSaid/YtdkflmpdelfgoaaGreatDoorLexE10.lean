/-
  What each call of the library's inner ParseUint returns at base 10 and 64 bits. No conditions beyond those that each lemma states.
-/
import Derived.Test.YtdkflmpdelfgoaaGreatDoorLexE
namespace Go.Proofs.YtdkflmpdelfgoaaGreatDoor
open Go.RowKit

set_option maxHeartbeats 16000000 in
set_option maxRecDepth 100000 in
theorem iparse_10 (t : ByteArray) (hne : t.size ≠ 0) (hmax : t.size ≤ 9223372036854775806) (w : World) :
    Calls Tryz.prog 96 #[.string t, .int .i64 10, .int .i64 64] w fun e w' => e = .returned (pVal 18446744073709551615 (pF 10 18446744073709551615 0 t.data.toList)) ∧ w' = Lib.bytesWorld w 5 t := by
  have hemp : t.toList.isEmpty = false := by
    rw [← decide_eq_emptyBytes]
    exact decide_eq_false (fun h => hne (by rw [h]; rfl))
  have hcv := Lib.run_convert_string_bytes (P := Tryz.prog) w 9 51 5 t (u := .string) Tryz.underlying9 Tryz.underlying51 Tryz.underlying5
  have hB : ∀ j, j < t.size → (Lib.bytesWorld w 5 t).cell? ⟨w.heap.size, j, none⟩ = some (.int .u8 (t.data.toList.getD j 0).toNat) := fun j hj => Lib.bytesWorld_cell w 5 t j hj
  obtain ⟨W1, hW1⟩ : ∃ W1, W1 = Lib.bytesWorld w 5 t := ⟨_, rfl⟩
  rw [← hW1] at hcv hB ⊢
  clear hW1
  obtain ⟨bs, hL⟩ : ∃ bs, bs = t.data.toList := ⟨_, rfl⟩
  have hLn : bs.length = t.size := by rw [hL, size_list]
  rw [← hL] at hB ⊢
  clear hL
  have LW := Lib.hid (fun c w => Tryz.internal_strconv_lower c w)
  have hmv : IntKind.u64.wrap (IntKind.u64.wrap 18446744073709551616 - 1) = 18446744073709551615 := by
    rw [IntKind.wrap_u64, IntKind.wrap_u64]
    decide
  go_enter Tryz.func96, Tryz.ntmps96
  go_wp2
  go_loop [12, 13, 101] (fun vu vn vi => ∃ (k acc : Nat) (a : Int), vu = .bool false ∧ vn = .int .u64 a ∧ vi = .int .i64 k ∧ k ≤ t.size ∧ Hid (a = (acc : Int) ∧ acc ≤ 18446744073709551615 ∧ pF 10 18446744073709551615 0 bs = pF 10 18446744073709551615 acc (bs.drop k)))
    (fun _ _ vi => t.size - (intOf vi).toNat)
  case atStart => exact ⟨0, 0, 0, rfl, rfl, rfl, by omega, Lib.hid ⟨rfl, by omega, rfl⟩⟩
  case round =>
    obtain ⟨k, acc, a, rfl, rfl, rfl, hk, hh⟩ := hrel
    obtain ⟨ha, hacc, hdec⟩ := hh.out
    clear hh
    have a0 : 0 ≤ a := by omega
    have a1 : a ≤ 18446744073709551615 := by omega
    by_cases hkn : k < t.size
    · have hc := hB k hkn
      have hdrop : bs.drop k = bs[k]'(by omega) :: bs.drop (k + 1) := List.drop_eq_getElem_cons (by omega)
      have hget : bs.getD k 0 = bs[k]'(by omega) := by simp [List.getD, List.getElem?_eq_getElem (show k < bs.length by omega)]
      rw [hdrop] at hdec
      rw [hget] at hc
      generalize bs[k]'(by omega) = c at hc hdec
      have hlow := low_bits c
      have hways := low_ways c
      have hc256 : c.toNat < 256 := c.toNat_lt
      have hl256 : (c ||| 32).toNat < 256 := (c ||| 32).toNat_lt
      clear hB hdrop hget
      obtain ⟨l, hl⟩ : ∃ l, (c ||| 32).toNat = l := ⟨_, rfl⟩
      obtain ⟨m, hm⟩ : ∃ m, c.toNat = m := ⟨_, rfl⟩
      rw [hl] at hlow hways hl256
      rw [hm] at hlow hways hc256 hc
      clear hl hm
      have w9 : IntKind.i64.wrap ((k : Int) + 1) = ((k + 1 : Nat) : Int) := by rw [IntWalk.i64_in _ (by omega)]; omega
      rcases hways with ⟨h1, h2, hx⟩ | ⟨h1, h95, h2, h3, hx⟩ | ⟨h1, h95, h2, h3, hx⟩ | ⟨h1, h2, hx⟩
      · have i1 : 48 ≤ (m : Int) := by omega
        have i2 : (m : Int) ≤ 57 := by omega
        have b95 : ((m : Int) == 95) = false := by simp; omega
        clear hlow hl256
        by_cases hdb : m - 48 < 10
        · have hdb' : ((m : Int) - 48 : Int) < 10 := by omega
          by_cases hfar : 18446744073709551615 < acc * 10 + (m - 48)
          · have HN := Lib.hid (hdec.trans (pF_far hx hdb hfar))
            have ifar : 18446744073709551615 < a * 10 + ((m : Int) - 48) := by omega
            by_cases hcut : 1844674407370955162 ≤ a
            · clear hdec hx hfar hacc ha hdb ifar
              go_wp2_with (fail)
              go_ret2
              exact ⟨by rw [HN.out]; rfl, rfl⟩
            · have hcut' : a < 1844674407370955162 := by omega
              have hwr : IntKind.u64.wrap (a * 10 + ((m : Int) - 48)) = a * 10 + ((m : Int) - 48) - 18446744073709551616 := by
                rw [IntKind.wrap_u64]
                omega
              clear hdec hx hfar hacc ha hdb hcut ifar
              go_wp2_with (fail)
              go_ret2
              exact ⟨by rw [HN.out]; rfl, rfl⟩
          · have HN : Hid (a * 10 + ((m : Int) - 48) = ((acc * 10 + (m - 48) : Nat) : Int) ∧ acc * 10 + (m - 48) ≤ 18446744073709551615 ∧ pF 10 18446744073709551615 0 bs = pF 10 18446744073709551615 (acc * 10 + (m - 48)) (bs.drop (k + 1))) := Lib.hid ⟨by omega, by omega, hdec.trans (pF_step hx hdb hfar)⟩
            have hcut' : a < 1844674407370955162 := by omega
            have inear : a * 10 + ((m : Int) - 48) ≤ 18446744073709551615 := by omega
            clear hdec hx hfar hacc ha hdb
            go_wp2_with (fail)
            refine ⟨⟨k + 1, acc * 10 + (m - 48), a * 10 + ((m : Int) - 48), rfl, (by first | rfl | (congr 1; omega)), (by first | rfl | rw [← w9] | (congr 1; omega)), by omega, HN⟩, by simp [intOf]; omega⟩
        · exfalso; omega
      · have i1 : 65 ≤ (m : Int) := by omega
        have i2 : 97 ≤ (l : Int) := by omega
        have i3 : (l : Int) ≤ 102 := by omega
        have b95 : ((m : Int) == 95) = false := by simp; omega
        by_cases hdb : l - 87 < 10
        · exfalso; omega
        · have HN := Lib.hid (hdec.trans (pF_none (fun d' e => by rw [hx] at e; cases e; exact hdb)))
          have hdb' : 10 ≤ ((l : Int) - 97 + 10 : Int) := by omega
          clear hdec hx hacc ha hdb
          go_wp2_with ((with_reducible refine (LW.out _ _).mono ?_); rintro e w' ⟨rfl, rfl⟩)
          go_ret2
          exact ⟨by rw [HN.out]; rfl, rfl⟩
      · have HN := Lib.hid (hdec.trans (pF_none (fun d' e => by rw [hx] at e; cases e)))
        have i1 : 65 ≤ (m : Int) := by omega
        have i2 : 103 ≤ (l : Int) := by omega
        have i3 : (l : Int) ≤ 122 := by omega
        have b95 : ((m : Int) == 95) = false := by simp; omega
        clear hdec hx hacc ha
        go_wp2_with ((with_reducible refine (LW.out _ _).mono ?_); rintro e w' ⟨rfl, rfl⟩)
        go_ret2
        exact ⟨by rw [HN.out]; rfl, rfl⟩
      · have HN := Lib.hid (hdec.trans (pF_none (fun d' e => by rw [hx] at e; cases e)))
        have j1 : (m : Int) < 48 ∨ 57 < (m : Int) := by omega
        have j2 : (l : Int) < 97 ∨ 122 < (l : Int) := by omega
        obtain ⟨x95, b95⟩ : ∃ x, ((m : Int) == 95) = x := ⟨_, rfl⟩
        clear hdec hx hacc ha h1 h2
        cases x95 <;> rcases j1 with j1 | j1 <;> rcases j2 with j2 | j2
        all_goals
          go_wp2_with ((with_reducible refine (LW.out _ _).mono ?_); rintro e w' ⟨rfl, rfl⟩)
          go_ret2
          exact ⟨by rw [HN.out]; rfl, rfl⟩
    · obtain rfl : k = t.size := by omega
      have HN := Lib.hid (hdec.trans (show pF 10 18446744073709551615 acc (bs.drop t.size) = some (some acc) by rw [List.drop_eq_nil_of_le (by omega)]; rfl))
      have HA := Lib.hid ha
      clear hacc hdec ha
      go_wp2
      go_ret2
      exact ⟨by rw [HN.out, HA.out]; rfl, rfl⟩
end Go.Proofs.YtdkflmpdelfgoaaGreatDoor
