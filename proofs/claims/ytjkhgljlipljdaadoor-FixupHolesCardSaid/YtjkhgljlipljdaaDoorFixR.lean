/-
  The document's row of all holes; slices.Equal at holes. No conditions beyond those that each lemma states.
-/
import Derived.Test.YtjkhgljlipljdaaDoorFixQ
namespace Go.Proofs.YtjkhgljlipljdaaDoor
open Go.RowKit
set_option linter.unusedVariables false
set_option linter.unusedSimpArgs false

def cnt (k s : Nat) : Nat := idx k (min s (nS k))
theorem nS_le (k : Nat) : nS k ≤ 4 := by unfold nS; split <;> omega
theorem cnt_next {k s : Nat} (h1 : k < 13) (h2 : 1 ≤ k) (h3 : s < nS k) : cnt k (s + 1) = cnt k s + 1 ∧ flatH (holesL.take (cnt k (s + 1))) = flatH (holesL.take (cnt k s)) ++ hC (k, s) := by
  have e1 : cnt k s = idx k s := by unfold cnt; rw [Nat.min_eq_left (by omega)]
  have e2 : cnt k (s + 1) = idx k (s + 1) := by unfold cnt; rw [Nat.min_eq_left (by omega)]
  rw [e1, e2]
  exact ⟨rfl, by rw [← idx_take h1 h2 h3, flatH_snoc]⟩
theorem cnt_skip {k s : Nat} (h3 : nS k ≤ s) : cnt k (s + 1) = cnt k s := by
  unfold cnt; rw [Nat.min_eq_right (by omega), Nat.min_eq_right h3]
theorem cnt_end {k : Nat} (h1 : k < 13) (h2 : 1 ≤ k) : cnt k 4 = cnt (k + 1) 0 := by
  unfold cnt; rw [Nat.min_eq_right (nS_le k), idx_end k h1 h2, Nat.zero_min]
theorem cnt_le {k s : Nat} (h1 : k < 13) (h2 : 1 ≤ k) (h3 : s < nS k) : cnt k s < 15 := by
  have e1 : cnt k s = idx k s := by unfold cnt; rw [Nat.min_eq_left (by omega)]
  rw [e1]; exact idx_lt k h1 s (by have := nS_le k; omega) h2 h3
set_option maxRecDepth 100000 in
set_option maxHeartbeats 8000000 in
theorem rholes_any (w : World) :
    Calls Tryd.prog 21 #[] w fun e w' => (∃ v, e = .returned v ∧ w'.ownsRow w.heap.size 25 5 v holesL.length (flatH holesL)) ∧ Below w.heap.size w w' := by
  obtain ⟨i0, hi, hz0', hz1, hz2⟩ := info_parts infoHl
  go_enter Tryd.func21, Tryd.ntmps21
  go_wp2_with fail
  go_loopw [1, 2] (fun lv kv wr => ∃ k : Nat, 1 ≤ k ∧ k ≤ 13 ∧ kv = .int .i64 (k : Int) ∧ (∃ a c, lv = .slice a (cnt k 0) c) ∧ Hid (wr.ownsRow w.heap.size 25 5 lv (cnt k 0) (flatH (holesL.take (cnt k 0)))) ∧ Hid (Below w.heap.size w wr)) (fun lv kv _ => 14 - (intOf kv).toNat)
  case atStart => exact ⟨1, by decide, by decide, rfl, ⟨_, _, rfl⟩, Lib.hid (World.ownsRow_nil _ _ _ _), Lib.hid (Below.refl _ _)⟩
  case round =>
    obtain ⟨k, hk1, hk2, rfl, ⟨la, lc, rfl⟩, HROW, HBR⟩ := hrel
    by_cases hlt' : k < 13
    · have hlt : (k : Int) ≤ 12 := by omega
      have w9 : IntKind.i64.wrap ((k : Int) + 1) = ((k + 1 : Nat) : Int) := by rw [IntWalk.i64_in _ (by omega)]; omega
      go_wp2_with fail
      go_loopw [1, 3] (fun lv sv wr => ∃ s : Nat, s ≤ 4 ∧ sv = .int .i64 (s : Int) ∧ (∃ a c, lv = .slice a (cnt k s) c) ∧ Hid (wr.ownsRow w.heap.size 25 5 lv (cnt k s) (flatH (holesL.take (cnt k s)))) ∧ Hid (Below w.heap.size w wr)) (fun lv sv _ => 5 - (intOf sv).toNat)
      case atStart => exact ⟨0, by decide, rfl, ⟨_, _, rfl⟩, HROW, HBR⟩
      case round =>
        obtain ⟨s, hs, rfl, ⟨la, lc, rfl⟩, HROW, HBR⟩ := hrel
        by_cases hst' : s < 4
        · have hst : (s : Int) < 4 := by omega
          have w8 : IntKind.i64.wrap ((s : Int) + 1) = ((s + 1 : Nat) : Int) := by rw [IntWalk.i64_in _ (by omega)]; omega
          have hin : s < nS k ∨ (nS k ≤ s ∧ s ≠ 0 ∧ k ≠ 9) := by unfold nS; split <;> omega
          rcases hin with hin | ⟨hin, hs0, hk9⟩
          · obtain ⟨en, ef⟩ := cnt_next hlt' hk1 hin
            have hle := cnt_le hlt' hk1 hin
            have HEF := Lib.hid ef
            have HEN := Lib.hid en
            have hor : s = 0 ∨ (s ≠ 0 ∧ k = 9) := by unfold nS at hin; split at hin <;> omega
            have hz := HBR.out.size
            clear ef en
            rcases hor with rfl | ⟨hs0, hk9⟩
            · go_wp2_with (at_builtin; refine wpList_append_own _ rfl _ _ 38 rfl w.heap.size 25 i0 (.agg #[.int .i64 0, .int .i64 0, .int .i64 0, .string ⟨#[]⟩, .string ⟨#[]⟩]) 5 56 Tryd.underlying38 hi hz0' hz1 hz2 rfl (by decide) _ _ _ rfl (own_keep HROW.out (below1 wr _)) ⟨wr.heap.size, 0, none⟩ 1 1 (hC (k, 0)) rfl rfl (cell_five_new _ _ _ _ _ _ _) (by simp [Value.oneCell', hC]) (by unfold maxLen; omega) (by omega) (by simp; omega) ?_; intro v' w3 hown3 hgrow3 _; obtain ⟨ub, uc, rfl⟩ := own_sliceN hown3)
              have HB3 := Lib.hid (show Below w.heap.size w w3 from (HBR.out.alloc HBR.out.size _).grown hgrow3 (by simp; omega) (fun q hq => (HROW.out.lt q hq).1))
              exact ⟨⟨1, by omega, rfl, ⟨_, _, by rw [HEN.out]⟩, Lib.hid (by rw [HEF.out, HEN.out]; exact hown3), HB3⟩, by simp [intOf]⟩
            · have b0 : ((s : Int) == 0) = false := not_beq (by omega)
              have b9 : ((k : Int) == 9) = true := by rw [hk9]; rfl
              clear hk9
              go_wp2_with (at_builtin; refine wpList_append_own _ rfl _ _ 38 rfl w.heap.size 25 i0 (.agg #[.int .i64 0, .int .i64 0, .int .i64 0, .string ⟨#[]⟩, .string ⟨#[]⟩]) 5 56 Tryd.underlying38 hi hz0' hz1 hz2 rfl (by decide) _ _ _ rfl (own_keep HROW.out (below1 wr _)) ⟨wr.heap.size, 0, none⟩ 1 1 (hC (k, s)) rfl rfl (cell_five_new _ _ _ _ _ _ _) (by simp [Value.oneCell', hC]) (by unfold maxLen; omega) (by omega) (by simp; omega) ?_; intro v' w3 hown3 hgrow3 _; obtain ⟨ub, uc, rfl⟩ := own_sliceN hown3)
              have HB3 := Lib.hid (show Below w.heap.size w w3 from (HBR.out.alloc HBR.out.size _).grown hgrow3 (by simp; omega) (fun q hq => (HROW.out.lt q hq).1))
              go_wp2_with fail
              go_roundw
              case rel => exact ⟨s + 1, by omega, by first | rfl | rw [← w8], ⟨_, _, by rw [HEN.out]⟩, Lib.hid (by rw [HEF.out, HEN.out]; exact hown3), HB3⟩
              case measure => simp [intOf]; omega
          · have b0 : ((s : Int) == 0) = false := not_beq (by omega)
            have b9 : ((k : Int) == 9) = false := not_beq (by omega)
            have e := cnt_skip hin
            rw [← e] at HROW ⊢
            clear e hin hs0 hk9
            go_wp2_with fail
            go_roundw
            case rel => exact ⟨s + 1, by omega, by first | rfl | rw [← w8], ⟨_, _, rfl⟩, HROW, HBR⟩
            case measure => simp [intOf]; omega
        · obtain rfl : s = 4 := by omega
          have e := cnt_end hlt' hk1
          rw [e] at HROW ⊢
          clear e
          go_wp2_with fail
          go_roundw
          case rel => exact ⟨k + 1, by omega, by omega, by first | rfl | rw [← w9], ⟨_, _, rfl⟩, HROW, HBR⟩
          case measure => simp [intOf]; omega
    · obtain rfl : k = 13 := by omega
      go_wp2_with fail
      go_ret
      exact ⟨⟨_, rfl, HROW.out⟩, HBR.out⟩
theorem holes_rows {W : World} {base : Nat} {v : Value} (h : W.ownsRow base 25 5 v holesL.length (flatH holesL)) : RowsO 5 W v (holesL.map hC) :=
  rows_of_own (fun x hx => by obtain ⟨y, _, rfl⟩ := List.mem_map.1 hx; rfl) (by rw [List.length_map]; exact h)
theorem holes_at {W : World} {v : Value} (h : RowsO 5 W v (holesL.map hC)) {k : Nat} (hk : k < 15) : ∃ g off cap x, holesL[k]? = some x ∧ v = .slice (some ⟨g, off, none⟩) 15 cap ∧ g < W.heap.size ∧
    W.cell? ⟨g, off + k * 5, none⟩ = some (.int .i64 (x.1 : Int)) ∧ W.cell? ⟨g, off + k * 5 + 1, none⟩ = some (.int .i64 (x.2 : Int)) ∧ W.cell? ⟨g, off + k * 5 + 2, none⟩ = some (.int .i64 0) ∧ W.cell? ⟨g, off + k * 5 + 3, none⟩ = some (.string ⟨#[]⟩) ∧ W.cell? ⟨g, off + k * 5 + 4, none⟩ = some (.string ⟨#[]⟩) := by
  obtain ⟨s, hs⟩ : ∃ s, holesL[k]? = some s := ⟨_, List.getElem?_eq_getElem (show k < holesL.length from hk)⟩
  obtain ⟨g, off, cap, e, hg, hc⟩ := RowsO.at h (k := k) (x := hC s) (by rw [List.getElem?_map, hs]; rfl)
  exact ⟨g, off, cap, s, hs, e, hg, hc 0 _ rfl, hc 1 _ rfl, hc 2 _ rfl, hc 3 _ rfl, hc 4 _ rfl⟩
theorem holes_slice {W : World} {v : Value} (h : RowsO 5 W v (holesL.map hC)) : ∃ a c, v = .slice a 15 c := by
  obtain ⟨a, c, e⟩ := RowsO.slice h; exact ⟨a, c, e⟩
set_option maxHeartbeats 4000000 in
theorem equal_holes (s1 s2 : Value) (w : World) (h1 : RowsO 5 w s1 (holesL.map hC)) (h2 : RowsO 5 w s2 (holesL.map hC)) :
    Calls Tryd.prog 19 #[s1, s2] w fun e w' => e = .returned (.bool true) ∧ Below w.heap.size w w' := by
  obtain ⟨a1, q1, rfl⟩ := holes_slice h1
  obtain ⟨a2, q2, rfl⟩ := holes_slice h2
  have R1 := Lib.hid h1
  have R2 := Lib.hid h2
  clear h1 h2
  go_enter Tryd.func19, Tryd.ntmps19
  go_wp2_with fail
  go_loopw [13] (fun i wr => ∃ k q : Nat, k ≤ 15 ∧ i = .int .i64 (k : Int) ∧ wr = w.drewN q) (fun i _ => 15 - (intOf i).toNat)
  case atStart => exact ⟨0, 0, Nat.zero_le _, rfl, rfl⟩
  case round =>
    obtain ⟨k, q, hk, rfl, rfl⟩ := hrel
    obtain ⟨X, hX⟩ : ∃ X, w.drewN q = X := ⟨_, rfl⟩
    rw [hX]
    have HX := Lib.hid hX
    clear hX
    by_cases hlt : (k : Int) < 15
    · have hlt' : k < 15 := by omega
      have c1 : ∀ p, w.cell? p = X.cell? p := fun p => by rw [← HX.out]; simp
      obtain ⟨g1, o1, cap1, x, hx, hv1, _, x0, x1, x2, x3, x4⟩ := holes_at R1.out hlt'
      obtain ⟨g2, o2, cap2, x', hx', hv2, _, y0, y1, y2, y3, y4⟩ := holes_at R2.out hlt'
      cases hv1
      cases hv2
      obtain rfl : x = x' := Option.some.inj (hx.symm.trans hx')
      rw [c1] at x0 x1 x2 x3 x4 y0 y1 y2 y3 y4
      obtain ⟨kk, ss⟩ := x
      simp only at x0 x1 y0 y1
      have w9 : IntKind.i64.wrap ((k : Int) + 1) = ((k + 1 : Nat) : Int) := by rw [IntWalk.i64_in _ (by omega)]; omega
      clear hx hx' c1
      go_wp2_with fail
      go_quiet (fail)
      go_wp2_with fail
      all_goals exact ⟨⟨k + 1, q + nq, by omega, by first | rfl | rw [← w9], by rw [← HX.out]; simp⟩, by simp [intOf]; omega⟩
    · go_wp2_with fail
      go_ret
      exact ⟨rfl, by rw [← HX.out]; exact below_drewN (Below.refl _ _) q⟩
end Go.Proofs.YtjkhgljlipljdaaDoor
