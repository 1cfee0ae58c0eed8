/-
  What each call of the document's Resolve returns where the hole is one and its names are found. Conditions: what its callees answer (Cal).
-/
import Derived.Test.YtjkhgljlipljdaaDoorFixLA
import Derived.Test.YtjkhgljlipljdaaDoorFixLB
import Derived.Test.YtjkhgljlipljdaaDoorFixLC
import Derived.Test.YtjkhgljlipljdaaDoorFixLD
namespace Go.Proofs.YtjkhgljlipljdaaDoor
open Go.RowKit
set_option linter.unusedVariables false
set_option linter.unusedSimpArgs false

theorem bne_t {a b : Int} (h : ¬ a = b) : (a != b) = true := by simp [h]
theorem bne_f {a b : Int} (h : a = b) : (a != b) = false := by simp [h]
theorem beq_t {a b : Int} (h : a = b) : (a == b) = true := by simp [h]
set_option maxHeartbeats 4000000 in
theorem rres_both (k s a : Int) (pl ml : BA) (sec off : Int) (sv : Value) (p m : Pt) (w : World) (D N : Bool) (FT : Int → Bool) (RF : Bool → Pt → Int → Fx) (RG : Bool → Pt → Int)
    (CA : Hid (Cal w k s a pl ml sec off sv p m D N FT RF RG)) :
    Calls Tryd.prog 23 #[.agg #[.int .i64 k, .int .i64 s, .int .i64 a, .string pl, .string ml], .int .i64 sec, .int .i64 off, sv] w fun e w' =>
      e = .returned (.tuple #[fxV (ddo D N FT RF RG sec off (dred ⟨a, p, m⟩)).1, .int .i64 (ddo D N FT RF RG sec off (dred ⟨a, p, m⟩)).2]) ∧ Below w.heap.size w w' := by
  obtain ⟨pi, ps, pv, pn⟩ := p
  obtain ⟨mi, ms, mv, mn⟩ := m
  cases pi with
  | false =>
    cases mi with
    | false =>
      rcases Bool.eq_false_or_eq_true D with hD | hD
      · rcases Bool.eq_false_or_eq_true (FT (a)) with hF | hF
        · skip
          have E := show ddo D N FT RF RG sec off (dred ⟨a, ⟨false, ps, pv, pn⟩, ⟨false, ms, mv, mn⟩⟩) = (⟨true, a, false, 0, 0, 0, 0⟩, 0) by simp [ddo, dred, dn1, dn2, dn3, numB, pt0, hD, hF]
          rw [E]; exact rl_nn_p k s a pl ml sec off sv ps pv pn ms mv mn w D N FT RF RG hD hF CA
        · skip
          have E := show ddo D N FT RF RG sec off (dred ⟨a, ⟨false, ps, pv, pn⟩, ⟨false, ms, mv, mn⟩⟩) = (fx0, 181) by simp [ddo, dred, dn1, dn2, dn3, numB, pt0, hD, hF]
          rw [E]; exact rl_nn_f k s a pl ml sec off sv ps pv pn ms mv mn w D N FT RF RG hD hF CA
      · skip
        have E := show ddo D N FT RF RG sec off (dred ⟨a, ⟨false, ps, pv, pn⟩, ⟨false, ms, mv, mn⟩⟩) = (fx0, 180) by simp [ddo, dred, dn1, dn2, dn3, numB, pt0, hD]
        rw [E]; exact rl_nn_d k s a pl ml sec off sv ps pv pn ms mv mn w D N FT RF RG hD CA
    | true =>
      by_cases hm : ms = -2
      · subst hm
        rcases Bool.eq_false_or_eq_true D with hD | hD
        · rcases Bool.eq_false_or_eq_true (FT (wrap64 (a - mv))) with hF | hF
          · skip
            have E := show ddo D N FT RF RG sec off (dred ⟨a, ⟨false, ps, pv, pn⟩, ⟨true, (-2), mv, mn⟩⟩) = (⟨true, wrap64 (a - mv), false, 0, 0, 0, 0⟩, 0) by simp [ddo, dred, dn1, dn2, dn3, numB, pt0, hD, hF]
            rw [E]; exact rl_nu_p k s a pl ml sec off sv ps pv pn 0 mv mn w D N FT RF RG hD hF CA
          · skip
            have E := show ddo D N FT RF RG sec off (dred ⟨a, ⟨false, ps, pv, pn⟩, ⟨true, (-2), mv, mn⟩⟩) = (fx0, 181) by simp [ddo, dred, dn1, dn2, dn3, numB, pt0, hD, hF]
            rw [E]; exact rl_nu_f k s a pl ml sec off sv ps pv pn 0 mv mn w D N FT RF RG hD hF CA
        · skip
          have E := show ddo D N FT RF RG sec off (dred ⟨a, ⟨false, ps, pv, pn⟩, ⟨true, (-2), mv, mn⟩⟩) = (fx0, 180) by simp [ddo, dred, dn1, dn2, dn3, numB, pt0, hD]
          rw [E]; exact rl_nu_d k s a pl ml sec off sv ps pv pn 0 mv mn w D N FT RF RG hD CA
      · have b1 := not_beq hm
        by_cases h3 : ms = sec
        · have b3 := bne_f h3
          by_cases h4 : ms = -1
          · have b4 := beq_t h4
            have E := show ddo D N FT RF RG sec off (dred ⟨a, ⟨false, ps, pv, pn⟩, ⟨true, ms, mv, mn⟩⟩) = (fx0, 180) by simp [ddo, dred, dn1, dn2, dn3, numB, pt0, b1, b3, b4]
            rw [E]; exact rl_nm_non k s a pl ml sec off sv ps pv pn ms mv mn w D N FT RF RG b1 b3 b4 CA
          · have b4 := not_beq h4
            have E := show ddo D N FT RF RG sec off (dred ⟨a, ⟨false, ps, pv, pn⟩, ⟨true, ms, mv, mn⟩⟩) = (fx0, 180) by simp [ddo, dred, dn1, dn2, dn3, numB, pt0, b1, b3, b4]
            rw [E]; exact rl_nm_alone k s a pl ml sec off sv ps pv pn ms mv mn w D N FT RF RG b1 b3 b4 CA
        · have b3 := bne_t h3
          have E := show ddo D N FT RF RG sec off (dred ⟨a, ⟨false, ps, pv, pn⟩, ⟨true, ms, mv, mn⟩⟩) = (fx0, 180) by simp [ddo, dred, dn1, dn2, dn3, numB, pt0, b1, b3]
          rw [E]; exact rl_nm_sec k s a pl ml sec off sv ps pv pn ms mv mn w D N FT RF RG b1 b3 CA
  | true =>
    by_cases hp : ps = -2
    · subst hp
      cases mi with
      | false =>
        rcases Bool.eq_false_or_eq_true D with hD | hD
        · rcases Bool.eq_false_or_eq_true (FT (wrap64 (a + pv))) with hF | hF
          · skip
            have E := show ddo D N FT RF RG sec off (dred ⟨a, ⟨true, (-2), pv, pn⟩, ⟨false, ms, mv, mn⟩⟩) = (⟨true, wrap64 (a + pv), false, 0, 0, 0, 0⟩, 0) by simp [ddo, dred, dn1, dn2, dn3, numB, pt0, hD, hF]
            rw [E]; exact rl_un_p k s a pl ml sec off sv 0 pv pn ms mv mn w D N FT RF RG hD hF CA
          · skip
            have E := show ddo D N FT RF RG sec off (dred ⟨a, ⟨true, (-2), pv, pn⟩, ⟨false, ms, mv, mn⟩⟩) = (fx0, 181) by simp [ddo, dred, dn1, dn2, dn3, numB, pt0, hD, hF]
            rw [E]; exact rl_un_f k s a pl ml sec off sv 0 pv pn ms mv mn w D N FT RF RG hD hF CA
        · skip
          have E := show ddo D N FT RF RG sec off (dred ⟨a, ⟨true, (-2), pv, pn⟩, ⟨false, ms, mv, mn⟩⟩) = (fx0, 180) by simp [ddo, dred, dn1, dn2, dn3, numB, pt0, hD]
          rw [E]; exact rl_un_d k s a pl ml sec off sv 0 pv pn ms mv mn w D N FT RF RG hD CA
      | true =>
        by_cases hm : ms = -2
        · subst hm
          rcases Bool.eq_false_or_eq_true D with hD | hD
          · rcases Bool.eq_false_or_eq_true (FT (wrap64 (wrap64 (a - mv) + pv))) with hF | hF
            · skip
              have E := show ddo D N FT RF RG sec off (dred ⟨a, ⟨true, (-2), pv, pn⟩, ⟨true, (-2), mv, mn⟩⟩) = (⟨true, wrap64 (wrap64 (a - mv) + pv), false, 0, 0, 0, 0⟩, 0) by simp [ddo, dred, dn1, dn2, dn3, numB, pt0, hD, hF]
              rw [E]; exact rl_uu_p k s a pl ml sec off sv 0 pv pn 0 mv mn w D N FT RF RG hD hF CA
            · skip
              have E := show ddo D N FT RF RG sec off (dred ⟨a, ⟨true, (-2), pv, pn⟩, ⟨true, (-2), mv, mn⟩⟩) = (fx0, 181) by simp [ddo, dred, dn1, dn2, dn3, numB, pt0, hD, hF]
              rw [E]; exact rl_uu_f k s a pl ml sec off sv 0 pv pn 0 mv mn w D N FT RF RG hD hF CA
          · skip
            have E := show ddo D N FT RF RG sec off (dred ⟨a, ⟨true, (-2), pv, pn⟩, ⟨true, (-2), mv, mn⟩⟩) = (fx0, 180) by simp [ddo, dred, dn1, dn2, dn3, numB, pt0, hD]
            rw [E]; exact rl_uu_d k s a pl ml sec off sv 0 pv pn 0 mv mn w D N FT RF RG hD CA
        · have b1 := not_beq hm
          by_cases h3 : ms = sec
          · have b3 := bne_f h3
            by_cases h4 : ms = -1
            · have b4 := beq_t h4
              have E := show ddo D N FT RF RG sec off (dred ⟨a, ⟨true, (-2), pv, pn⟩, ⟨true, ms, mv, mn⟩⟩) = (fx0, 180) by simp [ddo, dred, dn1, dn2, dn3, numB, pt0, b1, b3, b4]
              rw [E]; exact rl_um_non k s a pl ml sec off sv 0 pv pn ms mv mn w D N FT RF RG b1 b3 b4 CA
            · have b4 := not_beq h4
              have E := show ddo D N FT RF RG sec off (dred ⟨a, ⟨true, (-2), pv, pn⟩, ⟨true, ms, mv, mn⟩⟩) = (fx0, 180) by simp [ddo, dred, dn1, dn2, dn3, numB, pt0, b1, b3, b4]
              rw [E]; exact rl_um_alone k s a pl ml sec off sv 0 pv pn ms mv mn w D N FT RF RG b1 b3 b4 CA
          · have b3 := bne_t h3
            have E := show ddo D N FT RF RG sec off (dred ⟨a, ⟨true, (-2), pv, pn⟩, ⟨true, ms, mv, mn⟩⟩) = (fx0, 180) by simp [ddo, dred, dn1, dn2, dn3, numB, pt0, b1, b3]
            rw [E]; exact rl_um_sec k s a pl ml sec off sv 0 pv pn ms mv mn w D N FT RF RG b1 b3 CA
    · have b1 := not_beq hp
      cases mi with
      | false =>
        rcases Bool.eq_false_or_eq_true N with hN | hN
        · by_cases h3 : ps = sec
          · have b3 := beq_t h3
            by_cases h4 : ps = -1
            · have b4 := bne_f h4
              have E := show ddo D N FT RF RG sec off (dred ⟨a, ⟨true, ps, pv, pn⟩, ⟨false, ms, mv, mn⟩⟩) = (RF false ⟨true, ps, pv, pn⟩ (a), RG false ⟨true, ps, pv, pn⟩) by simp [ddo, dred, dn1, dn2, dn3, numB, pt0, b1, hN, b3, b4]
              rw [E]; exact rl_isn_non k s a pl ml sec off sv ps pv pn ms mv mn w D N FT RF RG b1 hN b3 b4 CA
            · have b4 := bne_t h4
              rcases Bool.eq_false_or_eq_true (FT (wrap64 (wrap64 (pv + a) - off))) with hF | hF
              · skip
                have E := show ddo D N FT RF RG sec off (dred ⟨a, ⟨true, ps, pv, pn⟩, ⟨false, ms, mv, mn⟩⟩) = (⟨true, wrap64 (wrap64 (pv + a) - off), false, 0, 0, 0, 0⟩, 0) by simp [ddo, dred, dn1, dn2, dn3, numB, pt0, b1, hN, b3, b4, hF]
                rw [E]; exact rl_isn_fit k s a pl ml sec off sv ps pv pn ms mv mn w D N FT RF RG b1 hN b3 b4 hF CA
              · skip
                have E := show ddo D N FT RF RG sec off (dred ⟨a, ⟨true, ps, pv, pn⟩, ⟨false, ms, mv, mn⟩⟩) = (fx0, 181) by simp [ddo, dred, dn1, dn2, dn3, numB, pt0, b1, hN, b3, b4, hF]
                rw [E]; exact rl_isn_bad k s a pl ml sec off sv ps pv pn ms mv mn w D N FT RF RG b1 hN b3 b4 hF CA
          · have b3 := not_beq h3
            have E := show ddo D N FT RF RG sec off (dred ⟨a, ⟨true, ps, pv, pn⟩, ⟨false, ms, mv, mn⟩⟩) = (RF false ⟨true, ps, pv, pn⟩ (a), RG false ⟨true, ps, pv, pn⟩) by simp [ddo, dred, dn1, dn2, dn3, numB, pt0, b1, hN, b3]
            rw [E]; exact rl_isn_sec k s a pl ml sec off sv ps pv pn ms mv mn w D N FT RF RG b1 hN b3 CA
        · skip
          have E := show ddo D N FT RF RG sec off (dred ⟨a, ⟨true, ps, pv, pn⟩, ⟨false, ms, mv, mn⟩⟩) = (RF false ⟨true, ps, pv, pn⟩ (a), RG false ⟨true, ps, pv, pn⟩) by simp [ddo, dred, dn1, dn2, dn3, numB, pt0, b1, hN]
          rw [E]; exact rl_isn_far k s a pl ml sec off sv ps pv pn ms mv mn w D N FT RF RG b1 hN CA
      | true =>
        by_cases hm : ms = -2
        · subst hm
          rcases Bool.eq_false_or_eq_true N with hN | hN
          · by_cases h3 : ps = sec
            · have b3 := beq_t h3
              by_cases h4 : ps = -1
              · have b4 := bne_f h4
                have E := show ddo D N FT RF RG sec off (dred ⟨a, ⟨true, ps, pv, pn⟩, ⟨true, (-2), mv, mn⟩⟩) = (RF false ⟨true, ps, pv, pn⟩ (wrap64 (a - mv)), RG false ⟨true, ps, pv, pn⟩) by simp [ddo, dred, dn1, dn2, dn3, numB, pt0, b1, hN, b3, b4]
                rw [E]; exact rl_isu_non k s a pl ml sec off sv ps pv pn 0 mv mn w D N FT RF RG b1 hN b3 b4 CA
              · have b4 := bne_t h4
                rcases Bool.eq_false_or_eq_true (FT (wrap64 (wrap64 (pv + wrap64 (a - mv)) - off))) with hF | hF
                · skip
                  have E := show ddo D N FT RF RG sec off (dred ⟨a, ⟨true, ps, pv, pn⟩, ⟨true, (-2), mv, mn⟩⟩) = (⟨true, wrap64 (wrap64 (pv + wrap64 (a - mv)) - off), false, 0, 0, 0, 0⟩, 0) by simp [ddo, dred, dn1, dn2, dn3, numB, pt0, b1, hN, b3, b4, hF]
                  rw [E]; exact rl_isu_fit k s a pl ml sec off sv ps pv pn 0 mv mn w D N FT RF RG b1 hN b3 b4 hF CA
                · skip
                  have E := show ddo D N FT RF RG sec off (dred ⟨a, ⟨true, ps, pv, pn⟩, ⟨true, (-2), mv, mn⟩⟩) = (fx0, 181) by simp [ddo, dred, dn1, dn2, dn3, numB, pt0, b1, hN, b3, b4, hF]
                  rw [E]; exact rl_isu_bad k s a pl ml sec off sv ps pv pn 0 mv mn w D N FT RF RG b1 hN b3 b4 hF CA
            · have b3 := not_beq h3
              have E := show ddo D N FT RF RG sec off (dred ⟨a, ⟨true, ps, pv, pn⟩, ⟨true, (-2), mv, mn⟩⟩) = (RF false ⟨true, ps, pv, pn⟩ (wrap64 (a - mv)), RG false ⟨true, ps, pv, pn⟩) by simp [ddo, dred, dn1, dn2, dn3, numB, pt0, b1, hN, b3]
              rw [E]; exact rl_isu_sec k s a pl ml sec off sv ps pv pn 0 mv mn w D N FT RF RG b1 hN b3 CA
          · skip
            have E := show ddo D N FT RF RG sec off (dred ⟨a, ⟨true, ps, pv, pn⟩, ⟨true, (-2), mv, mn⟩⟩) = (RF false ⟨true, ps, pv, pn⟩ (wrap64 (a - mv)), RG false ⟨true, ps, pv, pn⟩) by simp [ddo, dred, dn1, dn2, dn3, numB, pt0, b1, hN]
            rw [E]; exact rl_isu_far k s a pl ml sec off sv ps pv pn 0 mv mn w D N FT RF RG b1 hN CA
        · have b2 := b1
          clear b1
          have b1 := not_beq hm
          by_cases hx : ps = ms
          · by_cases hy : ps = -1
            · have bx := beq_t hx
              have by1 := bne_f hy
              by_cases h3 : ms = sec
              · have b3 := bne_f h3
                by_cases h4 : ms = -1
                · have b4 := beq_t h4
                  have E := show ddo D N FT RF RG sec off (dred ⟨a, ⟨true, ps, pv, pn⟩, ⟨true, ms, mv, mn⟩⟩) = (fx0, 180) by simp [ddo, dred, dn1, dn2, dn3, numB, pt0, b1, b2, bx, by1, b3, b4]
                  rw [E]; exact rl_y_non k s a pl ml sec off sv ps pv pn ms mv mn w D N FT RF RG b1 b2 bx by1 b3 b4 CA
                · have b4 := not_beq h4
                  have E := show ddo D N FT RF RG sec off (dred ⟨a, ⟨true, ps, pv, pn⟩, ⟨true, ms, mv, mn⟩⟩) = (RF true ⟨true, ps, pv, pn⟩ (wrap64 (wrap64 (a + off) - mv)), RG true ⟨true, ps, pv, pn⟩) by simp [ddo, dred, dn1, dn2, dn3, numB, pt0, b1, b2, bx, by1, b3, b4]
                  rw [E]; exact rl_y_rel k s a pl ml sec off sv ps pv pn ms mv mn w D N FT RF RG b1 b2 bx by1 b3 b4 CA
              · have b3 := bne_t h3
                have E := show ddo D N FT RF RG sec off (dred ⟨a, ⟨true, ps, pv, pn⟩, ⟨true, ms, mv, mn⟩⟩) = (fx0, 180) by simp [ddo, dred, dn1, dn2, dn3, numB, pt0, b1, b2, bx, by1, b3]
                rw [E]; exact rl_y_sec k s a pl ml sec off sv ps pv pn ms mv mn w D N FT RF RG b1 b2 bx by1 b3 CA
            · subst hx
              have by1 := bne_t hy
              clear b1
              rcases Bool.eq_false_or_eq_true D with hD | hD
              · rcases Bool.eq_false_or_eq_true (FT (wrap64 (a + wrap64 (pv - mv)))) with hF | hF
                · skip
                  have E := show ddo D N FT RF RG sec off (dred ⟨a, ⟨true, ps, pv, pn⟩, ⟨true, ps, mv, mn⟩⟩) = (⟨true, wrap64 (a + wrap64 (pv - mv)), false, 0, 0, 0, 0⟩, 0) by simp [ddo, dred, dn1, dn2, dn3, numB, pt0, b2, by1, hD, hF]
                  rw [E]; exact rl_cc_p k s a pl ml sec off sv ps pv pn 0 mv mn w D N FT RF RG b2 by1 hD hF CA
                · skip
                  have E := show ddo D N FT RF RG sec off (dred ⟨a, ⟨true, ps, pv, pn⟩, ⟨true, ps, mv, mn⟩⟩) = (fx0, 181) by simp [ddo, dred, dn1, dn2, dn3, numB, pt0, b2, by1, hD, hF]
                  rw [E]; exact rl_cc_f k s a pl ml sec off sv ps pv pn 0 mv mn w D N FT RF RG b2 by1 hD hF CA
              · skip
                have E := show ddo D N FT RF RG sec off (dred ⟨a, ⟨true, ps, pv, pn⟩, ⟨true, ps, mv, mn⟩⟩) = (fx0, 180) by simp [ddo, dred, dn1, dn2, dn3, numB, pt0, b2, by1, hD]
                rw [E]; exact rl_cc_d k s a pl ml sec off sv ps pv pn 0 mv mn w D N FT RF RG b2 by1 hD CA
          · have bx := not_beq hx
            by_cases h3 : ms = sec
            · have b3 := bne_f h3
              by_cases h4 : ms = -1
              · have b4 := beq_t h4
                have E := show ddo D N FT RF RG sec off (dred ⟨a, ⟨true, ps, pv, pn⟩, ⟨true, ms, mv, mn⟩⟩) = (fx0, 180) by simp [ddo, dred, dn1, dn2, dn3, numB, pt0, b1, b2, bx, b3, b4]
                rw [E]; exact rl_x_non k s a pl ml sec off sv ps pv pn ms mv mn w D N FT RF RG b1 b2 bx b3 b4 CA
              · have b4 := not_beq h4
                have E := show ddo D N FT RF RG sec off (dred ⟨a, ⟨true, ps, pv, pn⟩, ⟨true, ms, mv, mn⟩⟩) = (RF true ⟨true, ps, pv, pn⟩ (wrap64 (wrap64 (a + off) - mv)), RG true ⟨true, ps, pv, pn⟩) by simp [ddo, dred, dn1, dn2, dn3, numB, pt0, b1, b2, bx, b3, b4]
                rw [E]; exact rl_x_rel k s a pl ml sec off sv ps pv pn ms mv mn w D N FT RF RG b1 b2 bx b3 b4 CA
            · have b3 := bne_t h3
              have E := show ddo D N FT RF RG sec off (dred ⟨a, ⟨true, ps, pv, pn⟩, ⟨true, ms, mv, mn⟩⟩) = (fx0, 180) by simp [ddo, dred, dn1, dn2, dn3, numB, pt0, b1, b2, bx, b3]
              rw [E]; exact rl_x_sec k s a pl ml sec off sv ps pv pn ms mv mn w D N FT RF RG b1 b2 bx b3 CA
end Go.Proofs.YtjkhgljlipljdaaDoor
