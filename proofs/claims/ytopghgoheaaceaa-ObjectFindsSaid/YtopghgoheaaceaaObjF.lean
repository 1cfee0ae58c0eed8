/-
  What each call of relocsMayBe, and of the document's relocs, returns. Conditions: how the section lies, its size.
-/
import Derived.Test.YtopghgoheaaceaaObjD
namespace Go.Proofs.Ytopghgoheaaceaa
open Go.RowKit
set_option linter.unusedVariables false
set_option linter.unusedSimpArgs false

set_option maxHeartbeats 8000000 in
theorem rel_any (s : Sc) (m : Int) (w : World) (hin : ScIn w s) (h0 : 0 ≤ s.size) (h1 : s.size ≤ 1048576) :
    Calls Try.prog 61 #[scV s, .int .i64 m] w fun e w' => e = .returned (.bool (relOk s m)) ∧ Below w.heap.size w w' := by
  have E := relOk_e s m
  generalize relOk s m = R at *
  obtain ⟨name, kind, align, size, dv, rv, data, L⟩ := s
  simp only at h0 h1 E
  obtain ⟨ad, cd, hd⟩ := hin.2.slice
  simp only at hd
  subst hd
  have hR : RelO w (.slice ad L.length cd) L := hin.2
  have hlen := hR.len
  unfold maxLen at hlen
  have HR := Lib.hid hR
  clear hin hR
  unfold scV
  simp only
  have WD := Lib.hid (fun k W => width_any k W)
  have NU := Lib.hid (fun n W => num_any n m W)
  by_cases a1 : (4096 : Int) < (L.length : Int)
  · have HE := Lib.hid (E.trans (by rw [decide_eq_false (show ¬ (L.length : Int) ≤ 4096 by omega), Bool.false_and]))
    clear E
    go_enter Try.func61, Try.ntmps61
    go_wp2_with fail
    go_ret
    exact ⟨ret1b (by rw [HE.out]; try rfl), below1 w _⟩
  rw [decide_eq_true (show (L.length : Int) ≤ 4096 by omega), Bool.true_and] at E
  by_cases a2 : kind = 4
  · subst a2
    by_cases a3 : 0 < L.length
    · have HE := Lib.hid (E.trans (by rw [decide_eq_true (show (0 : Int) < (L.length : Int) by omega)]))
      clear E
      go_enter Try.func61, Try.ntmps61
      go_wp2_with fail
      go_ret
      exact ⟨ret1b (by rw [HE.out]; try rfl), below1 w _⟩
    · obtain rfl : L = [] := List.eq_nil_of_length_eq_zero (by omega)
      have HE := Lib.hid (E.trans (by rfl))
      clear E
      go_enter Try.func61, Try.ntmps61
      go_wp2_with fail
      refine wp_loop_rounds 1 ?_
      rw [rounds_succ]
      go_wp2_with fail
      go_ret
      exact ⟨ret1b (by rw [HE.out]; try rfl), below1 w _⟩
  have a4 : (kind == 4) = false := by simpa using a2
  rw [a4, Bool.false_and, Bool.not_false, Bool.true_and] at E
  have HE := Lib.hid E
  have H0 := Lib.hid h0
  have H1 := Lib.hid h1
  clear h0 h1 a2 E
  obtain ⟨W1, hW1⟩ : ∃ W1, w.alloc (.cells #[.string name, .int .i64 kind, .int .i64 align, .int .i64 size, dv, .slice ad L.length cd] 40) = W1 := ⟨_, rfl⟩
  have HB1 : Hid (Below w.heap.size w W1) := Lib.hid (by rw [← hW1]; exact below1 w _)
  have hz1 : w.heap.size < W1.heap.size := by rw [← hW1]; simp
  have c3 : W1.cell? ⟨w.heap.size, 3, none⟩ = some (.int .i64 size) := by rw [← hW1]; exact cells_new w _ _ 3 _ rfl
  have c1 : W1.cell? ⟨w.heap.size, 1, none⟩ = some (.int .i64 kind) := by rw [← hW1]; exact cells_new w _ _ 1 _ rfl
  have c5 : W1.cell? ⟨w.heap.size, 5, none⟩ = some (.slice ad L.length cd) := by rw [← hW1]; exact cells_new w _ _ 5 _ rfl
  go_enter Try.func61, Try.ntmps61
  go_wp2_with fail
  go_loopw [27, 5] (fun iv ev wr => ∃ (k : Nat) (e : Int), k ≤ L.length ∧ iv = .int .i64 (k : Int) ∧ ev = .int .i64 e ∧ Hid (R = relGo size m e (L.drop k) ∧ 0 ≤ e ∧ e ≤ 1048576) ∧ Hid (Below W1.heap.size W1 wr)) (fun iv ev _ => L.length - (intOf iv).toNat)
  case atStart => exact ⟨0, 0, Nat.zero_le _, rfl, rfl, Lib.hid ⟨HE.out, by decide, by decide⟩, Lib.hid (Below.refl _ _)⟩
  case round =>
    obtain ⟨k, e, hk, rfl, rfl, hst, hbr⟩ := hrel
    clear hW1
    have g3 := (bcell hbr.out).1 w.heap.size 3 hz1 |>.trans c3
    have g5 := (bcell hbr.out).1 w.heap.size 5 hz1 |>.trans c5
    have hz2 : w.heap.size < wr.heap.size := Nat.lt_of_lt_of_le hz1 hbr.out.size
    clear c1 c3 c5
    by_cases hlt : (k : Int) < (L.length : Int)
    · have hlt' : k < L.length := by omega
      obtain ⟨g, off, cap, r, hx, hv, hg, x0, x1, x2, x3⟩ := ((HR.out.keep HB1.out).keep hbr.out).at hlt'
      cases hv
      obtain ⟨ro, rt, rs, ra⟩ := r
      simp only at x0 x1 x2 x3
      have w9 : IntKind.i64.wrap ((k : Int) + 1) = ((k + 1 : Nat) : Int) := by rw [IntWalk.i64_in _ (by omega)]; omega
      have hdrop : L.drop k = ⟨ro, rt, rs, ra⟩ :: L.drop (k + 1) := by
        obtain ⟨hk', hx'⟩ := List.getElem?_eq_some_iff.1 hx
        rw [← hx']; exact List.drop_eq_getElem_cons hk'
      have ST : R = if relBad size m e ⟨ro, rt, rs, ra⟩ = true then false else relGo size m (ro + widthB rt) (L.drop (k + 1)) := by rw [hst.out.1, hdrop]; rfl
      have RB : relBad size m e ⟨ro, rt, rs, ra⟩ = ((widthB rt == 0) || (decide (ro < e) || (decide (size - widthB rt < ro) || (!numOk rs m || (decide (273 ≤ rt) && (ro.tmod 4 != 0)))))) := rfl
      generalize relBad size m e ⟨ro, rt, rs, ra⟩ = B at ST RB
      have WT := Lib.hid (fun W => WD.out rt W)
      have hwe := width_ends rt
      generalize widthB rt = T at *
      obtain ⟨he0, he1⟩ := hst.out.2
      have hs0 := H0.out
      have hs1 := H1.out
      have w7 : IntKind.i64.wrap (size - T) = size - T := IntWalk.i64_in _ (by omega)
      have hT0 : 0 ≤ T := by omega
      have hT8 : T ≤ 8 := by omega
      have HN := Lib.hid (show Below w.heap.size w (wr.alloc (.cells #[.int .i64 ro, .int .i64 rt, .int .i64 rs, .int .i64 ra] 42)) from Below.thn HB1.out HB1.out.size (hbr.out.alloc hbr.out.size _))
      clear hwe hst hx hdrop
      by_cases n1 : T = 0
      · subst n1
        have HE := Lib.hid (show R = false by rw [ST, if_pos (by rw [RB]; rfl)])
        clear ST RB hT0 hT8 he0 he1 hs0 hs1
        go_wp2_with fail
        refine (WT.out _).mono ?_
        rintro e1 w1 ⟨rfl, rfl⟩
        go_wp2_with fail
        try (refine (NU.out _ _).mono ?_; rintro e2 w2 ⟨rfl, rfl⟩; rw [n4] at *; go_wp2_with fail)
        go_ret
        exact ⟨ret1b (by rw [HE.out]), HN.out⟩
      replace n1 : (T == 0) = false := by simpa using n1
      rw [n1, Bool.false_or] at RB
      by_cases n2 : ro < e
      · rw [decide_eq_true n2, Bool.true_or] at RB
        replace n2 := decide_eq_true n2
        have HE := Lib.hid (show R = false by rw [ST, if_pos (by rw [RB])])
        clear ST RB hT0 hT8 he0 he1 hs0 hs1
        go_wp2_with fail
        refine (WT.out _).mono ?_
        rintro e1 w1 ⟨rfl, rfl⟩
        go_wp2_with fail
        try (refine (NU.out _ _).mono ?_; rintro e2 w2 ⟨rfl, rfl⟩; rw [n4] at *; go_wp2_with fail)
        go_ret
        exact ⟨ret1b (by rw [HE.out]), HN.out⟩
      rw [decide_eq_false n2, Bool.false_or] at RB
      by_cases n3 : size - T < ro
      · rw [decide_eq_true n3, Bool.true_or] at RB
        replace n3 := decide_eq_true n3
        have HE := Lib.hid (show R = false by rw [ST, if_pos (by rw [RB])])
        clear ST RB hT0 hT8 he0 he1 hs0 hs1
        go_wp2_with fail
        refine (WT.out _).mono ?_
        rintro e1 w1 ⟨rfl, rfl⟩
        go_wp2_with fail
        try (refine (NU.out _ _).mono ?_; rintro e2 w2 ⟨rfl, rfl⟩; rw [n4] at *; go_wp2_with fail)
        go_ret
        exact ⟨ret1b (by rw [HE.out]), HN.out⟩
      rw [decide_eq_false n3, Bool.false_or] at RB
      have d2 := decide_eq_false n2
      have d3 := decide_eq_false n3
      have hlo : e ≤ ro := by omega
      have hhi : ro ≤ size - T := by omega
      clear n2 n3
      cases n4 : numOk rs m with
      | false =>
        rw [n4, Bool.not_false, Bool.true_or] at RB
        have HE := Lib.hid (show R = false by rw [ST, if_pos (by rw [RB])])
        clear ST RB hT0 hT8 hlo hhi he0 he1 hs0 hs1
        go_wp2_with fail
        refine (WT.out _).mono ?_
        rintro e1 w1 ⟨rfl, rfl⟩
        go_wp2_with fail
        try (refine (NU.out _ _).mono ?_; rintro e2 w2 ⟨rfl, rfl⟩; rw [n4] at *; go_wp2_with fail)
        go_ret
        exact ⟨ret1b (by rw [HE.out]), HN.out⟩
      | true =>
        rw [n4, Bool.not_true, Bool.false_or] at RB
        by_cases n6 : 273 ≤ rt
        · rw [decide_eq_true n6, Bool.true_and] at RB
          replace n6 := decide_eq_true n6
          cases n7 : (ro.tmod 4 != 0) with
          | true =>
            rw [n7] at RB
            have HE := Lib.hid (show R = false by rw [ST, if_pos (by rw [RB])])
            clear ST RB hT0 hT8 hlo hhi he0 he1 hs0 hs1
            go_wp2_with fail
            refine (WT.out _).mono ?_
            rintro e1 w1 ⟨rfl, rfl⟩
            go_wp2_with fail
            try (refine (NU.out _ _).mono ?_; rintro e2 w2 ⟨rfl, rfl⟩; rw [n4] at *; go_wp2_with fail)
            go_ret
            exact ⟨ret1b (by rw [HE.out]), HN.out⟩
          | false =>
            rw [n7] at RB
            have HE := Lib.hid (show R = relGo size m (ro + T) (L.drop (k + 1)) ∧ 0 ≤ ro + T ∧ ro + T ≤ 1048576 from ⟨by rw [ST, if_neg (by rw [RB]; decide)], by omega, by omega⟩)
            have w6 : IntKind.i64.wrap (ro + T) = ro + T := IntWalk.i64_in _ (by omega)
            have HBN := Lib.hid (hbr.out.alloc hbr.out.size (.cells #[.int .i64 ro, .int .i64 rt, .int .i64 rs, .int .i64 ra] 42))
            clear ST RB hT0 hT8 hlo hhi he0 he1 hs0 hs1
            go_wp2_with fail
            refine (WT.out _).mono ?_
            rintro e1 w1 ⟨rfl, rfl⟩
            go_wp2_with fail
            try (refine (NU.out _ _).mono ?_; rintro e2 w2 ⟨rfl, rfl⟩; rw [n4] at *; go_wp2_with fail)
            go_roundw
            case rel => exact ⟨k + 1, ro + T, by omega, by first | rfl | rw [← w9], by first | rfl | rw [← w6], HE, HBN⟩
            case measure => simp [intOf]; omega
        · rw [decide_eq_false n6, Bool.false_and] at RB
          replace n6 := decide_eq_false n6
          have HE := Lib.hid (show R = relGo size m (ro + T) (L.drop (k + 1)) ∧ 0 ≤ ro + T ∧ ro + T ≤ 1048576 from ⟨by rw [ST, if_neg (by rw [RB]; decide)], by omega, by omega⟩)
          have w6 : IntKind.i64.wrap (ro + T) = ro + T := IntWalk.i64_in _ (by omega)
          have HBN := Lib.hid (hbr.out.alloc hbr.out.size (.cells #[.int .i64 ro, .int .i64 rt, .int .i64 rs, .int .i64 ra] 42))
          clear ST RB hT0 hT8 hlo hhi he0 he1 hs0 hs1
          go_wp2_with fail
          refine (WT.out _).mono ?_
          rintro e1 w1 ⟨rfl, rfl⟩
          go_wp2_with fail
          try (refine (NU.out _ _).mono ?_; rintro e2 w2 ⟨rfl, rfl⟩; rw [n4] at *; go_wp2_with fail)
          go_roundw
          case rel => exact ⟨k + 1, ro + T, by omega, by first | rfl | rw [← w9], by first | rfl | rw [← w6], HE, HBN⟩
          case measure => simp [intOf]; omega
    · have HE := Lib.hid (show R = true by rw [hst.out.1, List.drop_eq_nil_of_le (by omega)]; rfl)
      have HN := Lib.hid (Below.thn HB1.out HB1.out.size hbr.out)
      go_wp2_with fail
      go_ret
      exact ⟨ret1b (by rw [HE.out]), HN.out⟩
end Go.Proofs.Ytopghgoheaaceaa
