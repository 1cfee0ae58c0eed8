/-
  What a call of NamesOnce returns: true. No conditions but that it finds its variables as the program's start left them.
-/
import Derived.Test.YtefglodkcddgiaaDoorNamesY
import Derived.Test.YtefglodkcddgiaaDoorNamesS
import Derived.BigQuiet
namespace Go.Proofs.YtefglodkcddgiaaDoor
open Go.RowKit Go.Shelf

theorem quiet_lookup {P : Program} {C : World → Prop} {a : Act} {o : Oper} {K : Act → Prop} (m x : Operand) (t : TypeId) (h : o.op = .lookup t m x false) (b : Nat) (key v : Value)
    (hm : a.eval m = .map (some b)) (hx : a.eval x = key) (hrun : ∀ w, C w → (Instr.lookup t (.map (some b)) key false).run P w = .ok v w) (hk : K (a.put o.dst v)) : o.quiet P a C K :=
  ⟨v, fun w hw => by
    unfold Oper.quietAt
    have e : (execOp a.eval o).run P w = .ok (.value v) w := by
      simp only [execOp, h, hm, hx]
      simp [hrun w hw, Result.andThen]
    rw [e]; exact ⟨rfl, rfl⟩, hk⟩
set_option maxRecDepth 100000 in
set_option maxHeartbeats 400000 in
theorem once_any (k : Int) (w : World) (hG : Good w) :
    Calls Tryd.prog 7 #[.int .i64 k] w fun e w' => e = .returned (.bool true) ∧ Below w.heap.size w w' := by
  have LV := Lib.hid (live_any w hG)
  have AP := Lib.hid (fun w => all_any k w)
  have TL := tbl_len k
  have TR := Lib.hid (allT_rise _ (tbl_mem k))
  have TO := Lib.hid (allT_own _ (tbl_mem k))
  generalize tbl k = T at *
  have hmm := @run_makeMap Tryd.prog
  go_enter Tryd.func7, Tryd.ntmps7
  go_wp2_with fail
  refine LV.out.mono ?_
  rintro e w1 ⟨rfl, hb1⟩
  go_wp2_with fail
  refine (AP.out _).mono ?_
  rintro e w2 ⟨v, rfl, hS, hb2⟩
  have z2 := Below.thn hb1 hb1.size hb2
  have LN := slice_len hS
  have HS := Lib.hid hS
  clear hS
  have hM := World.ownsMap_made w2 Tryd.prog 9 (plainElem (H := Unit) Tryd.prog 4)
  go_wp2_with fail
  have hB0 : Below w2.heap.size w2 (w2.alloc (.map #[] 0)) := (Below.refl _ _).alloc (Nat.le_refl _) _
  go_loopw [14] (fun iv wr => ∃ (i : Nat) (D : DataW Unit), i ≤ T.length ∧ iv = .int .i64 (i : Int) ∧ Hid (Fresh T i D) ∧ wr.ownsMap Tryd.prog 9 (plainElem (H := Unit) Tryd.prog 4) w2.heap.size i D ∧ Below w2.heap.size w2 wr) (fun iv _ => T.length - (intOf iv).toNat)
  case atStart => exact ⟨0, _, Nat.zero_le _, rfl, Lib.hid (fresh_none T), hM, hB0⟩
  case round =>
    obtain ⟨i, D, hi, rfl, hF, hown, hbr⟩ := hrel
    by_cases hlt : (i : Int) < (T.length : Int)
    · have hlt' : i < T.length := by omega
      have hSr := HS.out.keep hbr
      obtain ⟨g, cap, x, hx, rfl, d0, d1⟩ := slice_at hSr hlt'
      have hx20 := (TO.out x (List.mem_of_getElem? hx)).2.2.2.2
      have w9 : IntKind.i64.wrap ((i : Int) + 1) = ((i + 1 : Nat) : Int) := by rw [IntWalk.i64_in _ (by omega)]; omega
      have NF := Lib.hid (fresh_next TR.out.2.1 hx hF.out)
      have LK := Lib.hid (fun (W : World) (h : W.ownsMap Tryd.prog 9 (plainElem (H := Unit) Tryd.prog 4) w2.heap.size i D) => lookup_fresh h hF.out hx hx20)
      obtain ⟨N, hN⟩ : ∃ N, (⟨x.1.toArray⟩ : ByteArray) = N := ⟨_, rfl⟩
      have hN20 : N.size ≤ 20 := by rw [← hN]; simpa [ByteArray.size] using hx20
      have hNx : N.data.toList = x.1 := by rw [← hN]
      rw [← hNx] at NF
      rw [hN] at d0 LK
      obtain ⟨X, hX⟩ : ∃ X, wr.alloc (.cells #[.string N, .int .i64 (x.2 : Int)] 39) = X := ⟨_, rfl⟩
      have hownX : X.ownsMap Tryd.prog 9 (plainElem (H := Unit) Tryd.prog 4) w2.heap.size i D := by rw [← hX]; exact hown.alloc _
      have hbX : Below w2.heap.size w2 X := by rw [← hX]; exact hbr.alloc hbr.size _
      have LX : ∀ n, (Instr.lookup 42 (.map (some w2.heap.size)) (.string N) false).run Tryd.prog (X.drewN n) = .ok (.bool false) (X.drewN n) := fun n => LK.out _ (hownX.kept (row := none) (below_grown (below_drewN (Below.refl _ _) n)) (by simp))
      have p0 : X.cell? ⟨wr.heap.size, 0, none⟩ = some (.string N) := by rw [← hX]; exact cell_two_new wr _ _ _ 0 _ rfl
      have p1 : X.cell? ⟨wr.heap.size, 1, none⟩ = some (.int .i64 (x.2 : Int)) := by rw [← hX]; exact cell_two_new wr _ _ _ 1 _ rfl
      have hone : i < 100 := by omega
      by_cases h0 : i = 0
      · have q1 : decide (0 < i) = false := by rw [decide_eq_false_iff_not]; omega
        clear hx h0 hN LK hNx hSr
        go_wp2_with fail
        clear hX d0 d1
        refine wp_region_quiet_lit (by kernel_rfl) (by kernel_rfl) ?_
        iterate 3 (go_big_quiet_step (fail))
        go_big_quiet_want
        refine quiet_lookup _ _ _ rfl w2.heap.size (.string N) (.bool false) rfl rfl (fun W hW => by obtain ⟨n, rfl⟩ := hW; exact LX n) ?_
        simp only [Act.put, List.setIfInBounds_toArray, List.set_cons_succ, List.set_cons_zero]
        go_big_quiet_on
        repeat (go_big_quiet_step (fail))
        refine wpQuiet_nil ?_
        rintro _ ⟨nq, rfl⟩
        have hownQ : (X.drewN nq).ownsMap Tryd.prog 9 (plainElem (H := Unit) Tryd.prog 4) w2.heap.size i D := hownX.kept (row := none) (below_grown (below_drewN (Below.refl _ _) nq)) (by simp)
        go_wp2_with (at_mapUpdate; refine wpList_mapUpdate_own _ rfl _ _ _ 42 rfl 9 4 (Maps.string_keyed Tryd.underlying9) Tryd.underlying42 _ _ _ _ rfl hownQ (by unfold maxLen; omega) (.string N) (.bool true) (.string N.data.toList) rfl rfl (Go.WideMaps.keyOf_string_mk Tryd.underlying9 (by unfold maxLen; omega)) (.lit (.bool true)) [] (plainElem_bool Tryd.underlying4 true) ?_; intro w5 hown5 hgrow5)
        all_goals exact ⟨⟨i + 1, _, by omega, by first | rfl | rw [← w9], NF, hown5, (below_drewN hbX nq).grown hgrow5 (by simp [hbX.size]) (fun k e => by cases e; exact Nat.le_refl _)⟩, by simp [intOf]; omega⟩
      · obtain ⟨m, hm⟩ : ∃ m, i = m + 1 := ⟨i - 1, by omega⟩
        obtain ⟨g', cap', y, hy, hv, _, e1⟩ := slice_at hSr (k := m) (by omega)
        obtain ⟨rfl, rfl⟩ : g = g' ∧ cap = cap' := by simpa using hv
        have e2 : X.cell? ⟨g, m * 2 + 1, none⟩ = some (.int .i64 (y.2 : Int)) := by
          have hSX : SliceOf X (.slice (some ⟨g, 0, none⟩) T.length cap) T := HS.out.keep hbX
          rcases hSX with h | ⟨g2, c2, h1, _, h3⟩
          · cases h.1
          · cases h1; exact (h3 m y hy).2
        have hr := rise_at TR.out.1 hy (hm ▸ hx)
        have q1 : decide (0 < i) = true := by rw [decide_eq_true_eq]; omega
        have q2 : decide (x.2 ≤ y.2) = false := by rw [decide_eq_false_iff_not]; omega
        have w8 : IntKind.i64.wrap ((i : Int) - 1) = (m : Int) := by rw [IntWalk.i64_in _ (by omega)]; omega
        have hmlt : m < T.length := by omega
        have hmlti : (m : Int) < (T.length : Int) := by omega
        clear hx h0 hN LK hNx hSr hy hv e1 hr hm
        go_wp2_with fail
        clear hX d0 d1
        refine wp_region_quiet_lit (by kernel_rfl) (by kernel_rfl) ?_
        iterate 3 (go_big_quiet_step (fail))
        go_big_quiet_want
        refine quiet_lookup _ _ _ rfl w2.heap.size (.string N) (.bool false) rfl rfl (fun W hW => by obtain ⟨n, rfl⟩ := hW; exact LX n) ?_
        simp only [Act.put, List.setIfInBounds_toArray, List.set_cons_succ, List.set_cons_zero]
        go_big_quiet_on
        repeat (go_big_quiet_step (fail))
        refine wpQuiet_nil ?_
        rintro _ ⟨nq, rfl⟩
        have hownQ : (X.drewN nq).ownsMap Tryd.prog 9 (plainElem (H := Unit) Tryd.prog 4) w2.heap.size i D := hownX.kept (row := none) (below_grown (below_drewN (Below.refl _ _) nq)) (by simp)
        go_wp2_with (at_mapUpdate; refine wpList_mapUpdate_own _ rfl _ _ _ 42 rfl 9 4 (Maps.string_keyed Tryd.underlying9) Tryd.underlying42 _ _ _ _ rfl hownQ (by unfold maxLen; omega) (.string N) (.bool true) (.string N.data.toList) rfl rfl (Go.WideMaps.keyOf_string_mk Tryd.underlying9 (by unfold maxLen; omega)) (.lit (.bool true)) [] (plainElem_bool Tryd.underlying4 true) ?_; intro w5 hown5 hgrow5)
        all_goals exact ⟨⟨i + 1, _, by omega, by first | rfl | rw [← w9], NF, hown5, (below_drewN hbX nq).grown hgrow5 (by simp [hbX.size]) (fun k e => by cases e; exact Nat.le_refl _)⟩, by simp [intOf]; omega⟩
    · go_wp2_with fail
      go_ret
      exact ⟨rfl, Below.thn z2 z2.size hbr⟩
end Go.Proofs.YtefglodkcddgiaaDoor
