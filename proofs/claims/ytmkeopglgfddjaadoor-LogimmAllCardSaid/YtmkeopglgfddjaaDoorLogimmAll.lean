/-
  For every width and every number LogimmAll returns true: all fields that have a value are told, rising, with the values that the document gives; 1,302 of 32 places, 5,334 of 64; and as many as one asks for, if one asks for less. No conditions.
-/
import Derived.Test.YtmkeopglgfddjaaDoorLogC
import Derived.Test.YtmkeopglgfddjaaDoorTie
import Derived.Test.YtmkeopglgfddjaaDoorCards
import Derived.SevenTiedAt
namespace Go.Proofs.YtmkeopglgfddjaaDoor.logimmAll
open Go.ChangeShapes Go.WideShapes Go.ChangeAt Go.RowKit BM
set_option linter.unusedVariables false

theorem u8_wf {v : Int} (h : (Lit.int .u8 v).wf = true) : 0 ≤ v ∧ v < 256 := by
  simp [Lit.wf, IntKind.min, IntKind.max, IntKind.bits, IntKind.signed] at h; omega
theorem len_row {W : Int} {V : World} {v : Value} {l : List Nat} (h : RowIs W V v l) (V' : World) : Sem.run Tryd.prog (Builtin.len_ #[34] 3 #[v]) V' = .ok (.int .i64 (l.length : Int)) V' := by
  rcases h with ⟨h, h0⟩ | ⟨g, cap, h, _⟩
  · rw [h0, h]; simp [Builtin.len_, go_sem]
  · rw [h]; simp [Builtin.len_, go_sem]
theorem at_upto {W : Int} {k c : Nat} (h : outE k W = 0) (hk : k < 8192) (hc : (upto W k).length = c) : ∃ hl : c < (upto W 8192).length, (upto W 8192)[c] = k := by
  subst hc
  have hp := upto_prefix W (show k + 1 ≤ 8192 by omega)
  rw [upto_yes h] at hp
  obtain ⟨t, ht⟩ := hp
  have hl : (upto W k).length < (upto W 8192).length := by rw [← ht]; simp
  refine ⟨hl, ?_⟩
  have : (upto W 8192)[(upto W k).length]? = some k := by rw [← ht]; simp
  rw [List.getElem?_eq_getElem hl] at this
  exact Option.some.inj this
set_option maxRecDepth 100000 in
set_option maxHeartbeats 1000000 in
theorem walk (W m : Int) (w : World) (m0 : 0 ≤ m) (m1 : m < 256) (hT : Tab w) (hTB : 0 < w.heap.size) :
    Calls Tryd.prog 5 #[.int .i64 W, .int .u8 m] w fun e w' => e = .returned (.bool true) ∧ Below w.heap.size w w' := by
  have HT := Lib.hid hT
  have HB := Lib.hid hTB
  have mw : IntKind.i64.wrap m = m := IntWalk.i64_in _ (by omega)
  have n9 : (upto W 8192).take ((9999 : Int)).toNat = upto W 8192 := by
    rw [List.take_of_length_le]; have := upto_len W 8192; show _ ≤ 9999; omega
  clear hT hTB
  go_enter Tryd.func5, Tryd.ntmps5
  go_wp2_with fail
  refine (all_any W _).mono ?_
  rintro e w1 ⟨rfl, rfl⟩
  go_wp2_with fail
  refine (told_any w.heap.size W 9999 _ (by decide) (by decide) (by simp) (box_at _ _ rfl).1).mono ?_
  rintro e w2 ⟨v1, rfl, r1, b1⟩
  rw [n9] at r1
  have d1 : Below w.heap.size w w2 := ((Below.refl w.heap.size w).alloc (Nat.le_refl _) _).trans (b1.mono (by simp))
  go_wp2_with fail
  refine (all_any W _).mono ?_
  rintro e w3 ⟨rfl, rfl⟩
  go_wp2_with fail
  refine (told_any w2.heap.size W m _ m0 (by omega) (by simp) (box_at _ _ rfl).1).mono ?_
  rintro e w4 ⟨v2, rfl, r2, b2⟩
  have b3 : Below w2.heap.size w2 w4 := ((Below.refl w2.heap.size w2).alloc (Nat.le_refl _) _).trans (b2.mono (by simp))
  have d2 : Below w.heap.size w w4 := Below.thn d1 d1.size b3
  go_wp2_with fail
  refine (begun_any _ (HT.out.keep HB.out d2) (by have := HB.out; have := d2.size; omega)).mono ?_
  rintro e w5 ⟨rfl, b5⟩
  have d5 := Below.thn d2 d2.size b5
  have R1 := row_keep r1 (b3.trans (b5.mono b3.size))
  have R2 := row_keep r2 b5
  have L1 := len_row R1
  have L2 := len_row R2
  rw [List.length_take] at L2
  obtain ⟨N, hN⟩ : ∃ N, (upto W 8192).length = N := ⟨_, rfl⟩
  rw [hN] at L1 L2
  obtain ⟨N2, hN2⟩ : ∃ N2, min m.toNat N = N2 := ⟨_, rfl⟩
  rw [hN2] at L2
  have hNl : N ≤ 8192 := by rw [← hN]; exact upto_len W 8192
  clear r1 r2 b1 b2 b3 b5 d1 d2 n9
  have hif : (if m < (N : Int) then m else (N : Int)) = (N2 : Int) := by split <;> omega
  have N2h := Lib.hid hN2
  have R1h := Lib.hid R1
  have R2h := Lib.hid R2
  have NH := Lib.hid hN
  clear R1 R2 hN hN2
  go_wp2_with fail
  go_loopw [7, 31] (fun a i wr => ∃ k c q : Nat, k ≤ 8192 ∧ Hid ((upto W k).length = c) ∧ c ≤ N ∧ a = .int .i64 (c : Int) ∧ i = .int .i64 (k : Int) ∧ wr = w5.drewN q) (fun _ i _ => 8192 - (intOf i).toNat)
  case atStart => exact ⟨0, 0, 0, by decide, Lib.hid rfl, Nat.zero_le _, rfl, rfl, rfl⟩
  case round =>
    obtain ⟨k, c, q, hk, hc, hcN, rfl, rfl, rfl⟩ := hrel
    obtain ⟨X, hX⟩ : ∃ X, w5.drewN q = X := ⟨_, rfl⟩
    rw [hX]
    have HX := Lib.hid hX
    clear hX
    by_cases hlt : (k : Int) < 8192
    · have RV := Lib.hid (rvalue_out (out_spec k W) X)
      have w9 : IntKind.i64.wrap ((k : Int) + 1) = ((k + 1 : Nat) : Int) := by rw [IntWalk.i64_in _ (by omega)]; omega
      by_cases he : outE k W = 0
      · obtain ⟨hl, ha⟩ := at_upto he (by omega) hc.out
        have U := upto_yes he
        have hcl : c < N := by rw [← NH.out]; exact hl
        have C1 := Lib.hid (show (upto W (k + 1)).length = c + 1 by rw [U, List.length_append, hc.out]; rfl)
        rw [he] at RV
        have w8 : IntKind.i64.wrap ((c : Int) + 1) = ((c + 1 : Nat) : Int) := by rw [IntWalk.i64_in _ (by omega)]; omega
        have f1 : ∃ g cap, v1 = .slice (some ⟨g, 0, none⟩) N cap ∧ X.cell? ⟨g, c * 2, none⟩ = some (.int .i64 (k : Int)) ∧ X.cell? ⟨g, c * 2 + 1, none⟩ = some (.int .u64 (outV k W)) := by
          rcases R1h.out with ⟨_, h0⟩ | ⟨g, cap, h1, h2⟩
          · rw [NH.out] at h0; omega
          · obtain ⟨x1, x2⟩ := h2 c hl
            rw [ha] at x1 x2
            rw [NH.out] at h1
            exact ⟨g, cap, h1, by rw [← HX.out]; exact x1, by rw [← HX.out]; exact x2⟩
        obtain ⟨g1, cap1, rfl, x1, x2⟩ := f1
        have hdc : decide (N ≤ c) = false := by simp only [decide_eq_false_iff_not]; omega
        by_cases h2 : c < N2
        · have f2 : ∃ g cap, v2 = .slice (some ⟨g, 0, none⟩) N2 cap ∧ X.cell? ⟨g, c * 2, none⟩ = some (.int .i64 (k : Int)) ∧ X.cell? ⟨g, c * 2 + 1, none⟩ = some (.int .u64 (outV k W)) := by
            rcases R2h.out with ⟨_, h0⟩ | ⟨g, cap, h1, hh⟩
            · rw [List.length_take, NH.out, N2h.out] at h0; omega
            · obtain ⟨y1, y2⟩ := hh c (by rw [List.length_take, NH.out, N2h.out]; exact h2)
              rw [List.getElem_take, ha] at y1 y2
              rw [List.length_take, NH.out, N2h.out] at h1
              exact ⟨g, cap, h1, by rw [← HX.out]; exact y1, by rw [← HX.out]; exact y2⟩
          obtain ⟨g2, cap2, rfl, y1, y2⟩ := f2
          clear he U hl ha
          go_wp2_with fail
          refine RV.out.mono ?_
          rintro e w6 ⟨rfl, rfl⟩
          go_wp2_with fail
          go_quiet (fail)
          go_wp2_with fail
          all_goals exact ⟨⟨k + 1, c + 1, q + nq, by omega, C1, by omega, by first | rfl | rw [← w8], by first | rfl | rw [← w9], by rw [← HX.out]; simp⟩, by simp [intOf]; omega⟩
        · have h2' : decide (c < N2) = false := by simp only [decide_eq_false_iff_not]; omega
          have h0' : decide ((c : Int) < 0) = false := by simp only [decide_eq_false_iff_not]; omega
          have hN20 : (c < N2) = False := by simp only [eq_iff_iff, iff_false]; omega
          have g2 : v2 = .slice none 0 0 ∨ ∃ g cap, v2 = .slice (some ⟨g, 0, none⟩) N2 cap := by
            rcases R2h.out with ⟨h, _⟩ | ⟨g, cap, h1, _⟩
            · exact .inl h
            · rw [List.length_take, NH.out, N2h.out] at h1
              exact .inr ⟨g, cap, h1⟩
          clear he U hl ha
          rcases g2 with rfl | ⟨g2, cap2, rfl⟩
          · clear h2'
            go_wp2_with fail
            refine RV.out.mono ?_
            rintro e w6 ⟨rfl, rfl⟩
            go_wp2_with fail
            go_quiet (fail)
            go_wp2_with fail
            all_goals exact ⟨⟨k + 1, c + 1, q + nq, by omega, C1, by omega, by first | rfl | rw [← w8], by first | rfl | rw [← w9], by rw [← HX.out]; simp⟩, by simp [intOf]; omega⟩
          · clear h0'
            go_wp2_with fail
            refine RV.out.mono ?_
            rintro e w6 ⟨rfl, rfl⟩
            go_wp2_with fail
            go_quiet (fail)
            go_wp2_with fail
            all_goals exact ⟨⟨k + 1, c + 1, q + nq, by omega, C1, by omega, by first | rfl | rw [← w8], by first | rfl | rw [← w9], by rw [← HX.out]; simp⟩, by simp [intOf]; omega⟩
      · have he' : (outE k W != 0) = true := by simp [he]
        have C1 := Lib.hid (show (upto W (k + 1)).length = c by rw [upto_no he]; exact hc.out)
        clear he
        go_wp2_with fail
        refine RV.out.mono ?_
        rintro e w6 ⟨rfl, rfl⟩
        go_wp2_with fail
        all_goals exact ⟨⟨k + 1, c, q, by omega, C1, by omega, rfl, by first | rfl | rw [← w9], by rw [← HX.out]⟩, by simp [intOf]; omega⟩
    · have hcN2 : c = N := by
        have := hc.out
        rw [show k = 8192 by omega, NH.out] at this
        exact this.symm
      have hX2 : Below w.heap.size w X := by rw [← HX.out]; exact below_drewN d5 q
      have H32 := Lib.hid (show W = 32 → N = 1302 from fun h => by rw [← NH.out, h]; exact count32)
      have H64 := Lib.hid (show W = 64 → N = 5334 from fun h => by rw [← NH.out, h]; exact count64)
      have hN2 : (c == N) = true := by simp [hcN2]
      rcases (show W = 32 ∨ W = 64 ∨ ((W != 32) = true ∧ (W != 64) = true) by by_cases a : W = 32; exact .inl a; by_cases b : W = 64; exact .inr (.inl b); exact .inr (.inr ⟨by simp [a], by simp [b]⟩)) with hw | hw | ⟨hw1, hw2⟩
      · have hN3 := H32.out hw
        subst hcN2
        subst hN3
        subst hw
        go_wp2_with fail
        go_ret
        exact ⟨rfl, hX2⟩
      · have hN3 := H64.out hw
        subst hcN2
        subst hN3
        subst hw
        go_wp2_with fail
        go_ret
        exact ⟨rfl, hX2⟩
      · subst hcN2
        go_wp2_with fail
        go_ret
        exact ⟨rfl, hX2⟩

theorem laidOut : laidOutB Tryd.prog = true := by kernel_rfl
set_option maxRecDepth 100000 in
theorem lifted (os : Os) (started : os.Started) (H : Type) (enc : TypeId × Value → H) :
    ReturnsInHanded {} Tryd.checked os 5 .any (fun w args => (Rows.logimmAllSpec.pre enc Tryd.prog Tryd.f5 [] false w args ∧ laidMetH Tryd.prog lay1 w) ∧ sizedMet enc Tryd.prog Tryd.f5 (OpenSpec.ofChange Rows.logimmAllSpec) false w args)
      (Rows.logimmAllSpec.post enc Tryd.prog Tryd.f5 false true false false) := by
  refine returnsInHanded_of_change_and (C := Tryd.checked) (X := fun w _ => laidMetH Tryd.prog lay1 w) (fun _ _ _ hh h => h.of_heap hh) own started (by kernel_rfl) Tryd.func5
    (ChangeSpec.witness_shaped (enc := enc) (C := Tryd.checked) (os := os) (X := fun w _ => laidMetH Tryd.prog lay1 w) false (World.doorLaid Tryd.prog 400 os) #[.int .i64 0, .int .u8 0] 8 rfl (World.shaped_of_RefB (by kernel_rfl) (by kernel_rfl)) (by kernel_rfl) (by kernel_rfl) (by kernel_rfl) (door_met os _)) ?_
  intro W base args ds gs before hval0 hW _ _ hL _
  have hval : ∀ (j : Nat) t v, Tryd.f5.params[j]? = some t → args[j]? = some v → Value.okWide Tryd.prog W .any base t v := hval0
  have hW' := hW
  obtain ⟨p, q, hA0, hV, rfl, hfz, hnd⟩ := hW
  have hA : DataW.TrodAll enc Tryd.prog W 0 (fun _ => true) true Tryd.f5.params.toList args.toList ds p := hA0
  rw [Tryd.params5] at hA hval
  obtain ⟨v0, vs0, d0, ds0, p0, q0, hargs, rfl, rfl, h0, r0⟩ := trodAll_cons hA
  obtain ⟨v1, vs1, d1, ds1, p1, q1, rfl, rfl, rfl, h1, r1⟩ := trodAll_cons r0
  obtain ⟨rfl, rfl, rfl⟩ := trodAll_nil r1
  obtain rfl : args = #[v0, v1] := by cases args; simp_all
  obtain ⟨rfl, rfl⟩ := trodVars_none hV
  have k0 := h0
  have lt0 : ∀ x ∈ p0, x.block < W.heap.size := by obtain ⟨m, hm⟩ := k0; exact DataW.trod_lt m _ _ _ hm
  have k1 := h1
  have lt1 : ∀ x ∈ p1, x.block < W.heap.size := by obtain ⟨m, hm⟩ := k1; exact DataW.trod_lt m _ _ _ hm
  obtain ⟨a0, rfl, _, _, w0⟩ := open_int Tryd.underlying3 (hval 0 3 v0 rfl rfl) h0
  obtain ⟨a1, rfl, _, _, w1⟩ := open_int Tryd.underlying5 (hval 1 5 v1 rfl rfl) h1
  obtain ⟨hT, hTB⟩ := of_laid hL
  clear hA0 hval0
  refine (walk a0 a1 W (u8_wf w1).1 (u8_wf w1).2 hT hTB).mono fun e W' ⟨he, bel⟩ => ?_
  subst he
  exact ⟨_, rfl, _, _, _, [], _, [], hW', trodAll_mk1 (shut_bool Tryd.underlying4 _), (trodAll_cons_mk (Below.trod laidOut (by kernel_rfl) (of_decide_eq_true (by kernel_rfl)) k0 bel lt0) (trodAll_cons_mk (Below.trod laidOut (by kernel_rfl) (of_decide_eq_true (by kernel_rfl)) k1 bel lt1) trodAll_mk0)), rfl, bel.frame _, fun h => by cases h⟩

theorem over : Rows.LogimmAllSaid :=
  OpenClaim.holds_of_wide 5 Tryd.f5 rfl rfl rfl rfl rfl rfl rfl ⟨rfl, rfl, rfl, rfl, rfl⟩ rfl rfl rfl rfl rfl (by kernel_rfl) Tryd.func5 (by kernel_rfl)
    (of_decide_eq_true (by kernel_rfl)) (by unfold Func.isWrapper; first | (rw [if_pos (by decide +kernel)]; kernel_rfl) | (rw [if_neg (by decide +kernel)]; exact ⟨rfl, rfl⟩))
    (fun os started H enc _ => lifted os started H enc)

/-- the given statement -/
theorem proved : Rows.LogimmAllCardSaid :=
  Claim7.holds_tied_plain_at .later [] [.data] true (true, "1710e428d98e2f2aae7cfdc6f48eb6bf3c29e586721ca67a7612e70795cc61d4") false
    over (fun _ h => by cases h) (by kernel_rfl) (fun _ h => by cases h) logimmAll_row_tie rfl ⟨rfl, rfl⟩ (by kernel_rfl) rfl
    (fun f fn hf hfn => by
      obtain rfl : f = 5 := Option.some.inj ((show Tryd.prog.funcNamed "cooper/cooperlaw02.LogimmAll" = some 5 by kernel_rfl).symm.trans hf) |>.symm
      obtain rfl : fn = Tryd.f5 := (Option.some.inj (Tryd.func5.symm.trans hfn)).symm
      exact ⟨by kernel_rfl, fun j t ht => by
        rw [Tryd.params5] at ht
        have hm : t ∈ Tryd.f5.params.toList := by
          have := Array.mem_of_getElem? ht
          simpa [Tryd.f5] using this
        have hall : (Tryd.f5.params.toList.all fun u => !Tryd.prog.wantsStandIn u) = true := by kernel_rfl
        exact (show Tryd.prog.wantsStandIn t = false by simpa using List.all_eq_true.1 hall t hm)⟩)
    (by kernel_rfl)
end Go.Proofs.YtmkeopglgfddjaaDoor.logimmAll
