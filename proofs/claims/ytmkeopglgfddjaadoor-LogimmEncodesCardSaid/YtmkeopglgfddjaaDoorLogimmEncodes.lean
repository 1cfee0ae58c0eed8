/-
  For every value and every width LogimmEncodes returns true: Encode, Field and Pattern give the parts, the field and the pattern, and the error, that the document gives. No conditions.
-/
import Derived.Test.YtmkeopglgfddjaaDoorLogB
import Derived.Test.YtmkeopglgfddjaaDoorTie
import Derived.Test.YtmkeopglgfddjaaDoorCards
import Derived.SevenTiedAt
namespace Go.Proofs.YtmkeopglgfddjaaDoor.logimmEncodes
open Go.ChangeShapes Go.WideShapes Go.ChangeAt Go.RowKit BM
set_option linter.unusedVariables false

set_option maxRecDepth 100000 in
set_option maxHeartbeats 1000000 in
theorem walk (v W : Int) (w : World) (b1 : 0 ≤ v) (b2 : v < 18446744073709551616) (hT : Tab w) (hTB : 0 < w.heap.size) :
    Calls Tryd.prog 4 #[.int .u64 v, .int .i64 W] w fun e w' => e = .returned (.bool true) ∧ Below w.heap.size w w' := by
  obtain ⟨s, n, t, e, h⟩ := patOut_ex v W
  have E1 := Lib.hid (fun w hT hB => encode_out h b1 b2 w hT hB)
  have E2 := Lib.hid (fun w => rencode_out h b1 b2 w)
  have F1 := Lib.hid (fun w hT hB => field_out h b1 b2 w hT hB)
  have F2 := Lib.hid (fun w => rfield_out h b1 b2 w)
  have P1 := Lib.hid (fun w hT hB => pattern_out h b1 b2 w hT hB)
  have P2 := Lib.hid (fun w => rpattern_out h b1 b2 w)
  have BG := Lib.hid (fun w hT hTB => begun_any w hT hTB)
  have HT := Lib.hid hT
  have HB := Lib.hid hTB
  clear h b1 b2 hT hTB
  go_enter Tryd.func4, Tryd.ntmps4
  go_wp2_with fail
  refine (E1.out _ HT.out HB.out).mono ?_
  rintro e1 w1 ⟨rfl, c1⟩
  go_wp2_with fail
  refine (E2.out _).mono ?_
  rintro e1 w2 ⟨rfl, rfl⟩
  go_wp2_with fail
  refine (F1.out _ (HT.out.keep HB.out c1) (by have := HB.out; have := c1.size; omega)).mono ?_
  rintro e1 w3 ⟨rfl, c3⟩
  have d3 := Below.thn c1 c1.size c3
  clear c3
  go_wp2_with fail
  refine (F2.out _).mono ?_
  rintro e1 w4 ⟨rfl, rfl⟩
  go_wp2_with fail
  refine (P1.out _ (HT.out.keep HB.out d3) (by have := HB.out; have := d3.size; omega)).mono ?_
  rintro e1 w5 ⟨rfl, c5⟩
  have d5 := Below.thn d3 d3.size c5
  clear c5
  go_wp2_with fail
  refine (P2.out _).mono ?_
  rintro e1 w6 ⟨rfl, rfl⟩
  go_wp2_with fail
  refine (BG.out _ (HT.out.keep HB.out d5) (by have := HB.out; have := d5.size; omega)).mono ?_
  rintro e1 w7 ⟨rfl, c7⟩
  go_wp2
  go_ret
  exact ⟨rfl, Below.thn d5 d5.size c7⟩
theorem u64_wf {v : Int} (h : (Lit.int .u64 v).wf = true) : 0 ≤ v ∧ v < 18446744073709551616 := by
  simp [Lit.wf, IntKind.min, IntKind.max, IntKind.bits, IntKind.signed] at h; omega

theorem laidOut : laidOutB Tryd.prog = true := by kernel_rfl
set_option maxRecDepth 100000 in
theorem lifted (os : Os) (started : os.Started) (H : Type) (enc : TypeId × Value → H) :
    ReturnsInHanded {} Tryd.checked os 4 .any (fun w args => (Rows.logimmEncodesSpec.pre enc Tryd.prog Tryd.f4 [] false w args ∧ laidMetH Tryd.prog lay1 w) ∧ sizedMet enc Tryd.prog Tryd.f4 (OpenSpec.ofChange Rows.logimmEncodesSpec) false w args)
      (Rows.logimmEncodesSpec.post enc Tryd.prog Tryd.f4 false true false false) := by
  refine returnsInHanded_of_change_and (C := Tryd.checked) (X := fun w _ => laidMetH Tryd.prog lay1 w) (fun _ _ _ hh h => h.of_heap hh) own started (by kernel_rfl) Tryd.func4
    (ChangeSpec.witness_shaped (enc := enc) (C := Tryd.checked) (os := os) (X := fun w _ => laidMetH Tryd.prog lay1 w) false (World.doorLaid Tryd.prog 400 os) #[.int .u64 0, .int .i64 0] 8 rfl (World.shaped_of_RefB (by kernel_rfl) (by kernel_rfl)) (by kernel_rfl) (by kernel_rfl) (by kernel_rfl) (door_met os _)) ?_
  intro W base args ds gs before hval0 hW _ _ hL _
  have hval : ∀ (j : Nat) t v, Tryd.f4.params[j]? = some t → args[j]? = some v → Value.okWide Tryd.prog W .any base t v := hval0
  have hW' := hW
  obtain ⟨p, q, hA0, hV, rfl, hfz, hnd⟩ := hW
  have hA : DataW.TrodAll enc Tryd.prog W 0 (fun _ => true) true Tryd.f4.params.toList args.toList ds p := hA0
  rw [Tryd.params4] at hA hval
  obtain ⟨v0, vs0, d0, ds0, p0, q0, hargs, rfl, rfl, h0, r0⟩ := trodAll_cons hA
  obtain ⟨v1, vs1, d1, ds1, p1, q1, rfl, rfl, rfl, h1, r1⟩ := trodAll_cons r0
  obtain ⟨rfl, rfl, rfl⟩ := trodAll_nil r1
  obtain rfl : args = #[v0, v1] := by cases args; simp_all
  obtain ⟨rfl, rfl⟩ := trodVars_none hV
  have k0 := h0
  have lt0 : ∀ x ∈ p0, x.block < W.heap.size := by obtain ⟨m, hm⟩ := k0; exact DataW.trod_lt m _ _ _ hm
  have k1 := h1
  have lt1 : ∀ x ∈ p1, x.block < W.heap.size := by obtain ⟨m, hm⟩ := k1; exact DataW.trod_lt m _ _ _ hm
  obtain ⟨a0, rfl, _, _, w0⟩ := open_int Tryd.underlying22 (hval 0 22 v0 rfl rfl) h0
  obtain ⟨a1, rfl, _, _, w1⟩ := open_int Tryd.underlying3 (hval 1 3 v1 rfl rfl) h1
  obtain ⟨hT, hTB⟩ := of_laid hL
  clear hA0 hval0
  refine (walk a0 a1 W (u64_wf w0).1 (u64_wf w0).2 hT hTB).mono fun e W' ⟨he, bel⟩ => ?_
  subst he
  exact ⟨_, rfl, _, _, _, [], _, [], hW', trodAll_mk1 (shut_bool Tryd.underlying4 _), (trodAll_cons_mk (Below.trod laidOut (by kernel_rfl) (of_decide_eq_true (by kernel_rfl)) k0 bel lt0) (trodAll_cons_mk (Below.trod laidOut (by kernel_rfl) (of_decide_eq_true (by kernel_rfl)) k1 bel lt1) trodAll_mk0)), rfl, bel.frame _, fun h => by cases h⟩

theorem over : Rows.LogimmEncodesSaid :=
  OpenClaim.holds_of_wide 4 Tryd.f4 rfl rfl rfl rfl rfl rfl rfl ⟨rfl, rfl, rfl, rfl, rfl⟩ rfl rfl rfl rfl rfl (by kernel_rfl) Tryd.func4 (by kernel_rfl)
    (of_decide_eq_true (by kernel_rfl)) (by unfold Func.isWrapper; first | (rw [if_pos (by decide +kernel)]; kernel_rfl) | (rw [if_neg (by decide +kernel)]; exact ⟨rfl, rfl⟩))
    (fun os started H enc _ => lifted os started H enc)

/-- the given statement -/
theorem proved : Rows.LogimmEncodesCardSaid :=
  Claim7.holds_tied_plain_at .later [] [.data] true (true, "1710e428d98e2f2aae7cfdc6f48eb6bf3c29e586721ca67a7612e70795cc61d4") false
    over (fun _ h => by cases h) (by kernel_rfl) (fun _ h => by cases h) logimmEncodes_row_tie rfl ⟨rfl, rfl⟩ (by kernel_rfl) rfl
    (fun f fn hf hfn => by
      obtain rfl : f = 4 := Option.some.inj ((show Tryd.prog.funcNamed "cooper/cooperlaw02.LogimmEncodes" = some 4 by kernel_rfl).symm.trans hf) |>.symm
      obtain rfl : fn = Tryd.f4 := (Option.some.inj (Tryd.func4.symm.trans hfn)).symm
      exact ⟨by kernel_rfl, fun j t ht => by
        rw [Tryd.params4] at ht
        have hm : t ∈ Tryd.f4.params.toList := by
          have := Array.mem_of_getElem? ht
          simpa [Tryd.f4] using this
        have hall : (Tryd.f4.params.toList.all fun u => !Tryd.prog.wantsStandIn u) = true := by kernel_rfl
        exact (show Tryd.prog.wantsStandIn t = false by simpa using List.all_eq_true.1 hall t hm)⟩)
    (by kernel_rfl)
end Go.Proofs.YtmkeopglgfddjaaDoor.logimmEncodes
