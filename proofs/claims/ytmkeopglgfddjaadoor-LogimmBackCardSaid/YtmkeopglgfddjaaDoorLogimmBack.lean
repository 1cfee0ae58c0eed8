/-
  For every value, all parts, every field and every width LogimmBack returns true: what is encoded decodes to the value, and what is decoded encodes to the parts and to the field. No conditions.
-/
import Derived.Test.YtmkeopglgfddjaaDoorLogB
import Derived.Test.YtmkeopglgfddjaaDoorTie
import Derived.Test.YtmkeopglgfddjaaDoorCards
import Derived.SevenTiedAt
namespace Go.Proofs.YtmkeopglgfddjaaDoor.logimmBack
open Go.ChangeShapes Go.WideShapes Go.ChangeAt Go.RowKit BM
set_option linter.unusedVariables false

theorem fit_of {a b c W : Nat} (h : IsSize a) (h1 : 1 ≤ b) (h2 : b < a) (h3 : c < a) : Fit (bitN a : Int) (c : Int) ((topN a : Int) + (b : Int) - 1) a := ⟨rfl, by omega, by omega, by omega, by omega⟩
/-- what is encoded decodes to the value -/
theorem dec_of_pat {v W s n t : Int} (b1 : 0 ≤ v) (h : PatOut v W s n t 0) : DecOut (encA s 0) t (encC s n 0) W v 0 := by
  rcases h with ⟨hW, ⟨a, b, c, hf, rfl, rfl, rfl⟩, _⟩ | ⟨_, _, _, _, _, h0⟩ | ⟨_, _, _, _, h0⟩
  · obtain ⟨h1, h2, h3, h4, h5⟩ := found_range hf
    refine .inl ⟨hW, ⟨a, h1, h5, ?_, ?_⟩, rfl⟩
    · unfold encA encC; rw [if_pos rfl, if_pos rfl, Int.toNat_natCast]; exact fit_of (W := 0) h1 h2 h3 h4
    · unfold decI encC
      rw [if_pos rfl, Int.toNat_natCast, Int.toNat_natCast, show ((topN a : Int) + (b : Int) - 1 - (topN a : Int) + 1).toNat = b by omega, hf.2]
      omega
  · exact absurd h0 (by decide)
  · exact absurd h0 (by decide)
/-- what is decoded encodes to the parts -/
theorem pat_of_dec {v W n r m : Int} (h : DecOut n r m W v 0) : ∃ s k : Int, PatOut v W s k r 0 ∧ encA s 0 = n ∧ encC s k 0 = m := by
  rcases h with ⟨hW, ⟨a, h1, h5, hf, rfl⟩, _⟩ | ⟨_, _, _, h0⟩ | ⟨_, _, h0⟩
  · have hv := fit_valid h1 h5 hf
    obtain ⟨f1, f2, f3, f4, f5⟩ := hf
    refine ⟨(a : Int), (((m - (topN a : Int) + 1).toNat : Nat) : Int), .inl ⟨hW, ⟨a, (m - (topN a : Int) + 1).toNat, r.toNat, ⟨hv, ?_⟩, rfl, rfl, by omega⟩, rfl⟩, ?_, ?_⟩
    · unfold decI; rw [Int.toNat_natCast]
    · unfold encA; rw [if_pos rfl, Int.toNat_natCast]; exact f1.symm
    · unfold encC; rw [if_pos rfl, Int.toNat_natCast]; omega
  · exact absurd h0 (by decide)
  · exact absurd h0 (by decide)
theorem u64_wf {v : Int} (h : (Lit.int .u64 v).wf = true) : 0 ≤ v ∧ v < 18446744073709551616 := by
  simp [Lit.wf, IntKind.min, IntKind.max, IntKind.bits, IntKind.signed] at h; omega

set_option maxRecDepth 100000 in
set_option maxHeartbeats 4000000 in
theorem walk (v n r m f W : Int) (w : World) (b1 : 0 ≤ v) (b2 : v < 18446744073709551616) (hT : Tab w) (hTB : 0 < w.heap.size) :
    Calls Tryd.prog 6 #[.int .u64 v, .int .i64 n, .int .i64 r, .int .i64 m, .int .i64 f, .int .i64 W] w fun e w' => e = .returned (.bool true) ∧ Below w.heap.size w w' := by
  obtain ⟨s, q, t, e, h⟩ := patOut_ex v W
  obtain ⟨a, e2, h2⟩ := decOut_ex n r m W
  obtain ⟨b, e3, h3⟩ := decOut_ex (pN f) (pR f) (pM f) W
  have E1 := Lib.hid (fun w hT hB => encode_out h b1 b2 w hT hB)
  have D1 := Lib.hid (fun w => decode_out h2 w)
  have V1 := Lib.hid (fun w => value_out (f := f) h3 w)
  have BG := Lib.hid (fun w hT hTB => begun_any w hT hTB)
  have HT := Lib.hid hT
  have HB := Lib.hid hTB
  have X1 := Lib.hid (fun (he : e = 0) => show DecOut (encA s e) t (encC s q e) W v 0 by subst he; exact dec_of_pat b1 h)
  have X2 := Lib.hid (fun (he : e2 = 0) => show ∃ s k : Int, PatOut a W s k r 0 ∧ encA s 0 = n ∧ encC s k 0 = m by subst he; exact pat_of_dec h2)
  have X3 := Lib.hid (fun (he : e3 = 0) => show ∃ s k : Int, PatOut b W s k (pR f) 0 ∧ encA s 0 = pN f ∧ encC s k 0 = pM f by subst he; exact pat_of_dec h3)
  have Y2 := Lib.hid h2.bd
  have Y3 := Lib.hid h3.bd
  clear h h2 h3 b1 b2 hT hTB
  have bb := Below.refl w.heap.size w
  have hz : 0 < w.heap.size := HB.out
  go_enter Tryd.func6, Tryd.ntmps6
  go_wp2_with fail
  refine (BG.out _ (HT.out.keep HB.out bb) (by have := HB.out; have := bb.size; omega)).mono ?_
  rintro e1 w1 ⟨rfl, bn⟩
  replace bb := Below.thn bb bb.size bn
  clear bn
  go_wp2_with fail
  refine (E1.out _ (HT.out.keep HB.out bb) (by have := HB.out; have := bb.size; omega)).mono ?_
  rintro e1 w1 ⟨rfl, bn⟩
  replace bb := Below.thn bb bb.size bn
  clear bn
  by_cases he : e = 0
  · have D0 := Lib.hid (fun w => decode_out (X1.out he) w)
    clear X1
    subst he
    go_wp2_with fail
    refine (D0.out _).mono ?_
    rintro e1 w1 ⟨rfl, bn⟩
    replace bb := Below.thn bb bb.size bn
    clear bn
    go_wp2_with fail
    refine (D1.out _).mono ?_
    rintro e1 w1 ⟨rfl, bn⟩
    replace bb := Below.thn bb bb.size bn
    clear bn
    by_cases he2 : e2 = 0
    · obtain ⟨s2, k2, p2, x2, y2⟩ := X2.out he2
      have E2 := Lib.hid (fun w hT hB => encode_out p2 Y2.out.1 Y2.out.2.1 w hT hB)
      rw [x2, y2] at E2
      clear p2 x2 y2
      subst he2
      go_wp2_with fail
      refine (E2.out _ (HT.out.keep HB.out bb) (by have := HB.out; have := bb.size; omega)).mono ?_
      rintro e1 w1 ⟨rfl, bn⟩
      replace bb := Below.thn bb bb.size bn
      clear bn
      go_wp2_with fail
      refine (V1.out _).mono ?_
      rintro e1 w1 ⟨rfl, bn⟩
      replace bb := Below.thn bb bb.size bn
      clear bn
      by_cases he3 : e3 = 0
      · obtain ⟨s3, k3, p3, x3, y3⟩ := X3.out he3
        have F3 := Lib.hid (fun w hT hB => field_out p3 Y3.out.1 Y3.out.2.1 w hT hB)
        have ef : encF s3 k3 (pR f) 0 = f := by unfold encF; rw [x3, y3]; unfold pN pR pM; omega
        rw [ef] at F3
        clear p3 x3 y3 ef
        subst he3
        go_wp2_with fail
        refine (F3.out _ (HT.out.keep HB.out bb) (by have := HB.out; have := bb.size; omega)).mono ?_
        rintro e1 w1 ⟨rfl, bn⟩
        replace bb := Below.thn bb bb.size bn
        clear bn
        go_wp2
        go_ret
        exact ⟨rfl, bb⟩
      · have ne3 : (e3 != 0) = true := by simp [he3]
        clear he3
        go_wp2
        go_ret
        exact ⟨rfl, bb⟩
    · have ne2 : (e2 == 0) = false := by simp [he2]
      clear he2
      go_wp2_with fail
      refine (V1.out _).mono ?_
      rintro e1 w1 ⟨rfl, bn⟩
      replace bb := Below.thn bb bb.size bn
      clear bn
      by_cases he3 : e3 = 0
      · obtain ⟨s3, k3, p3, x3, y3⟩ := X3.out he3
        have F3 := Lib.hid (fun w hT hB => field_out p3 Y3.out.1 Y3.out.2.1 w hT hB)
        have ef : encF s3 k3 (pR f) 0 = f := by unfold encF; rw [x3, y3]; unfold pN pR pM; omega
        rw [ef] at F3
        clear p3 x3 y3 ef
        subst he3
        go_wp2_with fail
        refine (F3.out _ (HT.out.keep HB.out bb) (by have := HB.out; have := bb.size; omega)).mono ?_
        rintro e1 w1 ⟨rfl, bn⟩
        replace bb := Below.thn bb bb.size bn
        clear bn
        go_wp2
        go_ret
        exact ⟨rfl, bb⟩
      · have ne3 : (e3 != 0) = true := by simp [he3]
        clear he3
        go_wp2
        go_ret
        exact ⟨rfl, bb⟩
  · have ne : (e == 0) = false := by simp [he]
    clear he
    go_wp2_with fail
    refine (D1.out _).mono ?_
    rintro e1 w1 ⟨rfl, bn⟩
    replace bb := Below.thn bb bb.size bn
    clear bn
    by_cases he2 : e2 = 0
    · obtain ⟨s2, k2, p2, x2, y2⟩ := X2.out he2
      have E2 := Lib.hid (fun w hT hB => encode_out p2 Y2.out.1 Y2.out.2.1 w hT hB)
      rw [x2, y2] at E2
      clear p2 x2 y2
      subst he2
      go_wp2_with fail
      refine (E2.out _ (HT.out.keep HB.out bb) (by have := HB.out; have := bb.size; omega)).mono ?_
      rintro e1 w1 ⟨rfl, bn⟩
      replace bb := Below.thn bb bb.size bn
      clear bn
      go_wp2_with fail
      refine (V1.out _).mono ?_
      rintro e1 w1 ⟨rfl, bn⟩
      replace bb := Below.thn bb bb.size bn
      clear bn
      by_cases he3 : e3 = 0
      · obtain ⟨s3, k3, p3, x3, y3⟩ := X3.out he3
        have F3 := Lib.hid (fun w hT hB => field_out p3 Y3.out.1 Y3.out.2.1 w hT hB)
        have ef : encF s3 k3 (pR f) 0 = f := by unfold encF; rw [x3, y3]; unfold pN pR pM; omega
        rw [ef] at F3
        clear p3 x3 y3 ef
        subst he3
        go_wp2_with fail
        refine (F3.out _ (HT.out.keep HB.out bb) (by have := HB.out; have := bb.size; omega)).mono ?_
        rintro e1 w1 ⟨rfl, bn⟩
        replace bb := Below.thn bb bb.size bn
        clear bn
        go_wp2
        go_ret
        exact ⟨rfl, bb⟩
      · have ne3 : (e3 != 0) = true := by simp [he3]
        clear he3
        go_wp2
        go_ret
        exact ⟨rfl, bb⟩
    · have ne2 : (e2 == 0) = false := by simp [he2]
      clear he2
      go_wp2_with fail
      refine (V1.out _).mono ?_
      rintro e1 w1 ⟨rfl, bn⟩
      replace bb := Below.thn bb bb.size bn
      clear bn
      by_cases he3 : e3 = 0
      · obtain ⟨s3, k3, p3, x3, y3⟩ := X3.out he3
        have F3 := Lib.hid (fun w hT hB => field_out p3 Y3.out.1 Y3.out.2.1 w hT hB)
        have ef : encF s3 k3 (pR f) 0 = f := by unfold encF; rw [x3, y3]; unfold pN pR pM; omega
        rw [ef] at F3
        clear p3 x3 y3 ef
        subst he3
        go_wp2_with fail
        refine (F3.out _ (HT.out.keep HB.out bb) (by have := HB.out; have := bb.size; omega)).mono ?_
        rintro e1 w1 ⟨rfl, bn⟩
        replace bb := Below.thn bb bb.size bn
        clear bn
        go_wp2
        go_ret
        exact ⟨rfl, bb⟩
      · have ne3 : (e3 != 0) = true := by simp [he3]
        clear he3
        go_wp2
        go_ret
        exact ⟨rfl, bb⟩

theorem laidOut : laidOutB Tryd.prog = true := by kernel_rfl
set_option maxRecDepth 100000 in
theorem lifted (os : Os) (started : os.Started) (H : Type) (enc : TypeId × Value → H) :
    ReturnsInHanded {} Tryd.checked os 6 .any (fun w args => (Rows.logimmBackSpec.pre enc Tryd.prog Tryd.f6 [] false w args ∧ laidMetH Tryd.prog lay1 w) ∧ sizedMet enc Tryd.prog Tryd.f6 (OpenSpec.ofChange Rows.logimmBackSpec) false w args)
      (Rows.logimmBackSpec.post enc Tryd.prog Tryd.f6 false true false false) := by
  refine returnsInHanded_of_change_and (C := Tryd.checked) (X := fun w _ => laidMetH Tryd.prog lay1 w) (fun _ _ _ hh h => h.of_heap hh) own started (by kernel_rfl) Tryd.func6
    (ChangeSpec.witness_shaped (enc := enc) (C := Tryd.checked) (os := os) (X := fun w _ => laidMetH Tryd.prog lay1 w) false (World.doorLaid Tryd.prog 400 os) #[.int .u64 0, .int .i64 0, .int .i64 0, .int .i64 0, .int .i64 0, .int .i64 0] 8 rfl (World.shaped_of_RefB (by kernel_rfl) (by kernel_rfl)) (by kernel_rfl) (by kernel_rfl) (by kernel_rfl) (door_met os _)) ?_
  intro W base args ds gs before hval0 hW _ _ hL _
  have hval : ∀ (j : Nat) t v, Tryd.f6.params[j]? = some t → args[j]? = some v → Value.okWide Tryd.prog W .any base t v := hval0
  have hW' := hW
  obtain ⟨p, q, hA0, hV, rfl, hfz, hnd⟩ := hW
  have hA : DataW.TrodAll enc Tryd.prog W 0 (fun _ => true) true Tryd.f6.params.toList args.toList ds p := hA0
  rw [Tryd.params6] at hA hval
  obtain ⟨v0, vs0, d0, ds0, p0, q0, hargs, rfl, rfl, h0, r0⟩ := trodAll_cons hA
  obtain ⟨v1, vs1, d1, ds1, p1, q1, rfl, rfl, rfl, h1, r1⟩ := trodAll_cons r0
  obtain ⟨v2, vs2, d2, ds2, p2, q2, rfl, rfl, rfl, h2, r2⟩ := trodAll_cons r1
  obtain ⟨v3, vs3, d3, ds3, p3, q3, rfl, rfl, rfl, h3, r3⟩ := trodAll_cons r2
  obtain ⟨v4, vs4, d4, ds4, p4, q4, rfl, rfl, rfl, h4, r4⟩ := trodAll_cons r3
  obtain ⟨v5, vs5, d5, ds5, p5, q5, rfl, rfl, rfl, h5, r5⟩ := trodAll_cons r4
  obtain ⟨rfl, rfl, rfl⟩ := trodAll_nil r5
  obtain rfl : args = #[v0, v1, v2, v3, v4, v5] := by cases args; simp_all
  obtain ⟨rfl, rfl⟩ := trodVars_none hV
  have k0 := h0
  have lt0 : ∀ x ∈ p0, x.block < W.heap.size := by obtain ⟨m, hm⟩ := k0; exact DataW.trod_lt m _ _ _ hm
  have k1 := h1
  have lt1 : ∀ x ∈ p1, x.block < W.heap.size := by obtain ⟨m, hm⟩ := k1; exact DataW.trod_lt m _ _ _ hm
  have k2 := h2
  have lt2 : ∀ x ∈ p2, x.block < W.heap.size := by obtain ⟨m, hm⟩ := k2; exact DataW.trod_lt m _ _ _ hm
  have k3 := h3
  have lt3 : ∀ x ∈ p3, x.block < W.heap.size := by obtain ⟨m, hm⟩ := k3; exact DataW.trod_lt m _ _ _ hm
  have k4 := h4
  have lt4 : ∀ x ∈ p4, x.block < W.heap.size := by obtain ⟨m, hm⟩ := k4; exact DataW.trod_lt m _ _ _ hm
  have k5 := h5
  have lt5 : ∀ x ∈ p5, x.block < W.heap.size := by obtain ⟨m, hm⟩ := k5; exact DataW.trod_lt m _ _ _ hm
  obtain ⟨a0, rfl, _, _, w0⟩ := open_int Tryd.underlying22 (hval 0 22 v0 rfl rfl) h0
  obtain ⟨a1, rfl, _, _, w1⟩ := open_int Tryd.underlying3 (hval 1 3 v1 rfl rfl) h1
  obtain ⟨a2, rfl, _, _, w2⟩ := open_int Tryd.underlying3 (hval 2 3 v2 rfl rfl) h2
  obtain ⟨a3, rfl, _, _, w3⟩ := open_int Tryd.underlying3 (hval 3 3 v3 rfl rfl) h3
  obtain ⟨a4, rfl, _, _, w4⟩ := open_int Tryd.underlying3 (hval 4 3 v4 rfl rfl) h4
  obtain ⟨a5, rfl, _, _, w5⟩ := open_int Tryd.underlying3 (hval 5 3 v5 rfl rfl) h5
  obtain ⟨hT, hTB⟩ := of_laid hL
  clear hA0 hval0
  refine (walk a0 a1 a2 a3 a4 a5 W (u64_wf w0).1 (u64_wf w0).2 hT hTB).mono fun e W' ⟨he, bel⟩ => ?_
  subst he
  exact ⟨_, rfl, _, _, _, [], _, [], hW', trodAll_mk1 (shut_bool Tryd.underlying4 _), (trodAll_cons_mk (Below.trod laidOut (by kernel_rfl) (of_decide_eq_true (by kernel_rfl)) k0 bel lt0) (trodAll_cons_mk (Below.trod laidOut (by kernel_rfl) (of_decide_eq_true (by kernel_rfl)) k1 bel lt1) (trodAll_cons_mk (Below.trod laidOut (by kernel_rfl) (of_decide_eq_true (by kernel_rfl)) k2 bel lt2) (trodAll_cons_mk (Below.trod laidOut (by kernel_rfl) (of_decide_eq_true (by kernel_rfl)) k3 bel lt3) (trodAll_cons_mk (Below.trod laidOut (by kernel_rfl) (of_decide_eq_true (by kernel_rfl)) k4 bel lt4) (trodAll_cons_mk (Below.trod laidOut (by kernel_rfl) (of_decide_eq_true (by kernel_rfl)) k5 bel lt5) trodAll_mk0)))))), rfl, bel.frame _, fun h => by cases h⟩

theorem over : Rows.LogimmBackSaid :=
  OpenClaim.holds_of_wide 6 Tryd.f6 rfl rfl rfl rfl rfl rfl rfl ⟨rfl, rfl, rfl, rfl, rfl⟩ rfl rfl rfl rfl rfl (by kernel_rfl) Tryd.func6 (by kernel_rfl)
    (of_decide_eq_true (by kernel_rfl)) (by unfold Func.isWrapper; first | (rw [if_pos (by decide +kernel)]; kernel_rfl) | (rw [if_neg (by decide +kernel)]; exact ⟨rfl, rfl⟩))
    (fun os started H enc _ => lifted os started H enc)

/-- the given statement -/
theorem proved : Rows.LogimmBackCardSaid :=
  Claim7.holds_tied_plain_at .later [] [.data] true (true, "1710e428d98e2f2aae7cfdc6f48eb6bf3c29e586721ca67a7612e70795cc61d4") false
    over (fun _ h => by cases h) (by kernel_rfl) (fun _ h => by cases h) logimmBack_row_tie rfl ⟨rfl, rfl⟩ (by kernel_rfl) rfl
    (fun f fn hf hfn => by
      obtain rfl : f = 6 := Option.some.inj ((show Tryd.prog.funcNamed "cooper/cooperlaw02.LogimmBack" = some 6 by kernel_rfl).symm.trans hf) |>.symm
      obtain rfl : fn = Tryd.f6 := (Option.some.inj (Tryd.func6.symm.trans hfn)).symm
      exact ⟨by kernel_rfl, fun j t ht => by
        rw [Tryd.params6] at ht
        have hm : t ∈ Tryd.f6.params.toList := by
          have := Array.mem_of_getElem? ht
          simpa [Tryd.f6] using this
        have hall : (Tryd.f6.params.toList.all fun u => !Tryd.prog.wantsStandIn u) = true := by kernel_rfl
        exact (show Tryd.prog.wantsStandIn t = false by simpa using List.all_eq_true.1 hall t hm)⟩)
    (by kernel_rfl)
end Go.Proofs.YtmkeopglgfddjaaDoor.logimmBack
