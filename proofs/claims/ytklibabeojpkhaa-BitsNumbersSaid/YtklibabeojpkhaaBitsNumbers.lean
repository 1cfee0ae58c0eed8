/-
  For every number, every width and every distance BitsNumbers returns true: Sign, Turn, Ones and Fits answer as the document's own functions do. No conditions.
-/
import Derived.Test.YtklibabeojpkhaaBitsF
import Derived.OpenShut
import Derived.Lib.SmallJoins
namespace Go.Proofs.Ytklibabeojpkhaa.bitsNumbers
open Go.ChangeShapes Go.WideShapes Go.ChangeAt Go.RowKit BM
set_option linter.unusedVariables false

theorem ret1b' {a : Bool} (h : a = true) : Ending.returned (.bool a) = .returned (.bool true) := by rw [h]

set_option maxHeartbeats 400000 in
theorem walk_of (v n b a e0 c g0 o : Int) (p q : Bool) (w : World)
    (S : ∀ w, Calls Try.prog 19 #[.int .u64 v, .int .i64 n] w fun e w' => e = .returned (.tuple #[.int .i64 a, .int .i64 e0]) ∧ w = w')
    (RS : ∀ w, Calls Try.prog 20 #[.int .u64 v, .int .i64 n] w fun e w' => e = .returned (.tuple #[.int .i64 a, .int .i64 e0]) ∧ w = w')
    (T : ∀ w, Calls Try.prog 21 #[.int .u64 v, .int .i64 n, .int .i64 b] w fun e w' => e = .returned (.tuple #[.int .u64 c, .int .i64 g0]) ∧ Below w.heap.size w w')
    (RT : ∀ w, Calls Try.prog 22 #[.int .u64 v, .int .i64 n, .int .i64 b] w fun e w' => e = .returned (.tuple #[.int .u64 c, .int .i64 g0]) ∧ w = w')
    (P : ∀ w, Calls Try.prog 23 #[.int .i64 b] w fun e w' => e = .returned (.int .u64 o) ∧ w = w')
    (RP : ∀ w, Calls Try.prog 24 #[.int .i64 b] w fun e w' => e = .returned (.int .u64 o) ∧ w = w')
    (F1 : ∀ w, Calls Try.prog 25 #[.int .i64 (wrap64 v), .int .i64 n, .bool true] w fun e w' => e = .returned (.bool p) ∧ w = w')
    (RF1 : ∀ w, Calls Try.prog 26 #[.int .i64 (wrap64 v), .int .i64 n, .bool true] w fun e w' => e = .returned (.bool p) ∧ w = w')
    (F2 : ∀ w, Calls Try.prog 25 #[.int .i64 (wrap64 v), .int .i64 n, .bool false] w fun e w' => e = .returned (.bool q) ∧ w = w')
    (RF2 : ∀ w, Calls Try.prog 26 #[.int .i64 (wrap64 v), .int .i64 n, .bool false] w fun e w' => e = .returned (.bool q) ∧ w = w') :
    Calls Try.prog 5 #[.int .u64 v, .int .i64 n, .int .i64 b] w fun e w' => e = .returned (.bool true) ∧ Below w.heap.size w w' := by
  have S' := Lib.hid S
  have RS' := Lib.hid RS
  have T' := Lib.hid T
  have RT' := Lib.hid RT
  have P' := Lib.hid P
  have RP' := Lib.hid RP
  have F1' := Lib.hid F1
  have RF1' := Lib.hid RF1
  have F2' := Lib.hid F2
  have RF2' := Lib.hid RF2
  clear S RS T RT P RP F1 RF1 F2 RF2
  go_enter Try.func5, Try.ntmps5
  go_wp2_with (first | (go_at_call 9; refine (live_any _).mono ?_; rintro e w1 ⟨rfl, hb1⟩))
  refine (S'.out _).mono ?_; rintro e wx0 ⟨rfl, rfl⟩
  go_wp2_with fail
  refine (RS'.out _).mono ?_; rintro e wx1 ⟨rfl, rfl⟩
  go_wp2_with fail
  refine (T'.out _).mono ?_; rintro e wT ⟨rfl, hbT⟩
  go_wp2_with fail
  refine (RT'.out _).mono ?_; rintro e wx3 ⟨rfl, rfl⟩
  go_wp2_with fail
  refine (P'.out _).mono ?_; rintro e wx4 ⟨rfl, rfl⟩
  go_wp2_with fail
  refine (RP'.out _).mono ?_; rintro e wx5 ⟨rfl, rfl⟩
  go_wp2_with fail
  refine (F1'.out _).mono ?_; rintro e wx6 ⟨rfl, rfl⟩
  go_wp2_with fail
  refine (RF1'.out _).mono ?_; rintro e wx7 ⟨rfl, rfl⟩
  go_wp2_with fail
  refine (F2'.out _).mono ?_; rintro e wx8 ⟨rfl, rfl⟩
  go_wp2_with fail
  refine (RF2'.out _).mono ?_; rintro e wx9 ⟨rfl, rfl⟩
  go_wp2_with fail
  go_ret
  exact ⟨ret1b' (by simp), Below.thn hb1 hb1.size hbT⟩

theorem walk (v n b : Int) (w : World) (wv : (Lit.int .u64 v).wf = true) :
    Calls Try.prog 5 #[.int .u64 v, .int .i64 n, .int .i64 b] w fun e w' => e = .returned (.bool true) ∧ Below w.heap.size w w' := by
  obtain ⟨b1, b2⟩ := bounds_u64 wv
  have b3 : v < 18446744073709551616 := by omega
  have x1 : -9223372036854775808 ≤ wrap64 v ∧ wrap64 v ≤ 9223372036854775807 := by unfold wrap64; omega
  obtain ⟨o, P, RP⟩ : ∃ o, (∀ w, Calls Try.prog 23 #[.int .i64 b] w fun e w' => e = .returned (.int .u64 o) ∧ w = w') ∧ (∀ w, Calls Try.prog 24 #[.int .i64 b] w fun e w' => e = .returned (.int .u64 o) ∧ w = w') := by
    by_cases g : b < 0
    · exact ⟨0, fun w => ones_neg b w (by omega), fun w => rones_neg b w g⟩
    · by_cases g2 : b ≤ 64
      · exact ⟨onesI b, fun w => ones_any b w (by omega) g2, fun w => rones_mid b b w (by omega) g2 (.inl ⟨g2, rfl⟩)⟩
      · exact ⟨onesI 64, fun w => ones_over b w (by omega), fun w => rones_mid b 64 w (by omega) (by omega) (.inr ⟨by omega, rfl⟩)⟩
  by_cases h : n < 1 ∨ 64 < n
  · exact walk_of v n b 0 10 0 10 o false false w (fun w => sign_no v n w h) (fun w => rsign_no v n w h) (fun w => (turn_no v n b w h).mono fun e w' hh => ⟨hh.1, hh.2 ▸ Below.refl _ _⟩) (fun w => rturn_no v n b w h) P RP (fun w => fits_no _ n true w h) (fun w => rfits_no _ n true w h) (fun w => fits_no _ n false w h) (fun w => rfits_no _ n false w h)
  · have h1 : 1 ≤ n := by omega
    have h2 : n ≤ 64 := by omega
    by_cases hv : v < powI n
    · exact walk_of v n b _ 0 _ 0 o _ _ w (fun w => sign_yes v n w b1 h1 h2) (fun w => rsign_yes v n w b1 b3 h1 h2) (fun w => turn_yes v n b w b1 b3 h1 h2 hv) (fun w => rturn_yes v n b w b1 b3 h1 h2 hv) P RP (fun w => fits_yes _ n true w h1 h2) (fun w => rfits_s _ n w x1.1 x1.2 h1 h2) (fun w => fits_yes _ n false w h1 h2) (fun w => rfits_u _ n w x1.1 x1.2 h1 h2)
    · exact walk_of v n b _ 0 0 7 o _ _ w (fun w => sign_yes v n w b1 h1 h2) (fun w => rsign_yes v n w b1 b3 h1 h2) (fun w => (turn_over v n b w b1 b3 h1 h2 hv).mono fun e w' hh => ⟨hh.1, hh.2 ▸ Below.refl _ _⟩) (fun w => rturn_over v n b w b1 b3 h1 h2 hv) P RP (fun w => fits_yes _ n true w h1 h2) (fun w => rfits_s _ n w x1.1 x1.2 h1 h2) (fun w => fits_yes _ n false w h1 h2) (fun w => rfits_u _ n w x1.1 x1.2 h1 h2)

theorem own : ownKnob Try.prog.godebug = none := by kernel_rfl
theorem laidOut : laidOutB Try.prog = true := by kernel_rfl
set_option maxRecDepth 100000 in
theorem lifted (os : Os) (started : os.Started) (H : Type) (enc : TypeId × Value → H) :
    ReturnsInHanded {} Try.checked os 5 .any (Rows.bitsNumbersSpec.pre6 enc Try.prog Try.f5 Rows.bitsNumbersRow.domain false) (Rows.bitsNumbersSpec.post enc Try.prog Try.f5 false true false false) := by
  refine returnsInHanded_of_change (C := Try.checked) own started (by kernel_rfl) Try.func5
    (ChangeSpec.witness6 (enc := enc) (C := Try.checked) false ⟨#[], #[.int .u64 0, .int .i64 0, .int .i64 0], []⟩ 8 (by kernel_rfl) (by kernel_rfl) (by kernel_rfl) (by kernel_rfl)) ?_
  intro W base args ds gs before hval0 hW hcnd _
  have hval : ∀ (j : Nat) t v, Try.f5.params[j]? = some t → args[j]? = some v → Value.okWide Try.prog W .any base t v := hval0
  have hW' := hW
  obtain ⟨p, q, hA0, hV, rfl, hfz, hnd⟩ := hW
  have hA : DataW.TrodAll enc Try.prog W 0 (fun _ => true) true Try.f5.params.toList args.toList ds p := hA0
  rw [Try.params5] at hA hval
  obtain ⟨v0, vs0, d0, ds0, p0, q0, hargs, rfl, rfl, h0, r0⟩ := trodAll_cons hA
  obtain ⟨v1, vs1, d1, ds1, p1, q1, rfl, rfl, rfl, h1, r1⟩ := trodAll_cons r0
  obtain ⟨v2, vs2, d2, ds2, p2, q2, rfl, rfl, rfl, h2, r2⟩ := trodAll_cons r1
  obtain ⟨rfl, rfl, rfl⟩ := trodAll_nil r2
  obtain rfl : args = #[v0, v1, v2] := by cases args; simp_all
  obtain ⟨rfl, rfl⟩ := trodVars_none hV
  have k0 := h0
  have lt0 : ∀ x ∈ p0, x.block < W.heap.size := by obtain ⟨m, hm⟩ := k0; exact DataW.trod_lt m _ _ _ hm
  have k1 := h1
  have lt1 : ∀ x ∈ p1, x.block < W.heap.size := by obtain ⟨m, hm⟩ := k1; exact DataW.trod_lt m _ _ _ hm
  have k2 := h2
  have lt2 : ∀ x ∈ p2, x.block < W.heap.size := by obtain ⟨m, hm⟩ := k2; exact DataW.trod_lt m _ _ _ hm
  obtain ⟨a0, rfl, _, _, w0⟩ := open_int Try.underlying38 (hval 0 38 v0 rfl rfl) h0
  obtain ⟨a1, rfl, _, _, w1⟩ := open_int Try.underlying3 (hval 1 3 v1 rfl rfl) h1
  obtain ⟨a2, rfl, _, _, w2⟩ := open_int Try.underlying3 (hval 2 3 v2 rfl rfl) h2
  clear hA0 hval0
  refine (walk a0 a1 a2 W w0).mono fun e W' ⟨he, bel⟩ => ?_
  subst he
  exact ⟨_, rfl, _, _, _, [], _, [], hW', trodAll_mk1 (shut_bool Try.underlying4 _), (trodAll_cons_mk (Below.trod laidOut (by kernel_rfl) (of_decide_eq_true (by kernel_rfl)) k0 bel lt0) (trodAll_cons_mk (Below.trod laidOut (by kernel_rfl) (of_decide_eq_true (by kernel_rfl)) k1 bel lt1) (trodAll_cons_mk (Below.trod laidOut (by kernel_rfl) (of_decide_eq_true (by kernel_rfl)) k2 bel lt2) trodAll_mk0))), rfl, bel.frame _, fun h => by cases h⟩

theorem over : Rows.bitsNumbersRow.holds Try.pinned (OpenSpec.ofChange Rows.bitsNumbersSpec) :=
  OpenClaim.holds_of_wide 5 Try.f5 rfl rfl rfl rfl rfl rfl rfl ⟨rfl, rfl, rfl, rfl, rfl⟩ rfl rfl rfl rfl rfl (by kernel_rfl) Try.func5 (by kernel_rfl)
    (of_decide_eq_true (by kernel_rfl)) (by unfold Func.isWrapper; first | (rw [if_pos (by decide +kernel)]; kernel_rfl) | (rw [if_neg (by decide +kernel)]; exact ⟨rfl, rfl⟩))
    (fun os started H enc _ => lifted os started H enc)

/-- the given statement -/
theorem proved : Rows.BitsNumbersSaid := over
end Go.Proofs.Ytklibabeojpkhaa.bitsNumbers
