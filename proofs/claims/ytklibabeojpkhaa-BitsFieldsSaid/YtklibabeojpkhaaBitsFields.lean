/-
  For every word, every field and every number BitsFields returns true: Get and Put answer as the document's own functions do. No conditions.
-/
import Derived.Test.YtklibabeojpkhaaBitsD
import Derived.OpenShut
import Derived.Lib.SmallJoins
namespace Go.Proofs.Ytklibabeojpkhaa.bitsFields
open Go.ChangeShapes Go.WideShapes Go.ChangeAt Go.RowKit BM
set_option linter.unusedVariables false

theorem ret1b' {a : Bool} (h : a = true) : Ending.returned (.bool a) = .returned (.bool true) := by rw [h]

set_option maxHeartbeats 400000 in
theorem walk_no (x l n v : Int) (w : World) (h : ¬ (0 ≤ l ∧ l < 32 ∧ 1 ≤ n ∧ n ≤ 32 ∧ l + n ≤ 32)) :
    Calls Try.prog 3 #[.int .u32 x, .agg #[.int .i64 l, .int .i64 n], .int .u32 v] w fun e w' => e = .returned (.bool true) ∧ Below w.heap.size w w' := by
  have H := Lib.hid h
  clear h
  go_enter Try.func3, Try.ntmps3
  go_wp2_with (first | (go_at_call 9; refine (live_any _).mono ?_; rintro e w1 ⟨rfl, hb1⟩; obtain ⟨⟨k0, k1⟩, kz, kB⟩ := two_start0 hb1; clear hb1) | (go_at_call 10; refine (get_no x l n _ H.out).mono ?_; rintro e w2 ⟨rfl, hb2⟩; obtain ⟨⟨k0, k1⟩, kz, kB⟩ := two_keep hb2 ⟨⟨k0, k1⟩, kz, kB⟩; clear hb2) | (go_at_call 11; refine (rget_no x l n _ H.out).mono ?_; rintro e w3 ⟨rfl, hb3⟩; obtain ⟨⟨k0, k1⟩, kz, kB⟩ := two_keep hb3 ⟨⟨k0, k1⟩, kz, kB⟩; clear hb3) | (go_at_call 12; refine (put_no x l n v _ H.out).mono ?_; rintro e w4 ⟨rfl, hb4⟩; obtain ⟨⟨k0, k1⟩, kz, kB⟩ := two_keep hb4 ⟨⟨k0, k1⟩, kz, kB⟩; clear hb4) | (go_at_call 13; refine (rput_no x l n v _ H.out).mono ?_; rintro e w5 ⟨rfl, hb5⟩; obtain ⟨⟨k0, k1⟩, kz, kB⟩ := two_keep hb5 ⟨⟨k0, k1⟩, kz, kB⟩; clear hb5))
  go_ret
  exact ⟨ret1b' (by simp), kB⟩
set_option maxHeartbeats 400000 in
theorem walk_over (x l n v : Int) (w : World) (b1 : 0 ≤ x) (b2 : x < 4294967296) (c1 : 0 ≤ v) (c2 : v < 4294967296) (h1 : 0 ≤ l) (h2 : l < 32) (h3 : 1 ≤ n) (h4 : n ≤ 32) (h5 : l + n ≤ 32) (hv : ¬ v < powI n) :
    Calls Try.prog 3 #[.int .u32 x, .agg #[.int .i64 l, .int .i64 n], .int .u32 v] w fun e w' => e = .returned (.bool true) ∧ Below w.heap.size w w' := by
  have BB := Lib.hid (And.intro b1 (And.intro b2 (And.intro c1 c2)))
  clear b1 b2 c1 c2
  have VV := Lib.hid hv
  clear hv
  go_enter Try.func3, Try.ntmps3
  go_wp2_with (first | (go_at_call 9; refine (live_any _).mono ?_; rintro e w1 ⟨rfl, hb1⟩; obtain ⟨⟨k0, k1⟩, kz, kB⟩ := two_start0 hb1; clear hb1) | (go_at_call 10; refine (get_yes x l n _ BB.out.1 BB.out.2.1 h1 h2 h3 h4 h5).mono ?_; rintro e w2 ⟨rfl, hb2⟩; obtain ⟨⟨k0, k1⟩, kz, kB⟩ := two_keep hb2 ⟨⟨k0, k1⟩, kz, kB⟩; clear hb2) | (go_at_call 11; refine (rget_yes x l n _ BB.out.1 BB.out.2.1 h1 h2 h3 h4 h5).mono ?_; rintro e w3 ⟨rfl, hb3⟩; obtain ⟨⟨k0, k1⟩, kz, kB⟩ := two_keep hb3 ⟨⟨k0, k1⟩, kz, kB⟩; clear hb3) | (go_at_call 12; refine (put_over x l n v _ BB.out.2.2.1 BB.out.2.2.2 h1 h2 h3 h4 h5 (by have := VV.out; omega)).mono ?_; rintro e w4 ⟨rfl, hb4⟩; obtain ⟨⟨k0, k1⟩, kz, kB⟩ := two_keep hb4 ⟨⟨k0, k1⟩, kz, kB⟩; clear hb4) | (go_at_call 13; refine (rput_over x l n v _ BB.out.2.2.1 BB.out.2.2.2 h1 h2 h3 h4 h5 (by have := VV.out; omega)).mono ?_; rintro e w5 ⟨rfl, hb5⟩; obtain ⟨⟨k0, k1⟩, kz, kB⟩ := two_keep hb5 ⟨⟨k0, k1⟩, kz, kB⟩; clear hb5))
  go_ret
  exact ⟨ret1b' (by simp), kB⟩
set_option maxHeartbeats 400000 in
theorem walk_yes (x l n v : Int) (w : World) (b1 : 0 ≤ x) (b2 : x < 4294967296) (c1 : 0 ≤ v) (c2 : v < 4294967296) (h1 : 0 ≤ l) (h2 : l < 32) (h3 : 1 ≤ n) (h4 : n ≤ 32) (h5 : l + n ≤ 32) (hv : v < powI n) :
    Calls Try.prog 3 #[.int .u32 x, .agg #[.int .i64 l, .int .i64 n], .int .u32 v] w fun e w' => e = .returned (.bool true) ∧ Below w.heap.size w w' := by
  have BB := Lib.hid (And.intro b1 (And.intro b2 (And.intro c1 c2)))
  clear b1 b2 c1 c2
  have VV := Lib.hid hv
  clear hv
  go_enter Try.func3, Try.ntmps3
  go_wp2_with (first | (go_at_call 9; refine (live_any _).mono ?_; rintro e w1 ⟨rfl, hb1⟩; obtain ⟨⟨k0, k1⟩, kz, kB⟩ := two_start0 hb1; clear hb1) | (go_at_call 10; refine (get_yes x l n _ BB.out.1 BB.out.2.1 h1 h2 h3 h4 h5).mono ?_; rintro e w2 ⟨rfl, hb2⟩; obtain ⟨⟨k0, k1⟩, kz, kB⟩ := two_keep hb2 ⟨⟨k0, k1⟩, kz, kB⟩; clear hb2) | (go_at_call 11; refine (rget_yes x l n _ BB.out.1 BB.out.2.1 h1 h2 h3 h4 h5).mono ?_; rintro e w3 ⟨rfl, hb3⟩; obtain ⟨⟨k0, k1⟩, kz, kB⟩ := two_keep hb3 ⟨⟨k0, k1⟩, kz, kB⟩; clear hb3) | (go_at_call 12; refine (put_yes x l n v _ BB.out.1 BB.out.2.1 BB.out.2.2.1 BB.out.2.2.2 h1 h2 h3 h4 h5 (by have := VV.out; omega)).mono ?_; rintro e w4 ⟨rfl, hb4⟩; obtain ⟨⟨k0, k1⟩, kz, kB⟩ := two_keep hb4 ⟨⟨k0, k1⟩, kz, kB⟩; clear hb4) | (go_at_call 13; refine (rput_yes x l n v _ BB.out.1 BB.out.2.1 BB.out.2.2.1 BB.out.2.2.2 h1 h2 h3 h4 h5 (by have := VV.out; omega)).mono ?_; rintro e w5 ⟨rfl, hb5⟩; obtain ⟨⟨k0, k1⟩, kz, kB⟩ := two_keep hb5 ⟨⟨k0, k1⟩, kz, kB⟩; clear hb5))
  go_ret
  exact ⟨ret1b' (by simp), kB⟩

theorem walk (x l n v : Int) (w : World) (wx : (Lit.int .u32 x).wf = true) (wv : (Lit.int .u32 v).wf = true) :
    Calls Try.prog 3 #[.int .u32 x, .agg #[.int .i64 l, .int .i64 n], .int .u32 v] w fun e w' => e = .returned (.bool true) ∧ Below w.heap.size w w' := by
  obtain ⟨b1, b2⟩ := bounds_u32 wx
  obtain ⟨c1, c2⟩ := bounds_u32 wv
  by_cases h : 0 ≤ l ∧ l < 32 ∧ 1 ≤ n ∧ n ≤ 32 ∧ l + n ≤ 32
  · obtain ⟨h1, h2, h3, h4, h5⟩ := h
    by_cases hv : v < powI n
    · exact walk_yes x l n v w b1 (by omega) c1 (by omega) h1 h2 h3 h4 h5 hv
    · exact walk_over x l n v w b1 (by omega) c1 (by omega) h1 h2 h3 h4 h5 hv
  · exact walk_no x l n v w h

theorem own : ownKnob Try.prog.godebug = none := by kernel_rfl
theorem laidOut : laidOutB Try.prog = true := by kernel_rfl
set_option maxRecDepth 100000 in
theorem lifted (os : Os) (started : os.Started) (H : Type) (enc : TypeId × Value → H) :
    ReturnsInHanded {} Try.checked os 3 .any (Rows.bitsFieldsSpec.pre6 enc Try.prog Try.f3 Rows.bitsFieldsRow.domain false) (Rows.bitsFieldsSpec.post enc Try.prog Try.f3 false true false false) := by
  refine returnsInHanded_of_change (C := Try.checked) own started (by kernel_rfl) Try.func3
    (ChangeSpec.witness6 (enc := enc) (C := Try.checked) false ⟨#[], #[.int .u32 0, .agg #[.int .i64 0, .int .i64 0], .int .u32 0], []⟩ 8 (by kernel_rfl) (by kernel_rfl) (by kernel_rfl) (by kernel_rfl)) ?_
  intro W base args ds gs before hval0 hW hcnd _
  have hval : ∀ (j : Nat) t v, Try.f3.params[j]? = some t → args[j]? = some v → Value.okWide Try.prog W .any base t v := hval0
  have hW' := hW
  obtain ⟨p, q, hA0, hV, rfl, hfz, hnd⟩ := hW
  have hA : DataW.TrodAll enc Try.prog W 0 (fun _ => true) true Try.f3.params.toList args.toList ds p := hA0
  rw [Try.params3] at hA hval
  obtain ⟨v0, vs0, d0, ds0, p0, q0, hargs, rfl, rfl, h0, r0⟩ := trodAll_cons hA
  obtain ⟨v1, vs1, d1, ds1, p1, q1, rfl, rfl, rfl, h1, r1⟩ := trodAll_cons r0
  obtain ⟨v2, vs2, d2, ds2, p2, q2, rfl, rfl, rfl, h2, r2⟩ := trodAll_cons r1
  obtain ⟨rfl, rfl, rfl⟩ := trodAll_nil r2
  obtain rfl : args = #[v0, v1, v2] := by cases args; simp_all
  obtain ⟨rfl, rfl⟩ := trodVars_none hV
  have k0 := h0
  have lt0 : ∀ x ∈ p0, x.block < W.heap.size := by obtain ⟨m, hm⟩ := k0; exact DataW.trod_lt m _ _ _ hm
  have k1 := h1
  have lt1 : ∀ x ∈ p1, x.block < W.heap.size := by obtain ⟨m, hm⟩ := k1; exact DataW.trod_lt m _ _ _ hm
  have k2 := h2
  have lt2 : ∀ x ∈ p2, x.block < W.heap.size := by obtain ⟨m, hm⟩ := k2; exact DataW.trod_lt m _ _ _ hm
  obtain ⟨a0, rfl, _, _, w0⟩ := open_int Try.underlying22 (hval 0 22 v0 rfl rfl) h0
  obtain ⟨c10, c11, y10, y11, m1, rfl, _, _, hy10, hy11⟩ := Go.Joins.open_agg2 Try.underlying24 (by kernel_rfl) (by kernel_rfl) (hval 1 24 v1 rfl rfl) h1
  obtain ⟨a10, e10, _, w10⟩ := DataW.trod_int Try.underlying3 hy10
  simp only [List.cons.injEq, and_true] at e10
  subst e10
  obtain ⟨a11, e11, _, w11⟩ := DataW.trod_int Try.underlying3 hy11
  simp only [List.cons.injEq, and_true] at e11
  subst e11
  obtain ⟨a2, rfl, _, _, w2⟩ := open_int Try.underlying22 (hval 2 22 v2 rfl rfl) h2
  clear hA0 hval0
  refine (walk a0 a10 a11 a2 W w0 w2).mono fun e W' ⟨he, bel⟩ => ?_
  subst he
  exact ⟨_, rfl, _, _, _, [], _, [], hW', trodAll_mk1 (shut_bool Try.underlying4 _), (trodAll_cons_mk (Below.trod laidOut (by kernel_rfl) (of_decide_eq_true (by kernel_rfl)) k0 bel lt0) (trodAll_cons_mk (Below.trod laidOut (by kernel_rfl) (of_decide_eq_true (by kernel_rfl)) k1 bel lt1) (trodAll_cons_mk (Below.trod laidOut (by kernel_rfl) (of_decide_eq_true (by kernel_rfl)) k2 bel lt2) trodAll_mk0))), rfl, bel.frame _, fun h => by cases h⟩

theorem over : Rows.bitsFieldsRow.holds Try.pinned (OpenSpec.ofChange Rows.bitsFieldsSpec) :=
  OpenClaim.holds_of_wide 3 Try.f3 rfl rfl rfl rfl rfl rfl rfl ⟨rfl, rfl, rfl, rfl, rfl⟩ rfl rfl rfl rfl rfl (by kernel_rfl) Try.func3 (by kernel_rfl)
    (of_decide_eq_true (by kernel_rfl)) (by unfold Func.isWrapper; first | (rw [if_pos (by decide +kernel)]; kernel_rfl) | (rw [if_neg (by decide +kernel)]; exact ⟨rfl, rfl⟩))
    (fun os started H enc _ => lifted os started H enc)

/-- the given statement -/
theorem proved : Rows.BitsFieldsSaid := over
end Go.Proofs.Ytklibabeojpkhaa.bitsFields
