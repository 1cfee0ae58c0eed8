/-
  For every word, all fields and all numbers BitsPacks returns true: Pack and Apart answer as the document's own functions do. No conditions.
-/
import Derived.Test.YtklibabeojpkhaaBitsS
import Derived.OpenShut
namespace Go.Proofs.Ytklibabeojpkhaa.bitsPacks
open Go.ChangeShapes Go.WideShapes Go.ChangeAt Go.RowKit Go.Deep BM
set_option linter.unusedVariables false

theorem ret1b' {a : Bool} (h : a = true) : Ending.returned (.bool a) = .returned (.bool true) := by rw [h]

set_option maxHeartbeats 400000 in
theorem walk_of (x a e0 : Int) (q : Bool) (A B : Option Addr) (len cap vlen vcap : Nat) (w : World) (hf : (len : Int) ≤ 200)
    (P : ∀ W, Below w.heap.size w W → Calls Try.prog 15 #[.int .u32 x, .slice A len cap, .slice B vlen vcap] W fun e w' => e = .returned (.tuple #[.int .u32 a, .int .i64 e0]) ∧ Below W.heap.size W w') (RP : ∀ W, Below w.heap.size w W → Calls Try.prog 16 #[.int .u32 x, .slice A len cap, .slice B vlen vcap] W fun e w' => e = .returned (.tuple #[.int .u32 a, .int .i64 e0]) ∧ Below W.heap.size W w')
    (Q : ∀ W, Below w.heap.size w W → Calls Try.prog 17 #[.slice A len cap] W fun e w' => e = .returned (.bool q) ∧ Below W.heap.size W w') (RQ : ∀ W, Below w.heap.size w W → Calls Try.prog 18 #[.slice A len cap] W fun e w' => e = .returned (.bool q) ∧ Below W.heap.size W w') :
    Calls Try.prog 4 #[.int .u32 x, .slice A len cap, .slice B vlen vcap] w fun e w' => e = .returned (.bool true) ∧ Below w.heap.size w w' := by
  have P' := Lib.hid P
  have RP' := Lib.hid RP
  have Q' := Lib.hid Q
  have RQ' := Lib.hid RQ
  clear P RP Q RQ
  go_enter Try.func4, Try.ntmps4
  go_wp2_with (first | (go_at_call 9; refine (live_any _).mono ?_; rintro e w1 ⟨rfl, hb1⟩) | (go_at_call 14; refine (few_any _ _ _ _).mono ?_; rintro e w0 ⟨rfl, rfl⟩))
  refine (P'.out _ hb1).mono ?_; rintro e w2 ⟨rfl, hb2⟩
  have h2 := Below.thn hb1 hb1.size hb2
  go_wp2_with fail
  refine (RP'.out _ h2).mono ?_; rintro e w3 ⟨rfl, hb3⟩
  have h3 := Below.thn h2 h2.size hb3
  go_wp2_with fail
  refine (Q'.out _ h3).mono ?_; rintro e w4 ⟨rfl, hb4⟩
  have h4 := Below.thn h3 h3.size hb4
  go_wp2_with fail
  refine (RQ'.out _ h4).mono ?_; rintro e w5 ⟨rfl, hb5⟩
  have h5 := Below.thn h4 h4.size hb5
  go_wp2_with fail
  go_ret
  exact ⟨ret1b' (by simp), h5⟩
set_option maxHeartbeats 400000 in
theorem walk_many (x : Int) (A B : Option Addr) (len cap vlen vcap : Nat) (w : World) (hf : ¬ (len : Int) ≤ 200) :
    Calls Try.prog 4 #[.int .u32 x, .slice A len cap, .slice B vlen vcap] w fun e w' => e = .returned (.bool true) ∧ Below w.heap.size w w' := by
  have hf' : decide ((len : Int) ≤ 200) = false := by simpa using hf
  clear hf
  go_enter Try.func4, Try.ntmps4
  go_wp2_with (first | (go_at_call 9; refine (live_any _).mono ?_; rintro e w1 ⟨rfl, hb1⟩) | (go_at_call 14; refine (few_any _ _ _ _).mono ?_; rintro e w0 ⟨rfl, rfl⟩; rw [hf']))
  go_ret
  exact ⟨rfl, hb1⟩
theorem walk (x : Int) (A B : Option Addr) (len cap vlen vcap : Nat) (L N V : Nat → Int) (w : World) (wx : (Lit.int .u32 x).wf = true) (hL : Flds w A len L N) (hV : Nums w B vlen V) :
    Calls Try.prog 4 #[.int .u32 x, .slice A len cap, .slice B vlen vcap] w fun e w' => e = .returned (.bool true) ∧ Below w.heap.size w w' := by
  obtain ⟨b1, b2⟩ := bounds_u32 wx
  by_cases hf : (len : Int) ≤ 200
  · by_cases hn : len = vlen
    · subst hn
      exact walk_of x _ _ _ A B len cap len vcap w hf (fun W hb => pack_yes x A B len cap vcap L N V W b1 (by omega) (by omega) (hL.keep hb) (hV.keep hb)) (fun W hb => rpack_yes x A B len cap vcap L N V W b1 (by omega) (by omega) (hL.keep hb) (hV.keep hb))
        (fun W hb => apart_any A len cap L N W (by omega) (hL.keep hb)) (fun W hb => rapart_any A len cap L N W (by omega) (hL.keep hb))
    · exact walk_of x 0 1 _ A B len cap vlen vcap w hf (fun W hb => pack_no x A B len cap vlen vcap W hn) (fun W hb => rpack_no x A B len cap vlen vcap W hn)
        (fun W hb => apart_any A len cap L N W (by omega) (hL.keep hb)) (fun W hb => rapart_any A len cap L N W (by omega) (hL.keep hb))
  · exact walk_many x A B len cap vlen vcap w hf

theorem own : ownKnob Try.prog.godebug = none := by kernel_rfl
theorem laidOut : laidOutB Try.prog = true := by kernel_rfl
set_option maxRecDepth 100000 in
theorem lifted (os : Os) (started : os.Started) (H : Type) (enc : TypeId × Value → H) :
    ReturnsInHanded {} Try.checked os 4 .any (Rows.bitsPacksSpec.pre6 enc Try.prog Try.f4 Rows.bitsPacksRow.domain false) (Rows.bitsPacksSpec.post enc Try.prog Try.f4 false true false false) := by
  refine returnsInHanded_of_change (C := Try.checked) own started (by kernel_rfl) Try.func4
    (ChangeSpec.witness6 (enc := enc) (C := Try.checked) false ⟨#[], #[.int .u32 0, .slice none 0 0, .slice none 0 0], []⟩ 8 (by kernel_rfl) (by kernel_rfl) (by kernel_rfl) (by kernel_rfl)) ?_
  intro W base args ds gs before hval0 hW hcnd _
  have hval : ∀ (j : Nat) t v, Try.f4.params[j]? = some t → args[j]? = some v → Value.okWide Try.prog W .any base t v := hval0
  have hW' := hW
  obtain ⟨p, q, hA0, hV, rfl, hfz, hnd⟩ := hW
  have hA : DataW.TrodAll enc Try.prog W 0 (fun _ => true) true Try.f4.params.toList args.toList ds p := hA0
  rw [Try.params4] at hA hval
  obtain ⟨v0, vs0, d0, ds0, p0, q0, hargs, rfl, rfl, h0, r0⟩ := trodAll_cons hA
  obtain ⟨v1, vs1, d1, ds1, p1, q1, rfl, rfl, rfl, h1, r1⟩ := trodAll_cons r0
  obtain ⟨v2, vs2, d2, ds2, p2, q2, rfl, rfl, rfl, h2, r2⟩ := trodAll_cons r1
  obtain ⟨rfl, rfl, rfl⟩ := trodAll_nil r2
  obtain rfl : args = #[v0, v1, v2] := by cases args; simp_all
  obtain ⟨rfl, rfl⟩ := trodVars_none hV
  have k0 := h0
  have lt0 : ∀ x ∈ p0, x.block < W.heap.size := by obtain ⟨m, hm⟩ := k0; exact DataW.trod_lt m _ _ _ hm
  have k1 := h1
  have lt1 : ∀ x ∈ p1, x.block < W.heap.size := by obtain ⟨m, hm⟩ := k1; exact DataW.trod_lt m _ _ _ hm
  have k2 := h2
  have lt2 : ∀ x ∈ p2, x.block < W.heap.size := by obtain ⟨m, hm⟩ := k2; exact DataW.trod_lt m _ _ _ hm
  obtain ⟨a0, rfl, _, _, w0⟩ := open_int Try.underlying22 (hval 0 22 v0 rfl rfl) h0
  obtain ⟨A1, len1, cap1, rfl⟩ := okWide_slice Try.underlying31 (hval 1 31 v1 rfl rfl)
  obtain ⟨L1, N1, F1⟩ : ∃ L N, Flds W A1 len1 L N := by
    obtain ⟨fuel, hf⟩ := h1
    rcases flds_open Try.underlying31 Try.underlying24 (by kernel_rfl) rfl rfl (by kernel_rfl) (by kernel_rfl) Try.underlying3 Try.underlying3 hf with hcs | ⟨x, l, c, hcs, L, N, hF⟩
    · simp [Value.cells] at hcs
      obtain ⟨rfl, rfl, rfl⟩ := hcs
      exact ⟨fun _ => 0, fun _ => 0, fun i hi => absurd hi (by omega)⟩
    · simp [Value.cells] at hcs
      obtain ⟨rfl, rfl, rfl⟩ := hcs
      exact ⟨L, N, hF⟩
  obtain ⟨A2, len2, cap2, rfl⟩ := okWide_slice Try.underlying32 (hval 2 32 v2 rfl rfl)
  obtain ⟨V2, F2⟩ : ∃ V, Nums W A2 len2 V := by
    obtain ⟨fuel, hf⟩ := h2
    rcases open_ints Try.underlying32 Try.underlying22 (by kernel_rfl) hf with ⟨hcs, _⟩ | ⟨x, l, c, zs, hcs, _, hl, hm, hz, _, hcell, hwz⟩
    · simp [Value.cells] at hcs
      obtain ⟨rfl, rfl, rfl⟩ := hcs
      exact ⟨fun _ => 0, fun i hi => absurd hi (by omega)⟩
    · simp [Value.cells] at hcs
      obtain ⟨rfl, rfl, rfl⟩ := hcs
      exact nums_of (by have h1 : zs.length = cap2 := by simpa using hz
                        omega) hcell hwz
  clear hA0 hval0
  refine (walk a0 A1 A2 len1 cap1 len2 cap2 L1 N1 V2 W w0 F1 F2).mono fun e W' ⟨he, bel⟩ => ?_
  subst he
  exact ⟨_, rfl, _, _, _, [], _, [], hW', trodAll_mk1 (shut_bool Try.underlying4 _), (trodAll_cons_mk (Below.trod laidOut (by kernel_rfl) (of_decide_eq_true (by kernel_rfl)) k0 bel lt0) (trodAll_cons_mk (Below.trod laidOut (by kernel_rfl) (of_decide_eq_true (by kernel_rfl)) k1 bel lt1) (trodAll_cons_mk (Below.trod laidOut (by kernel_rfl) (of_decide_eq_true (by kernel_rfl)) k2 bel lt2) trodAll_mk0))), rfl, bel.frame _, fun h => by cases h⟩

theorem over : Rows.bitsPacksRow.holds Try.pinned (OpenSpec.ofChange Rows.bitsPacksSpec) :=
  OpenClaim.holds_of_wide 4 Try.f4 rfl rfl rfl rfl rfl rfl rfl ⟨rfl, rfl, rfl, rfl, rfl⟩ rfl rfl rfl rfl rfl (by kernel_rfl) Try.func4 (by kernel_rfl)
    (of_decide_eq_true (by kernel_rfl)) (by unfold Func.isWrapper; first | (rw [if_pos (by decide +kernel)]; kernel_rfl) | (rw [if_neg (by decide +kernel)]; exact ⟨rfl, rfl⟩))
    (fun os started H enc _ => lifted os started H enc)

/-- the given statement -/
theorem proved : Rows.BitsPacksSaid := over
end Go.Proofs.Ytklibabeojpkhaa.bitsPacks
