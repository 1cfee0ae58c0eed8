/-
  For every kind, every text and every number NamesKinds returns true: the program's number of a name, its name of a number, and whether a text is a name, are the document's. Condition: the arguments hold together at most 1048576 values and letters.
-/
import Derived.Test.YtefglodkcddgiaaDoorNamesDoor
import Derived.Test.YtefglodkcddgiaaDoorNamesV
import Derived.Test.YtefglodkcddgiaaDoorTie
import Derived.Lib.SmallJoins
import Derived.ChangeMaps5
import Derived.SevenTiedAt
namespace Go.Proofs.YtefglodkcddgiaaDoor.namesKinds
open Go.ChangeShapes Go.WideShapes Go.ChangeAt Go.RowKit
set_option linter.unusedVariables false

set_option maxRecDepth 100000 in
set_option maxHeartbeats 4000000 in
theorem walk (k : Int) (s : ByteArray) (n : Int) (w : World) (hG : Good w) (hs : s.size ≤ 1048576) :
    Calls Tryd.prog 4 #[.int .i64 k, .string s, .int .i64 n] w fun e w' => e = .returned (.bool true) ∧ Below w.heap.size w w' := by
  have hs2 : s.size < 4294967281 := by omega
  obtain ⟨o, ho⟩ : ∃ o, numOf k s.data.toList = o := ⟨_, rfl⟩
  obtain ⟨p, hp⟩ : ∃ p, nameOf k n = p := ⟨_, rfl⟩
  obtain ⟨b, hb⟩ : ∃ b, wordOf s.data.toList = b := ⟨_, rfl⟩
  have NU := Lib.hid (fun w (hG : Good w) => by have h := number_any k s w hG hs2; rw [ho] at h; exact h)
  have RU := Lib.hid (fun w => by have h := rnumber_any k s w hs2; rw [ho] at h; exact h)
  have NA := Lib.hid (fun w (hG : Good w) => by have h := name_any k n w hG; rw [hp] at h; exact h)
  have RA := Lib.hid (fun w => by have h := rname_any k n w; rw [hp] at h; exact h)
  have WO := Lib.hid (fun w (hG : Good w) => by have h := word_any s w hG hs2; rw [hb] at h; exact h)
  have RO := Lib.hid (fun w => by have h := rword_any s w hs2; rw [hb] at h; exact h)
  have LV := Lib.hid (live_any w hG)
  have HG := Lib.hid hG
  clear hG hs hs2 ho hp hb
  unfold numOut strOut at *
  generalize numO o = V at *
  generalize errO o = E at *
  generalize strB p = S at *
  generalize errO p = F at *
  go_enter Tryd.func4, Tryd.ntmps4
  go_wp2_with fail
  refine LV.out.mono ?_
  rintro e w1 ⟨rfl, hb1⟩
  have B1 := Lib.hid hb1
  have G1 := Lib.hid (HG.out.thn hb1)
  clear hb1
  go_wp2_with fail
  refine (NU.out _ G1.out).mono ?_
  rintro e w2 ⟨rfl, hb2⟩
  have B2 := Lib.hid (Below.thn B1.out B1.out.size hb2)
  have G2 := Lib.hid (G1.out.thn hb2)
  clear hb2
  go_wp2_with fail
  refine (RU.out _).mono ?_
  rintro e w3 ⟨rfl, hb3⟩
  have B3 := Lib.hid (Below.thn B2.out B2.out.size hb3)
  have G3 := Lib.hid (G2.out.thn hb3)
  clear hb3
  go_wp2_with fail
  refine (NA.out _ G3.out).mono ?_
  rintro e w4 ⟨rfl, hb4⟩
  have B4 := Lib.hid (Below.thn B3.out B3.out.size hb4)
  have G4 := Lib.hid (G3.out.thn hb4)
  clear hb4
  go_wp2_with fail
  refine (RA.out _).mono ?_
  rintro e w5 ⟨rfl, hb5⟩
  have B5 := Lib.hid (Below.thn B4.out B4.out.size hb5)
  have G5 := Lib.hid (G4.out.thn hb5)
  clear hb5
  go_wp2_with fail
  refine (WO.out _ G5.out).mono ?_
  rintro e w6 ⟨rfl, hb6⟩
  have B6 := Lib.hid (Below.thn B5.out B5.out.size hb6)
  clear hb6
  go_wp2_with fail
  refine (RO.out _).mono ?_
  rintro e w7 ⟨rfl, hb7⟩
  have B7 := Lib.hid (Below.thn B6.out B6.out.size hb7)
  clear hb7
  go_wp2_with fail
  go_ret
  exact ⟨by simp, B7.out⟩

theorem laidOut : laidOutB Tryd.prog = true := by kernel_rfl
theorem reads (os : Os) {H : Type} (enc : TypeId × Value → H) : ∃ places, DataW.whole enc Tryd.prog ((World.laidAll Tryd.prog os lays).forCall (fun _ _ => 0) ⟨#[], #[.int .i64 0, .string ⟨#[]⟩, .int .i64 0], []⟩).memory Tryd.f4.params.toList Rows.namesKindsSpec.vars false (#[.int .i64 0, .string ⟨#[]⟩, .int .i64 0] : Array Value).toList 8 = some ([.lit (.int .i64 0), .lit (.string []), .lit (.int .i64 0)], [], places) :=
  ⟨[], by kernel_rfl⟩
set_option maxRecDepth 100000 in
theorem lifted (os : Os) (started : os.Started) (H : Type) (enc : TypeId × Value → H) (F : Stop.Interp) :
    ReturnsInHanded {} Tryd.checked os 4 .any ((Rows.OpenSpec.upto Rows.namesKindsSpec).preRow enc Tryd.prog Tryd.f4 Rows.namesKindsUptoRow.domain false Rows.namesKindsUptoRow.laid) (((Rows.OpenSpec.upto Rows.namesKindsSpec).at F).post enc Tryd.prog Tryd.f4 false true false false) := by
  obtain ⟨places, hx⟩ := reads os enc
  refine returnsInHanded_of_row (C := Tryd.checked) (s := (Rows.OpenSpec.upto Rows.namesKindsSpec)) own started (by kernel_rfl) Tryd.func4
    (witness_row_atRef (enc := enc) (C := Tryd.checked) false (World.laidAll Tryd.prog os lays) #[.int .i64 0, .string ⟨#[]⟩, .int .i64 0] (World.laidAll_os _ _ _) (by kernel_rfl) (by kernel_rfl) (by kernel_rfl)
      (OpenSpec.preRow_of_cond 8 hx (by kernel_rfl) (fun k hk => by cases hk; kernel_rfl) (by kernel_rfl) (laid_met os _))) ?_
  intro W base args ds gs before hval0 hW _ hcond hsz0 hL hsh _
  have hG := good_of_laid hL hsh
  have hval : ∀ (j : Nat) t v, Tryd.f4.params[j]? = some t → args[j]? = some v → Value.okWide Tryd.prog W .any base t v := hval0
  have hW' := hW
  have hsz : (DataW.weightsEach Tryd.prog (Tryd.f4.params.toList ++ []) (ds ++ gs)).all (· ≤ reachBytes) = true := hsz0
  obtain ⟨p, q, hA0, hV, rfl, hfz, hnd⟩ := hW
  have hA : DataW.TrodAll enc Tryd.prog W 0 (fun _ => true) true Tryd.f4.params.toList args.toList ds p := hA0
  rw [Tryd.params4] at hA hval hsz
  obtain ⟨v0, vs0, d0, ds0, p0, q0, hargs, rfl, rfl, h0, r0⟩ := trodAll_cons hA
  obtain ⟨v1, vs1, d1, ds1, p1, q1, rfl, rfl, rfl, h1, r1⟩ := trodAll_cons r0
  obtain ⟨v2, vs2, d2, ds2, p2, q2, rfl, rfl, rfl, h2, r2⟩ := trodAll_cons r1
  obtain ⟨rfl, rfl, rfl⟩ := trodAll_nil r2
  obtain rfl : args = #[v0, v1, v2] := by cases args; simp_all
  obtain ⟨rfl, rfl⟩ := trodVars_none hV
  have k0 := h0
  have lt0 : ∀ x ∈ p0, x.block < W.heap.size := by obtain ⟨m, hm⟩ := k0; exact DataW.trod_lt m _ _ _ hm
  have k1 := h1
  have lt1 : ∀ x ∈ p1, x.block < W.heap.size := by obtain ⟨m, hm⟩ := k1; exact DataW.trod_lt m _ _ _ hm
  have k2 := h2
  have lt2 : ∀ x ∈ p2, x.block < W.heap.size := by obtain ⟨m, hm⟩ := k2; exact DataW.trod_lt m _ _ _ hm
  obtain ⟨a0, rfl, e0, _, w0⟩ := open_int Tryd.underlying3 (hval 0 3 v0 rfl rfl) h0
  obtain ⟨a1, rfl, e1, _, w1⟩ := Go.ChangeMaps.open_string Tryd.underlying9 (hval 1 9 v1 rfl rfl) h1
  obtain ⟨a2, rfl, e2, _, w2⟩ := open_int Tryd.underlying2 (hval 2 2 v2 rfl rfl) h2
  have hb1 : a1.size ≤ 1048576 := by
    have hc := of_decide_eq_true (hcond _ rfl)
    subst e0 e1 e2
    simp only [List.append_nil, Rows.uptoBulkAll, Rows.uptoBulk] at hc
    have e : a1.size = a1.data.toList.length := (Array.length_toList ..).symm
    omega
  clear hA0 hval0 hsz0
  refine (walk a0 a1 a2 W hG hb1).mono fun e W' ⟨he, bel⟩ => ?_
  subst he
  exact ⟨_, rfl, _, _, _, [], _, [], hW', trodAll_mk1 (shut_bool Tryd.underlying4 _), (trodAll_cons_mk (Below.trod laidOut (by kernel_rfl) (of_decide_eq_true (by kernel_rfl)) k0 bel lt0) (trodAll_cons_mk (Below.trod laidOut (by kernel_rfl) (of_decide_eq_true (by kernel_rfl)) k1 bel lt1) (trodAll_cons_mk (Below.trod laidOut (by kernel_rfl) (of_decide_eq_true (by kernel_rfl)) k2 bel lt2) trodAll_mk0))), rfl, bel.frame _, fun h => by cases h⟩

theorem over : Rows.NamesKindsUptoSaid :=
  OpenClaim.holds_of_cond 4 Tryd.f4 rfl rfl rfl rfl rfl rfl rfl ⟨rfl, rfl, rfl, rfl, rfl⟩ rfl rfl rfl rfl rfl (by kernel_rfl) Tryd.func4 (by kernel_rfl)
    (of_decide_eq_true (by kernel_rfl)) (by unfold Func.isWrapper; first | (rw [if_pos (by decide +kernel)]; kernel_rfl) | (rw [if_neg (by decide +kernel)]; exact ⟨rfl, rfl⟩))
    (fun os started H enc _ F => by rw [OpenClaim.pre_eq_preRow]; exact lifted os started H enc F)
theorem plain (f : FuncId) (fn : Func) (hf : Tryd.pinned.checked.prog.funcNamed "cooper/cooperlaw03.NamesKinds" = some f) (hfn : Tryd.pinned.checked.prog.funcs[f]? = some fn) :
    true = Tryd.pinned.checked.prog.looks [] ∧ ∀ (j : Nat) t, fn.params[j]? = some t → Tryd.pinned.checked.prog.wantsStandIn t = false := by
  obtain rfl : f = 4 := Option.some.inj ((show Tryd.prog.funcNamed "cooper/cooperlaw03.NamesKinds" = some 4 by kernel_rfl).symm.trans hf) |>.symm
  obtain rfl : fn = Tryd.f4 := (Option.some.inj (Tryd.func4.symm.trans hfn)).symm
  refine ⟨by kernel_rfl, fun j t ht => ?_⟩
  rw [Tryd.params4] at ht
  have hm : t ∈ Tryd.f4.params.toList := by
    have := Array.mem_of_getElem? ht
    simpa [Tryd.f4] using this
  have hall : (Tryd.f4.params.toList.all fun u => !Tryd.prog.wantsStandIn u) = true := by kernel_rfl
  exact (show Tryd.prog.wantsStandIn t = false by simpa using List.all_eq_true.1 hall t hm)

/-- the given statement -/
theorem proved : Rows.NamesKindsUptoCardSaid :=
  Claim7.holds_tied_plain_at .later [] _ _ _ _ over (fun _ h => by cases h) (by kernel_rfl) (fun _ h => by cases h) namesKindsUpto_row_tie rfl ⟨rfl, rfl⟩ (by kernel_rfl) rfl plain (by kernel_rfl)
end Go.Proofs.YtefglodkcddgiaaDoor.namesKinds
