/-
  For every text and every register NamesRegs returns true: the program's register of a name, and its name of a register, are the document's. No conditions.
-/
import Derived.Test.YtefglodkcddgiaaDoorNamesDoor
import Derived.Test.YtefglodkcddgiaaDoorTie
import Derived.Lib.SmallJoins
import Derived.ChangeMaps5
import Derived.SevenTiedAt
namespace Go.Proofs.YtefglodkcddgiaaDoor.namesRegs
open Go.ChangeShapes Go.WideShapes Go.ChangeAt Go.RowKit
set_option linter.unusedVariables false

def regEnd (a : Int) (b c : Bool) (e : Int) : Ending := .returned (.tuple #[.agg #[.int .i64 a, .bool b, .bool c], .int .i64 e])
theorem regOut_ex (l : List UInt8) : ∃ a b c e, regOut l = regEnd a b c e := by
  unfold regOut
  cases look regT l with
  | some m => exact ⟨_, _, _, _, rfl⟩
  | none => exact ⟨_, _, _, _, rfl⟩
theorem grown3 {w w1 : World} {a b c : Value} {T : TypeId} {B : Nat} (h : Below B w w1) (hB : B ≤ w1.heap.size) : Below B w (w1.alloc (.cells #[a, b, c] T)) := h.alloc hB _
set_option maxRecDepth 100000 in
set_option maxHeartbeats 4000000 in
theorem walk (s : ByteArray) (n : Int) (x p : Bool) (w : World) (hG : Good w) (hs : s.size ≤ 281474976710656) :
    Calls Tryd.prog 3 #[.string s, .agg #[.int .i64 n, .bool x, .bool p]] w fun e w' => e = .returned (.bool true) ∧ Below w.heap.size w w' := by
  obtain ⟨a, b, c, e0, hE⟩ := regOut_ex s.data.toList
  have RP := Lib.hid (fun w (hG : Good w) => by have h := reg_any s w hG hs; rw [hE] at h; exact h)
  have RD := Lib.hid (fun w => by have h := rreg_any s w; rw [hE] at h; exact h)
  obtain ⟨o, ho⟩ : ∃ o, regText n x p = o := ⟨_, rfl⟩
  have NP := Lib.hid (fun w => by have h := regName_any n x p w; rw [ho] at h; exact h)
  have ND := Lib.hid (fun w => by have h := rregName_any n x p w; rw [ho] at h; exact h)
  have LV := Lib.hid (fun w (hG : Good w) => live_any w hG)
  have HG := Lib.hid hG
  clear hE ho hG hs
  unfold regEnd strOut at *
  generalize strB o = S at *
  generalize errO o = E at *
  go_enter Tryd.func3, Tryd.ntmps3
  go_wp2_with fail
  refine (LV.out _ (HG.out.thn (Below.alloc (Below.refl _ _) (Nat.le_refl _) _))).mono ?_
  rintro e w1 ⟨rfl, hb1⟩
  obtain ⟨c1, z1, hB1⟩ := three_keep hb1
  have C1 := Lib.hid c1
  have B1 := Lib.hid hB1
  clear c1 hb1 hB1
  go_wp2_with fail
  refine (RP.out _ (HG.out.thn B1.out)).mono ?_
  rintro e w2 ⟨rfl, hb2⟩
  have C2 := Lib.hid (three_on hb2 z1 C1.out)
  have z2 : w.heap.size < w2.heap.size := Nat.lt_of_lt_of_le z1 hb2.size
  have B2 := Lib.hid (B1.out.trans (hb2.mono (Nat.le_of_lt z1)))
  clear hb2
  go_wp2_with fail
  refine (RD.out _).mono ?_
  rintro e w3 ⟨rfl, hb3⟩
  obtain ⟨d3, z3, hB3⟩ := three_keep hb3
  have C3 := Lib.hid (three_on hB3 z2 C2.out)
  have D3 := Lib.hid d3
  have y3 : w.heap.size < w3.heap.size := Nat.lt_of_lt_of_le z2 hB3.size
  have B3 := Lib.hid (B2.out.trans (hB3.mono (Nat.le_of_lt z2)))
  have Q3 := Lib.hid (Nat.le_refl w3.heap.size)
  clear hb3 d3 hB3
  obtain ⟨K, hK⟩ : ∃ K, w2.heap.size = K := ⟨_, rfl⟩
  rw [hK] at D3 z3
  have HK := Lib.hid hK
  obtain ⟨c30, c31, c32⟩ := C3.out
  rw [hK]
  clear hK
  go_wp2_with fail
  refine (NP.out _).mono ?_
  rintro e w4 ⟨rfl, hb4⟩
  obtain ⟨g4, y4, hB4⟩ := three_keep hb4
  have C4 := Lib.hid (three_on hB4 y3 C3.out)
  have D4 := Lib.hid (three_on hB4 z3 D3.out)
  have x4 : w.heap.size < w4.heap.size := Nat.lt_of_lt_of_le y3 hB4.size
  have z4 : K < w4.heap.size := Nat.lt_of_lt_of_le z3 hB4.size
  have B4 := Lib.hid (B3.out.trans (hB4.mono (Nat.le_of_lt y3)))
  obtain ⟨M, hM⟩ : ∃ M, w3.heap.size = M := ⟨_, rfl⟩
  rw [hM] at g4 y4
  have HM := Lib.hid hM
  have G4 := Lib.hid g4
  rw [hM]
  obtain ⟨c40, c41, c42⟩ := C4.out
  clear hb4 g4 hB4 hM c30 c31 c32
  go_wp2_with fail
  refine (ND.out _).mono ?_
  rintro e w5 ⟨rfl, hb5⟩
  obtain ⟨d50, d51, d52⟩ := three_on hb5 z4 D4.out
  obtain ⟨g50, g51, g52⟩ := three_on hb5 y4 G4.out
  have B5 := Lib.hid (B4.out.trans (hb5.mono (Nat.le_of_lt x4)))
  clear hb5 c40 c41 c42
  go_wp2_with fail
  go_ret
  exact ⟨by simp, B5.out⟩

theorem laidOut : laidOutB Tryd.prog = true := by kernel_rfl
theorem reads (os : Os) {H : Type} (enc : TypeId × Value → H) : ∃ places, DataW.whole enc Tryd.prog ((World.laidAll Tryd.prog os lays).forCall (fun _ _ => 0) ⟨#[], #[.string ⟨#[]⟩, .agg #[.int .i64 0, .bool false, .bool false]], []⟩).memory Tryd.f3.params.toList Rows.namesRegsSpec.vars false (#[.string ⟨#[]⟩, .agg #[.int .i64 0, .bool false, .bool false]] : Array Value).toList 8 = some ([.lit (.string []), .agg [.lit (.int .i64 0), .lit (.bool false), .lit (.bool false)]], [], places) :=
  ⟨[], by kernel_rfl⟩
set_option maxRecDepth 100000 in
theorem lifted (os : Os) (started : os.Started) (H : Type) (enc : TypeId × Value → H) (F : Stop.Interp) :
    ReturnsInHanded {} Tryd.checked os 3 .any ((OpenSpec.ofChange Rows.namesRegsSpec).preRow enc Tryd.prog Tryd.f3 Rows.namesRegsRow.domain false Rows.namesRegsRow.laid) (((OpenSpec.ofChange Rows.namesRegsSpec).at F).post enc Tryd.prog Tryd.f3 false true false false) := by
  obtain ⟨places, hx⟩ := reads os enc
  refine returnsInHanded_of_row (C := Tryd.checked) (s := (OpenSpec.ofChange Rows.namesRegsSpec)) own started (by kernel_rfl) Tryd.func3
    (witness_row_atRef (enc := enc) (C := Tryd.checked) false (World.laidAll Tryd.prog os lays) #[.string ⟨#[]⟩, .agg #[.int .i64 0, .bool false, .bool false]] (World.laidAll_os _ _ _) (by kernel_rfl) (by kernel_rfl) (by kernel_rfl)
      (OpenSpec.preRow_of_cond 8 hx (by kernel_rfl) (fun k hk => by cases hk) (by kernel_rfl) (laid_met os _))) ?_
  intro W base args ds gs before hval0 hW _ hcond hsz0 hL hsh _
  have hG := good_of_laid hL hsh
  have hval : ∀ (j : Nat) t v, Tryd.f3.params[j]? = some t → args[j]? = some v → Value.okWide Tryd.prog W .any base t v := hval0
  have hW' := hW
  have hsz : (DataW.weightsEach Tryd.prog (Tryd.f3.params.toList ++ []) (ds ++ gs)).all (· ≤ reachBytes) = true := hsz0
  obtain ⟨p, q, hA0, hV, rfl, hfz, hnd⟩ := hW
  have hA : DataW.TrodAll enc Tryd.prog W 0 (fun _ => true) true Tryd.f3.params.toList args.toList ds p := hA0
  rw [Tryd.params3] at hA hval hsz
  obtain ⟨v0, vs0, d0, ds0, p0, q0, hargs, rfl, rfl, h0, r0⟩ := trodAll_cons hA
  obtain ⟨v1, vs1, d1, ds1, p1, q1, rfl, rfl, rfl, h1, r1⟩ := trodAll_cons r0
  obtain ⟨rfl, rfl, rfl⟩ := trodAll_nil r1
  obtain rfl : args = #[v0, v1] := by cases args; simp_all
  obtain ⟨rfl, rfl⟩ := trodVars_none hV
  have k0 := h0
  have lt0 : ∀ x ∈ p0, x.block < W.heap.size := by obtain ⟨m, hm⟩ := k0; exact DataW.trod_lt m _ _ _ hm
  have k1 := h1
  have lt1 : ∀ x ∈ p1, x.block < W.heap.size := by obtain ⟨m, hm⟩ := k1; exact DataW.trod_lt m _ _ _ hm
  obtain ⟨a0, rfl, e0, _, w0⟩ := Go.ChangeMaps.open_string Tryd.underlying9 (hval 0 9 v0 rfl rfl) h0
  obtain ⟨b10, b11, b12, y10, y11, y12, m1, rfl, _, _, z10, z11, z12⟩ := Go.Joins.open_agg3 Tryd.underlying23 (by kernel_rfl) (by kernel_rfl) (hval 1 23 v1 rfl rfl) h1
  obtain ⟨c10, e10, _, w10⟩ := DataW.trod_int Tryd.underlying3 z10
  simp only [List.cons.injEq, and_true] at e10
  subst e10
  obtain ⟨c11, e11, _⟩ := DataW.trod_bool Tryd.underlying4 z11
  simp only [List.cons.injEq, and_true] at e11
  subst e11
  obtain ⟨c12, e12, _⟩ := DataW.trod_bool Tryd.underlying4 z12
  simp only [List.cons.injEq, and_true] at e12
  subst e12
  have hb0 : a0.size ≤ 281474976710656 := by
    have h1 := sized_string hsz (j := 0) (t := 9) rfl (by rw [e0]; rfl)
    have h2 := reachBytes_lt
    have e : a0.size = a0.data.toList.length := (Array.length_toList ..).symm
    omega
  clear hA0 hval0 hsz0
  refine (walk a0 c10 c11 c12 W hG hb0).mono fun e W' ⟨he, bel⟩ => ?_
  subst he
  exact ⟨_, rfl, _, _, _, [], _, [], hW', trodAll_mk1 (shut_bool Tryd.underlying4 _), (trodAll_cons_mk (Below.trod laidOut (by kernel_rfl) (of_decide_eq_true (by kernel_rfl)) k0 bel lt0) (trodAll_cons_mk (Below.trod laidOut (by kernel_rfl) (of_decide_eq_true (by kernel_rfl)) k1 bel lt1) trodAll_mk0)), rfl, bel.frame _, fun h => by cases h⟩

theorem over : Rows.NamesRegsSaid :=
  OpenClaim.holds_of_cond 3 Tryd.f3 rfl rfl rfl rfl rfl rfl rfl ⟨rfl, rfl, rfl, rfl, rfl⟩ rfl rfl rfl rfl rfl (by kernel_rfl) Tryd.func3 (by kernel_rfl)
    (of_decide_eq_true (by kernel_rfl)) (by unfold Func.isWrapper; first | (rw [if_pos (by decide +kernel)]; kernel_rfl) | (rw [if_neg (by decide +kernel)]; exact ⟨rfl, rfl⟩))
    (fun os started H enc _ F => by rw [OpenClaim.pre_eq_preRow]; exact lifted os started H enc F)
theorem plain (f : FuncId) (fn : Func) (hf : Tryd.pinned.checked.prog.funcNamed "cooper/cooperlaw03.NamesRegs" = some f) (hfn : Tryd.pinned.checked.prog.funcs[f]? = some fn) :
    true = Tryd.pinned.checked.prog.looks [] ∧ ∀ (j : Nat) t, fn.params[j]? = some t → Tryd.pinned.checked.prog.wantsStandIn t = false := by
  obtain rfl : f = 3 := Option.some.inj ((show Tryd.prog.funcNamed "cooper/cooperlaw03.NamesRegs" = some 3 by kernel_rfl).symm.trans hf) |>.symm
  obtain rfl : fn = Tryd.f3 := (Option.some.inj (Tryd.func3.symm.trans hfn)).symm
  refine ⟨by kernel_rfl, fun j t ht => ?_⟩
  rw [Tryd.params3] at ht
  have hm : t ∈ Tryd.f3.params.toList := by
    have := Array.mem_of_getElem? ht
    simpa [Tryd.f3] using this
  have hall : (Tryd.f3.params.toList.all fun u => !Tryd.prog.wantsStandIn u) = true := by kernel_rfl
  exact (show Tryd.prog.wantsStandIn t = false by simpa using List.all_eq_true.1 hall t hm)

/-- the given statement -/
theorem proved : Rows.NamesRegsCardSaid :=
  Claim7.holds_tied_plain_at .later [] _ _ _ _ over (fun _ h => by cases h) (by kernel_rfl) (fun _ h => by cases h) namesRegs_row_tie rfl ⟨rfl, rfl⟩ (by kernel_rfl) rfl plain (by kernel_rfl)
end Go.Proofs.YtefglodkcddgiaaDoor.namesRegs
