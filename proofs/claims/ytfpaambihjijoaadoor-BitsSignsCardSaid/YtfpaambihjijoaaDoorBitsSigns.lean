/-
  For every number and every width BitsSigns returns true: a number's sign, where the width is one, fits it and has its lowest bits, and the lengths of the runs of ones among those bits add up to how many ones they are. No conditions.
-/
import Derived.Test.YtfpaambihjijoaaDoorRunsDoor
import Derived.Test.YtfpaambihjijoaaDoorBitsF
import Derived.Test.YtfpaambihjijoaaDoorTie
import Derived.Test.YtfpaambihjijoaaDoorCards
import Derived.SevenTiedAt
namespace Go.Proofs.YtfpaambihjijoaaDoor.bitsSigns
open Go.ChangeShapes Go.WideShapes Go.ChangeAt Go.RowKit BM
set_option linter.unusedVariables false

theorem u64_wf {v : Int} (h : (Lit.int .u64 v).wf = true) : 0 ≤ v ∧ v < 18446744073709551616 := by
  simp [Lit.wf, IntKind.min, IntKind.max, IntKind.bits, IntKind.signed] at h; omega
theorem len_runs {V : World} {v : Value} {l : List (Nat × Nat)} (h : RunsRow V v l) (V' : World) : Sem.run Tryd.prog (Builtin.len_ #[30] 3 #[v]) V' = .ok (.int .i64 (l.length : Int)) V' := by
  rcases h with ⟨h, h0⟩ | ⟨g, cap, h, _⟩
  · rw [h0, h]; simp [Builtin.len_, go_sem]
  · rw [h]; simp [Builtin.len_, go_sem]
set_option maxRecDepth 100000 in
set_option maxHeartbeats 2000000 in
theorem walk_no (v n : Int) (w : World) (h : n < 1 ∨ 64 < n) :
    Calls Tryd.prog 4 #[.int .u64 v, .int .i64 n] w fun e w' => e = .returned (.bool true) ∧ Below w.heap.size w w' := by
  have LA := Lib.hid (fun w => live_any w)
  have SN := Lib.hid (fun w => sign_no v n w h)
  clear h
  go_enter Tryd.func4, Tryd.ntmps4
  go_wp2_with fail
  refine (LA.out _).mono ?_
  rintro e w1 ⟨rfl, b1⟩
  go_wp2_with fail
  refine (SN.out _).mono ?_
  rintro e w2 ⟨rfl, rfl⟩
  go_wp2
  go_ret
  exact ⟨rfl, b1⟩
set_option maxRecDepth 100000 in
set_option maxHeartbeats 2000000 in
theorem walk_yes (v : Nat) (n : Int) (w : World) (hv : v < 18446744073709551616) (h1 : 1 ≤ n) (h2 : n ≤ 64) (hT : Tab w) (hTB : 0 < w.heap.size) :
    Calls Tryd.prog 4 #[.int .u64 (v : Int), .int .i64 n] w fun e w' => e = .returned (.bool true) ∧ Below w.heap.size w w' := by
  have hw : wid n = n.toNat := by unfold wid; rw [if_neg (by omega), if_pos h2]
  have LA := Lib.hid (fun w => live_any w)
  have SY := Lib.hid (fun w => sign_yes (v : Int) n w (Int.natCast_nonneg _) h1 h2)
  have TR := Lib.hid (fun w hT hB => told_runs v n w hv hT hB)
  rw [hw] at TR
  obtain ⟨x, hx⟩ : ∃ x, v % 2 ^ n.toNat = x := ⟨_, rfl⟩
  have hxl : x < 18446744073709551616 := by rw [← hx]; exact Nat.lt_of_le_of_lt (Nat.mod_le _ _) hv
  have L1 := Lib.hid (fun w => rlow_nat v n w hv h1 h2)
  rw [hx] at TR L1
  obtain ⟨q, hq⟩ : ∃ q : Int, sgn v n.toNat = q := ⟨_, rfl⟩
  have hb := sgn_bounds v n.toNat
  have hbk := sgn_back (v := v) (n := n.toNat) (by omega) (by omega)
  rw [Int.toNat_natCast] at SY
  rw [hq] at SY hb hbk
  rw [hx] at hbk
  have hFt : fitsB q n true = true := by
    unfold fitsB
    have e : powI (n - 1) = (2 : Int) ^ (n.toNat - 1) := by unfold powI; rw [show (n - 1).toNat = n.toNat - 1 by omega]; simp
    rw [if_pos rfl, e, decide_eq_true hb]
  have FY := fun w => fits_yes q n true w h1 h2
  rw [hFt] at FY
  have FY' := Lib.hid FY
  obtain ⟨Q, hQ⟩ : ∃ Q : Nat, IntKind.u64.wrap q = (Q : Int) := by
    rw [wrap_u64]
    exact ⟨(q % 18446744073709551616).toNat, (Int.toNat_of_nonneg (Int.emod_nonneg _ (by decide))).symm⟩
  have hQl : Q < 18446744073709551616 := by
    have := Int.emod_lt_of_pos q (show (0 : Int) < 18446744073709551616 by decide)
    rw [wrap_u64] at hQ; omega
  have L2 := fun w => rlow_nat Q n w hQl h1 h2
  rw [hQ, Int.toNat_natCast] at hbk
  rw [hbk] at L2
  have L2' := Lib.hid L2
  have CN := Lib.hid (fun w => count_any (x : Int) w (Int.natCast_nonneg _) (by omega))
  rw [Int.toNat_natCast] at CN
  have HT := Lib.hid hT
  have HB := Lib.hid hTB
  have bb := Below.refl w.heap.size w
  have sc := sum_runsC x
  have pl := pop_le 64 x
  obtain ⟨P, hP⟩ : ∃ P, pop 64 x = P := ⟨_, rfl⟩
  rw [hP] at CN sc pl
  have SC := Lib.hid sc
  have PL := Lib.hid pl
  clear hP sc pl
  clear hv h1 h2 hT hTB hx hxl hq hb hbk hw FY hFt hQl L2
  go_enter Tryd.func4, Tryd.ntmps4
  go_wp2_with fail
  refine (LA.out _).mono ?_
  rintro e w1 ⟨rfl, b1⟩
  go_wp2_with fail
  refine (SY.out _).mono ?_
  rintro e w2 ⟨rfl, rfl⟩
  go_wp2_with fail
  refine (TR.out _ (HT.out.keep HB.out b1) (by have := HB.out; have := b1.size; omega)).mono ?_
  rintro e w3 ⟨s, rfl, hrow, b3⟩
  have d3 := Below.thn b1 b1.size b3
  have RR := runs_row hrow
  have LN := len_runs RR
  obtain ⟨L, hL⟩ : ∃ L, runsC x = L := ⟨_, rfl⟩
  rw [hL] at RR LN
  have HL := Lib.hid hL
  have RH := Lib.hid RR
  have D3 := Lib.hid d3
  clear hrow b1 b3 d3 RR hL bb
  go_wp2_with fail
  have hmono : ∀ k, sumL (L.take k) ≤ 64 := by
    intro k
    have e := sumL_append (L.take k) (L.drop k)
    rw [List.take_append_drop] at e
    have h1 := SC.out
    rw [HL.out] at h1
    have := PL.out
    omega
  have HM := Lib.hid hmono
  clear hmono
  go_loopw [7, 25] (fun o i wr => ∃ k c : Nat, k ≤ L.length ∧ Hid (sumL (L.take k) = c) ∧ o = .int .i64 (c : Int) ∧ i = .int .i64 (k : Int) ∧ Below w3.heap.size w3 wr) (fun _ i _ => L.length - (intOf i).toNat)
  case atStart => exact ⟨0, 0, Nat.zero_le _, Lib.hid rfl, rfl, rfl, Below.refl _ _⟩
  case round =>
    obtain ⟨k, c, hk, hc, rfl, rfl, hbel⟩ := hrel
    have hkl : (k : Int) ≤ 9223372036854775806 ∨ True := .inr trivial
    by_cases hlt : (k : Int) < (L.length : Int)
    · have hlt' : k < L.length := by omega
      have f1 : ∃ g cap, s = .slice (some ⟨g, 0, none⟩) L.length cap ∧ wr.cell? ⟨g, k * 2, none⟩ = some (.int .i64 (L[k].1 : Int)) ∧ wr.cell? ⟨g, k * 2 + 1, none⟩ = some (.int .i64 (L[k].2 : Int)) := by
        rcases RH.out with ⟨_, h0⟩ | ⟨g, cap, h1, hg, h2⟩
        · omega
        · exact ⟨g, cap, h1, (hbel.cell (p := ⟨g, k * 2, none⟩) hg).trans (h2 k hlt').1, (hbel.cell (p := ⟨g, k * 2 + 1, none⟩) hg).trans (h2 k hlt').2⟩
      obtain ⟨g, cap, rfl, x1, x2⟩ := f1
      have es : sumL (L.take (k + 1)) = c + L[k].2 := by
        rw [List.take_add_one, List.getElem?_eq_getElem hlt', sumL_append, hc.out]; simp [sumL]
      have hm1 := HM.out (k + 1)
      rw [es] at hm1
      have hL64 : L.length ≤ 64 := by
        rw [← HL.out]; unfold runsC; rw [List.length_map]; exact Nat.le_trans (List.length_filter_le _ _) (by simp)
      obtain ⟨a, ha⟩ : ∃ a, L[k].1 = a := ⟨_, rfl⟩
      obtain ⟨b, hb⟩ : ∃ b, L[k].2 = b := ⟨_, rfl⟩
      rw [ha] at x1
      rw [hb] at x2 es hm1
      have w8 : IntKind.i64.wrap ((c : Int) + (b : Int)) = ((c + b : Nat) : Int) := by rw [IntWalk.i64_in _ (by omega)]; omega
      have w9 : IntKind.i64.wrap ((k : Int) + 1) = ((k + 1 : Nat) : Int) := by rw [IntWalk.i64_in _ (by omega)]; omega
      have ES := Lib.hid es
      have hzr := Lib.hid hbel.size
      clear ha hb es hkl
      go_wp2
      go_roundw
      case rel => exact ⟨k + 1, c + b, by omega, ES, by first | rfl | rw [← w8], by first | rfl | rw [← w9], hbel.alloc hzr.out _⟩
      case measure => simp [intOf]; omega
    · have A1 := Lib.hid (show c = P by
        have h1 := hc.out
        rw [show k = L.length by omega, List.take_length] at h1
        rw [← h1, ← SC.out, HL.out])
      have d4 := Below.thn D3.out D3.out.size hbel
      go_wp2_with fail
      refine (L1.out _).mono ?_
      rintro e w4 ⟨rfl, rfl⟩
      go_wp2_with fail
      refine (FY'.out _).mono ?_
      rintro e w5 ⟨rfl, rfl⟩
      go_wp2_with fail
      refine (L2'.out _).mono ?_
      rintro e w6 ⟨rfl, rfl⟩
      go_wp2_with fail
      refine (CN.out _).mono ?_
      rintro e w7 ⟨rfl, rfl⟩
      have A1' := A1.out
      subst A1'
      go_wp2
      go_ret
      exact ⟨rfl, d4⟩
theorem walk (v n : Int) (w : World) (wv : (Lit.int .u64 v).wf = true) (hT : Tab w) (hTB : 0 < w.heap.size) :
    Calls Tryd.prog 4 #[.int .u64 v, .int .i64 n] w fun e w' => e = .returned (.bool true) ∧ Below w.heap.size w w' := by
  obtain ⟨b1, b2⟩ := u64_wf wv
  obtain ⟨V, rfl⟩ := Int.eq_ofNat_of_zero_le b1
  by_cases h : n < 1 ∨ 64 < n
  · exact walk_no V n w h
  · exact walk_yes V n w (by omega) (by omega) (by omega) hT hTB

theorem laidOut : laidOutB Tryd.prog = true := by kernel_rfl
set_option maxRecDepth 100000 in
theorem lifted (os : Os) (started : os.Started) (H : Type) (enc : TypeId × Value → H) :
    ReturnsInHanded {} Tryd.checked os 4 .any (fun w args => (Rows.bitsSignsSpec.pre enc Tryd.prog Tryd.f4 [] false w args ∧ laidMetH Tryd.prog lay1 w) ∧ sizedMet enc Tryd.prog Tryd.f4 (OpenSpec.ofChange Rows.bitsSignsSpec) false w args)
      (Rows.bitsSignsSpec.post enc Tryd.prog Tryd.f4 false true false false) := by
  refine returnsInHanded_of_change_and (C := Tryd.checked) (X := fun w _ => laidMetH Tryd.prog lay1 w) (fun _ _ _ hh h => h.of_heap hh) own started (by kernel_rfl) Tryd.func4
    (ChangeSpec.witness_shaped (enc := enc) (C := Tryd.checked) (os := os) (X := fun w _ => laidMetH Tryd.prog lay1 w) false (World.doorLaid Tryd.prog 400 os) #[.int .u64 0, .int .i64 0] 8 rfl (World.shaped_of_RefB (by kernel_rfl) (by kernel_rfl)) (by kernel_rfl) (by kernel_rfl) (by kernel_rfl) (door_met os _)) ?_
  intro W base args ds gs before hval0 hW _ _ hL _
  have hval : ∀ (j : Nat) t v, Tryd.f4.params[j]? = some t → args[j]? = some v → Value.okWide Tryd.prog W .any base t v := hval0
  have hW' := hW
  obtain ⟨p, q, hA0, hV, rfl, hfz, hnd⟩ := hW
  have hA : DataW.TrodAll enc Tryd.prog W 0 (fun _ => true) true Tryd.f4.params.toList args.toList ds p := hA0
  rw [Tryd.params4] at hA hval
  obtain ⟨v0, vs0, d0, ds0, p0, q0, hargs, rfl, rfl, h0, r0⟩ := trodAll_cons hA
  obtain ⟨v1, vs1, d1, ds1, p1, q1, rfl, rfl, rfl, h1, r1⟩ := trodAll_cons r0
  obtain ⟨rfl, rfl, rfl⟩ := trodAll_nil r1
  obtain rfl : args = #[v0, v1] := by cases args; simp_all
  obtain ⟨rfl, rfl⟩ := trodVars_none hV
  have k0 := h0
  have lt0 : ∀ x ∈ p0, x.block < W.heap.size := by obtain ⟨m, hm⟩ := k0; exact DataW.trod_lt m _ _ _ hm
  have k1 := h1
  have lt1 : ∀ x ∈ p1, x.block < W.heap.size := by obtain ⟨m, hm⟩ := k1; exact DataW.trod_lt m _ _ _ hm
  obtain ⟨a0, rfl, _, _, w0⟩ := open_int Tryd.underlying22 (hval 0 22 v0 rfl rfl) h0
  obtain ⟨a1, rfl, _, _, w1⟩ := open_int Tryd.underlying3 (hval 1 3 v1 rfl rfl) h1
  obtain ⟨hT, hTB⟩ := of_laid hL
  clear hA0 hval0
  refine (walk a0 a1 W w0 hT hTB).mono fun e W' ⟨he, bel⟩ => ?_
  subst he
  exact ⟨_, rfl, _, _, _, [], _, [], hW', trodAll_mk1 (shut_bool Tryd.underlying4 _), (trodAll_cons_mk (Below.trod laidOut (by kernel_rfl) (of_decide_eq_true (by kernel_rfl)) k0 bel lt0) (trodAll_cons_mk (Below.trod laidOut (by kernel_rfl) (of_decide_eq_true (by kernel_rfl)) k1 bel lt1) trodAll_mk0)), rfl, bel.frame _, fun h => by cases h⟩

theorem over : Rows.BitsSignsSaid :=
  OpenClaim.holds_of_wide 4 Tryd.f4 rfl rfl rfl rfl rfl rfl rfl ⟨rfl, rfl, rfl, rfl, rfl⟩ rfl rfl rfl rfl rfl (by kernel_rfl) Tryd.func4 (by kernel_rfl)
    (of_decide_eq_true (by kernel_rfl)) (by unfold Func.isWrapper; first | (rw [if_pos (by decide +kernel)]; kernel_rfl) | (rw [if_neg (by decide +kernel)]; exact ⟨rfl, rfl⟩))
    (fun os started H enc _ => lifted os started H enc)

/-- the given statement -/
theorem proved : Rows.BitsSignsCardSaid :=
  Claim7.holds_tied_plain_at .later [] [.data] true (true, "3255909d1a33e6bc464a5a0121ef09384b11ab66f64bb9fdf48690307156d8e2") false
    over (fun _ h => by cases h) (by kernel_rfl) (fun _ h => by cases h) bitsSigns_row_tie rfl ⟨rfl, rfl⟩ (by kernel_rfl) rfl
    (fun f fn hf hfn => by
      obtain rfl : f = 4 := Option.some.inj ((show Tryd.prog.funcNamed "cooper/cooperlaw01.BitsSigns" = some 4 by kernel_rfl).symm.trans hf) |>.symm
      obtain rfl : fn = Tryd.f4 := (Option.some.inj (Tryd.func4.symm.trans hfn)).symm
      exact ⟨by kernel_rfl, fun j t ht => by
        rw [Tryd.params4] at ht
        have hm : t ∈ Tryd.f4.params.toList := by
          have := Array.mem_of_getElem? ht
          simpa [Tryd.f4] using this
        have hall : (Tryd.f4.params.toList.all fun u => !Tryd.prog.wantsStandIn u) = true := by kernel_rfl
        exact (show Tryd.prog.wantsStandIn t = false by simpa using List.all_eq_true.1 hall t hm)⟩)
    (by kernel_rfl)
end Go.Proofs.YtfpaambihjijoaaDoor.bitsSigns
