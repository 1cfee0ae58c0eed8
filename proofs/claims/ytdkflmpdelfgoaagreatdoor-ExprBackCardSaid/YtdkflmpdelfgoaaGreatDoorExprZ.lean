/-
  The parser's row, and with it operand, at any state: what each call returns. Conditions: those of the state.
-/
import Derived.Test.YtdkflmpdelfgoaaGreatDoorExprY
namespace Go.Proofs.YtdkflmpdelfgoaaGreatDoor
open Go.RowKit Go.Shelf
set_option linter.unusedVariables false
set_option linter.unusedSimpArgs false
attribute [local go_sem] Oper.semAt_some

theorem group_pos {k : Nat} (h : takesN (k : Int) = 2) : 1 ≤ groupN k ∧ groupN k ≤ 1000 ∨ 1000 < groupN k := by
  unfold takesN at h
  unfold groupN
  split at h
  · split
    · omega
    · split
      · omega
      · split
        · omega
        · split <;> omega
  · split at h <;> cases h
theorem group_le {k : Nat} (h : k < 15) : groupN k ≤ 6 := by
  unfold groupN
  split
  · omega
  · split
    · omega
    · split
      · omega
      · split <;> omega
def atOf (b : Nat) (W : World) : Nat := (intOf ((W.cell? ⟨b, 1, none⟩).getD undef)).toNat
theorem PS.at_of {w0 : World} {tv : Value} {s : St} {W : World} (h : PS w0 tv s W) : atOf w0.heap.size W = s.at_ := by
  obtain ⟨sv, h1, _⟩ := h.box
  obtain ⟨_, c1, _⟩ := cells5 h1
  unfold atOf
  rw [c1]
  simp [intOf]
set_option maxRecDepth 100000 in
set_option maxHeartbeats 16000000 in
theorem row_step {w0 : World} {tv : Value} {T : List Tok} (hB : Base w0 tv T) (f : Nat) (hO : OpdC w0 tv T f) (hR : ∀ f', f' ≤ f → RowC w0 tv T f') : RowC w0 tv T (f + 1) := by
  intro g s W h hp hf hg
  have hl := hB.len
  obtain ⟨p1, p2, p3, p4⟩ := hp
  have OC := Lib.hid (hO s W h ⟨p1, p2, p3, p4⟩ (by omega))
  rw [runP]
  cases h1 : runP T f .opd s with
  | error x =>
    rw [h1] at OC
    clear h hB hR hO p1 p2 p3 p4 hl hf h1 hg
    show Calls _ _ _ _ fun e w' => OutP w0 tv (.error x) e w'
    go_enter Tryz.func22, Tryz.ntmps22
    go_wp2_with fail
    refine OC.out.mono ?_
    rintro e w1 ⟨rfl, hb⟩
    unfold panV
    go_wp2_with fail
    simp [bodyPost, panV, OutP]
    exact hb
  | ok s1 =>
    rw [h1] at OC
    have hfin := runP_fin f _ _ _ h1 p1
    have hp1 := Pre.fin ⟨p1, p2, p3, p4⟩ hfin
    have hadv : s.at_ + 1 ≤ s1.at_ := hfin.1
    have hle := hp1.1
    show Calls _ _ _ _ fun e w' => OutP w0 tv (runP T f (.loop g) s1) e w'
    obtain ⟨R, hRR⟩ : ∃ R, runP T f (.loop g) s1 = R := ⟨_, rfl⟩
    rw [hRR]
    have HBS := Lib.hid hB
    have HRC := Lib.hid hR
    have START := Lib.hid (show ∀ V, PS w0 tv s1 V → ∃ s' f', PS w0 tv s' V ∧ Pre T s' ∧ runP T f' (.loop g) s' = R ∧ 3 * (T.length - s'.at_) + 1 ≤ f' ∧ f' ≤ f from fun V hV => ⟨s1, f, hV, hp1, hRR, by omega, Nat.le_refl _⟩)
    clear h hB hR hO p1 p2 p3 p4 hf h1 hfin hp1 hadv hle hRR
    go_enter Tryz.func22, Tryz.ntmps22
    go_wp2_with fail
    refine OC.out.mono ?_
    rintro e w1 ⟨rfl, hs1⟩
    have HS1 := Lib.hid hs1
    clear hs1
    go_wp2_with fail
    go_loopw [4] (fun kv wr => Hid (∃ s' f', PS w0 tv s' wr ∧ Pre T s' ∧ runP T f' (.loop g) s' = R ∧ 3 * (T.length - s'.at_) + 1 ≤ f' ∧ f' ≤ f)) (fun kv wr => T.length - atOf w0.heap.size wr)
    case atStart => exact Lib.hid (START.out _ HS1.out)
    case round =>
      obtain ⟨s', f', hs, hp', hrun, hf', hff⟩ := hrel.out
      obtain ⟨p1, p2, p3, p4⟩ := hp'
      obtain ⟨f2, rfl⟩ : ∃ f2, f' = f2 + 1 := ⟨f' - 1, by omega⟩
      have NX := Lib.hid (next_any HBS.out s' wr hs p1)
      have OP := Lib.hid (fun V (hb : Below wr.heap.size wr V) => opOf_any (nextT T s') 2 V ((hs.thn hb).good HBS.out))
      have HS := Lib.hid hs
      rw [runP] at hrun
      cases hop : opOf (nextT T s') 2 with
      | none =>
        rw [hop] at hrun OP
        unfold opV at OP
        have HRUN := Lib.hid (show R = .ok s' from hrun.symm)
        generalize tokQ (nextT T s') = X at *
        clear hs hrel hrun hop p1 p2 p3 p4 hf' hff
        go_wp2_with fail
        refine NX.out.mono ?_
        rintro e w2 ⟨rfl, hb⟩
        have HB2 := Lib.hid hb
        clear hb
        go_wp2_with fail
        refine (OP.out _ HB2.out).mono ?_
        rintro e w3 ⟨rfl, hb⟩
        have HB3 := Lib.hid (Below.thn HB2.out HB2.out.size hb)
        clear hb
        go_wp2_with fail
        refine bodyPost_ret (results_none rfl _ _ _) rfl ?_
        rw [HRUN.out]
        exact ⟨rfl, HS.out.thn HB3.out⟩
      | some k =>
        rw [hop] at hrun OP
        obtain ⟨hk15, htk⟩ := opOf_lt hop
        have hg6 := group_le hk15
        have hg1 : 1 ≤ groupN k := by rcases group_pos htk with h | h <;> omega
        have hlt := next_lt (opOf_k hop)
        unfold opV at OP
        have OPS := Lib.hid (fun V (hb : Below wr.heap.size wr V) => (((HS.out.thn hb).good HBS.out).ops k hk15).2.2)
        have hk0 : (0 : Int) ≤ (k : Int) := by omega
        have hk1 : (k : Int) < 15 := by omega
        obtain ⟨G, hG⟩ : ∃ G, groupN k = G := ⟨_, rfl⟩
        simp only [hG] at hrun OPS
        have HGK := Lib.hid hG
        rw [hG] at hg6 hg1
        by_cases hgg : g < G
        · rw [if_pos hgg] at hrun
          have HRUN := Lib.hid (show R = .ok s' from hrun.symm)
          have hgI : (g : Int) < (G : Int) := by omega
          generalize tokQ (nextT T s') = X at *
          clear hs hrel hrun hop p1 p2 p3 p4 hf' hff hgg hlt htk hG hg6 hg1
          go_wp2_with fail
          refine NX.out.mono ?_
          rintro e w2 ⟨rfl, hb⟩
          have HB2 := Lib.hid hb
          clear hb
          go_wp2_with fail
          refine (OP.out _ HB2.out).mono ?_
          rintro e w3 ⟨rfl, hb⟩
          have HB3 := Lib.hid (Below.thn HB2.out HB2.out.size hb)
          have o2 := OPS.out _ HB3.out
          clear hb
          go_wp2_with fail
          refine bodyPost_ret (results_none rfl _ _ _) rfl ?_
          rw [HRUN.out]
          exact ⟨rfl, HS.out.thn HB3.out⟩
        · rw [if_neg hgg] at hrun
          have hgI : ¬ ((g : Int) < (G : Int)) := by omega
          have hp2 : Pre T ⟨s'.at_ + 1, s'.tms, s'.cnt + 1, s'.op⟩ := ⟨by show s'.at_ + 1 ≤ _; omega, by show s'.cnt + 1 ≤ s'.at_ + 1; omega, by show s'.tms.length ≤ s'.cnt + 1; omega, p4⟩
          have RW := Lib.hid (fun V hv => HRC.out f2 (by omega) (G - 1) ⟨s'.at_ + 1, s'.tms, s'.cnt + 1, s'.op⟩ V hv hp2 (by show 3 * (T.length - (s'.at_ + 1)) + 2 ≤ f2; omega) (by omega))
          have wG : IntKind.i64.wrap ((G : Int) - 1) = ((G - 1 : Nat) : Int) := wrap_pred (by omega) hg1
          have w1' := wrap_nat (n := s'.at_) (by omega)
          have w2' := wrap_nat (n := s'.cnt) (by omega)
          have e1 : ((s'.at_ + 1 : Nat) : Int) = (s'.at_ : Int) + 1 := by omega
          have e2 : ((s'.cnt + 1 : Nat) : Int) = (s'.cnt : Int) + 1 := by omega
          have hat' := hs.at_of
          have HAT := Lib.hid (show atOf w0.heap.size wr = s'.at_ from hat')
          have HF := Lib.hid (show 3 * (T.length - s'.at_) + 1 ≤ f2 + 1 ∧ f2 + 1 ≤ f ∧ s'.at_ < T.length ∧ s'.at_ + 1 ≤ T.length from ⟨hf', hff, hlt, hlt⟩)
          generalize tokQ (nextT T s') = X at *
          obtain ⟨g', hg'⟩ : ∃ g', G - 1 = g' := ⟨_, rfl⟩
          rw [hg'] at wG RW hrun
          cases h2 : runP T f2 (.row g') ⟨s'.at_ + 1, s'.tms, s'.cnt + 1, s'.op⟩ with
          | error x =>
            rw [h2] at hrun RW
            have HRUN := Lib.hid (show R = .error x from hrun.symm)
            clear hs hrel hrun hop p1 p2 p3 p4 hf' hff hgg hlt htk hG hg6 hg1 hp2 hat' hg' h2
            go_wp2_with fail
            refine NX.out.mono ?_
            rintro e w2 ⟨rfl, hb⟩
            have HB2 := Lib.hid hb
            clear hb
            go_wp2_with fail
            refine (OP.out _ HB2.out).mono ?_
            rintro e w3 ⟨rfl, hb⟩
            have HB3 := Lib.hid (Below.thn HB2.out HB2.out.size hb)
            have o2 := OPS.out _ HB3.out
            have HS3 := Lib.hid (HS.out.thn HB3.out)
            obtain ⟨sv, g1, g2⟩ := HS3.out.box
            obtain ⟨c0, c1, c2, c3, c4⟩ := cells5 g1
            have fz := fz_of g1
            clear hb g1 g2
            go_upto_region 5 with fail
            have hq := (HS3.out.setAt (s'.at_ + 1)).setCnt (s'.cnt + 1)
            rw [e1, e2] at hq
            dsimp only at hq
            replace hq := Lib.hid hq
            have o3 := (((hq.out).good HBS.out).ops k (by omega)).2.2
            rw [HGK.out] at o3
            clear c0 c1 c2 c3 c4 fz o2
            generalize (w3.setCell ⟨w0.heap.size, 1, none⟩ (.int .i64 ((s'.at_ : Int) + 1))).setCell ⟨w0.heap.size, 3, none⟩ (.int .i64 ((s'.cnt : Int) + 1)) = V at *
            go_wp2_with fail
            refine (RW.out _ hq.out).mono ?_
            rintro e w5 ⟨rfl, hb⟩
            unfold panV
            go_wp2_with fail
            simp only [bodyPost]
            rw [HRUN.out]
            simp [OutP, panV]
            exact hb
          | ok s2 =>
            rw [h2] at hrun RW
            have hfin := runP_fin f2 _ _ _ h2 (show s'.at_ + 1 ≤ T.length by omega)
            have hp3 := hp2.fin hfin
            obtain ⟨f1, f2', f3, f4, f5⟩ := hfin
            obtain ⟨q1, q2, q3, q4⟩ := hp3
            simp only [Job.adv] at f1 f4 f5
            have HP3 := Lib.hid (show Pre T ⟨s2.at_, s2.tms ++ [⟨k, 0, E0⟩], s2.cnt, s2.op⟩ from ⟨q1, q2, by simp only [List.length_append, List.length_cons, List.length_nil]; omega, q4⟩)
            have HA2 := Lib.hid (show s'.at_ + 1 + 1 ≤ s2.at_ from f1)
            have hl2 : s2.tms.length ≤ 1000000 := by omega
            clear f1 f2' f3 f4 f5 q1 q2 q3 q4
            have HRUN := Lib.hid (show runP T f2 (.loop g) ⟨s2.at_, s2.tms ++ [⟨k, 0, E0⟩], s2.cnt, s2.op⟩ = R from hrun)
            clear hs hrel hrun hop p1 p2 p3 p4 hf' hff hgg hlt htk hG hg6 hg1 hp2 hat' hg' h2
            go_wp2_with fail
            refine NX.out.mono ?_
            rintro e w2 ⟨rfl, hb⟩
            have HB2 := Lib.hid hb
            clear hb
            go_wp2_with fail
            refine (OP.out _ HB2.out).mono ?_
            rintro e w3 ⟨rfl, hb⟩
            have HB3 := Lib.hid (Below.thn HB2.out HB2.out.size hb)
            have o2 := OPS.out _ HB3.out
            have HS3 := Lib.hid (HS.out.thn HB3.out)
            obtain ⟨sv, g1, g2⟩ := HS3.out.box
            obtain ⟨c0, c1, c2, c3, c4⟩ := cells5 g1
            have fz := fz_of g1
            clear hb g1 g2
            go_upto_region 5 with fail
            have hq := (HS3.out.setAt (s'.at_ + 1)).setCnt (s'.cnt + 1)
            rw [e1, e2] at hq
            dsimp only at hq
            replace hq := Lib.hid hq
            have o3 := (((hq.out).good HBS.out).ops k (by omega)).2.2
            rw [HGK.out] at o3
            clear c0 c1 c2 c3 c4 fz o2
            generalize (w3.setCell ⟨w0.heap.size, 1, none⟩ (.int .i64 ((s'.at_ : Int) + 1))).setCell ⟨w0.heap.size, 3, none⟩ (.int .i64 ((s'.cnt : Int) + 1)) = V at *
            go_wp2_with fail
            refine (RW.out _ hq.out).mono ?_
            rintro e w5 ⟨rfl, hs5⟩
            have HS5 := Lib.hid hs5
            obtain ⟨sv6, g1, hown⟩ := hs5.box
            obtain ⟨vb, vc, rfl⟩ := own_sliceN hown
            obtain ⟨c0, c1, c2, c3, c4⟩ := cells5 g1
            have fz := fz_of g1
            obtain ⟨i0, hi, hiz0, hiz1, hiz2⟩ := info_parts infoTm
            have HOWN := Lib.hid hown
            have HQ := Lib.hid g1
            have HVZ := Lib.hid (show w0.heap.size + 1 ≤ w5.heap.size from heap_lt g1)
            clear g1 hown hs5
            go_wp2_with (at_builtin; go_loud (refine wpList_append_own _ rfl _ _ 22 rfl (w0.heap.size + 1) 42 i0 (.agg #[.int .i64 0, .int .i64 0, .string ⟨#[]⟩]) 3 32 Tryz.underlying22 hi hiz0 hiz1 hiz2 rfl (by decide) _ _ _ rfl (own_mono HOWN.out (below1 w5 _) (fun g hg => (HOWN.out.lt g hg).2)) ⟨w5.heap.size, 0, none⟩ 1 1 [.int .i64 (k : Int), .int .i64 0, .string ⟨#[]⟩] rfl rfl (fun j u hu => World.news_of_block (heap_alloc_new w5 _) j u hu) (by simp [Value.oneCell']) (by unfold maxLen; omega) (by omega) (by have := HVZ.out; simp; omega) ?_; intro v' w3 hown3 hgrow3 _; obtain ⟨ub, uc, rfl⟩ := own_sliceN hown3; have hq3 := (hgrow3.block w0.heap.size (by have := HVZ.out; simp; omega) (fun e => by have := (HOWN.out.lt _ e.symm).1; omega)).trans ((Below.heap_alloc w5 _ _ (by have := HVZ.out; omega)).trans HQ.out); obtain ⟨k0, k1, k2, k3, k4⟩ := cells5 hq3; have fz3 := fz_of hq3))
            rename_i w6
            have hnew := push_row (t := ⟨k, 0, E0⟩) HS5.out hown3 hq3 ((HS5.out.bel.alloc (Nat.le_of_succ_le HVZ.out) _).grown hgrow3 (by have := HVZ.out; simp; omega) (fun g hg => by have := (HOWN.out.lt g hg).1; omega))
            have HNEW := Lib.hid hnew
            go_roundw
            case rel => exact Lib.hid ⟨_, f2, HNEW.out, HP3.out, HRUN.out, by show 3 * (T.length - s2.at_) + 1 ≤ f2; have := HF.out; have := HA2.out; omega, by have := HF.out; omega⟩
            case measure =>
              rw [HNEW.out.at_of, HAT.out]
              have := HF.out
              have := HA2.out
              show T.length - s2.at_ < T.length - s'.at_
              omega
theorem jobs_any {w0 : World} {tv : Value} {T : List Tok} (hB : Base w0 tv T) : ∀ F f, f ≤ F → RowC w0 tv T f ∧ OpdC w0 tv T f
  | 0, f, hf => by
    obtain rfl : f = 0 := by omega
    exact ⟨fun g s W h hp hf => by omega, fun s W h hp hf => by omega⟩
  | F + 1, f, hf => by
    cases f with
    | zero => exact ⟨fun g s W h hp hf => by omega, fun s W h hp hf => by omega⟩
    | succ f =>
      have ih := jobs_any hB F
      have h0 := ih f (by omega)
      exact ⟨row_step hB f h0.2 (fun f' hf' => (ih f' (by omega)).1), operand_step hB f h0.1 h0.2⟩
theorem row_any {w0 : World} {tv : Value} {T : List Tok} (hB : Base w0 tv T) (f g : Nat) (s : St) (W : World) (h : PS w0 tv s W) (hp : Pre T s) (hf : 3 * (T.length - s.at_) + 2 ≤ f) (hg : g ≤ 1000) :
    Calls Tryz.prog 22 #[.pointer (some ⟨w0.heap.size, 0, none⟩), .int .i64 (g : Int)] W fun e w' => OutP w0 tv (runP T f (.row g) s) e w' :=
  (jobs_any hB f f (Nat.le_refl _)).1 g s W h hp hf hg
end Go.Proofs.YtdkflmpdelfgoaaGreatDoor
