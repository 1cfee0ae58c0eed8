/-
  The parser's within and behind, given what row and operand do: what each call returns. Conditions: those of the state.
-/
import Derived.Test.YtdkflmpdelfgoaaDoorExprX
namespace Go.Proofs.YtdkflmpdelfgoaaDoor
open Go.RowKit Go.Shelf
set_option linter.unusedVariables false
set_option linter.unusedSimpArgs false
attribute [local go_sem] Oper.semAt_some

def RowC (w0 : World) (tv : Value) (T : List Tok) (f : Nat) : Prop := ∀ (g : Nat) (s : St) (W : World), PS w0 tv s W → Pre T s → 3 * (T.length - s.at_) + 2 ≤ f → g ≤ 1000 →
  Calls Tryd.prog 54 #[.pointer (some ⟨w0.heap.size, 0, none⟩), .int .i64 (g : Int)] W fun e w' => OutP w0 tv (runP T f (.row g) s) e w'
def OpdC (w0 : World) (tv : Value) (T : List Tok) (f : Nat) : Prop := ∀ (s : St) (W : World), PS w0 tv s W → Pre T s → 3 * (T.length - s.at_) + 1 ≤ f →
  Calls Tryd.prog 69 #[.pointer (some ⟨w0.heap.size, 0, none⟩)] W fun e w' => OutP w0 tv (runP T f .opd s) e w'
theorem Pre.fin {T : List Tok} {s s' : St} {d : Nat} (h : Pre T s) (hf : Fin T d s s') : Pre T s' := by
  obtain ⟨a, b, c, e⟩ := h
  obtain ⟨f1, f2, f3, f4, f5⟩ := hf
  exact ⟨f2, by omega, by omega, by omega⟩
theorem push_row {w0 : World} {tv sv v' : Value} {s : St} {V w3 : World} {t : Tm} (h : PS w0 tv s V) (ho : w3.ownsRow (w0.heap.size + 1) 57 3 v' (s.tms.length + 1) (tmC s.tms ++ [.int .i64 t.k, .int .i64 t.n, .string t.s]))
    (hq : w3.heap[w0.heap.size]? = some (.cells #[tv, .int .i64 (s.at_ : Int), sv, .int .i64 (s.cnt : Int), .int .i64 (s.op : Int)] 94 (0, 0))) (hb : Below w0.heap.size w0 w3) :
    PS w0 tv ⟨s.at_, s.tms ++ [t], s.cnt, s.op⟩ (w3.setCell ⟨w0.heap.size, 2, none⟩ v') := by
  refine ⟨⟨_, (five_at hq _).2.1, ?_⟩, hb.setCell (p := ⟨w0.heap.size, 2, none⟩) (Nat.le_refl _) _⟩
  have := own_far (o := 2) (x := v') ho (show w0.heap.size < w0.heap.size + 1 by omega)
  simp only [List.length_append, List.length_cons, List.length_nil]
  rw [tmC_snoc]
  exact this
set_option maxRecDepth 100000 in
set_option maxHeartbeats 8000000 in
theorem within_any {w0 : World} {tv : Value} {T : List Tok} (hB : Base w0 tv T) (f : Nat) (hR : RowC w0 tv T f) (s : St) (W : World) (h : PS w0 tv s W) (hp : Pre T s) (hlt : s.at_ < T.length) (hf : 3 * (T.length - s.at_) ≤ f) :
    Calls Tryd.prog 89 #[.pointer (some ⟨w0.heap.size, 0, none⟩)] W fun e w' => OutP w0 tv ((enterF s).bind fun s1 => (runP T f (.row 6) s1).bind fun s2 => if isG (nextT T s2) BC = true then .ok ⟨s2.at_ + 1, s2.tms, s2.cnt, s2.op - 1⟩ else .error 90) e w' := by
  have hl := hB.len
  obtain ⟨p1, p2, p3, p4⟩ := hp
  have EN := Lib.hid (enter_any s W h (by omega) (by omega))
  cases h1 : enterF s with
  | error x =>
    rw [h1] at EN
    clear h hB hR p1 p2 p3 p4 hl hf hlt h1
    show Calls _ _ _ _ fun e w' => OutP w0 tv (.error x) e w'
    go_enter Tryd.func89, Tryd.ntmps89
    go_wp2_with fail
    refine EN.out.mono ?_
    rintro e w1 ⟨rfl, hb⟩
    unfold panV
    go_wp2_with fail
    simp [bodyPost, panV, OutP]
    exact hb
  | ok s1 =>
    rw [h1] at EN
    obtain ⟨rfl, hop⟩ := enterF_ok h1
    have hp1 : Pre T ⟨s.at_ + 1, s.tms, s.cnt, s.op + 1⟩ := ⟨by show s.at_ + 1 ≤ _; omega, by show s.cnt ≤ s.at_ + 1; omega, p3, hop⟩
    have RW := Lib.hid (fun V hv => hR 6 ⟨s.at_ + 1, s.tms, s.cnt, s.op + 1⟩ V hv hp1 (by show 3 * (T.length - (s.at_ + 1)) + 2 ≤ f; omega) (by decide))
    show Calls _ _ _ _ fun e w' => OutP w0 tv ((runP T f (.row 6) ⟨s.at_ + 1, s.tms, s.cnt, s.op + 1⟩).bind fun s2 => if isG (nextT T s2) BC = true then .ok ⟨s2.at_ + 1, s2.tms, s2.cnt, s2.op - 1⟩ else .error 90) e w'
    cases h2 : runP T f (.row 6) ⟨s.at_ + 1, s.tms, s.cnt, s.op + 1⟩ with
    | error x =>
      rw [h2] at RW
      clear h hB hR p1 p2 p3 p4 hl hf hlt h1 h2 hp1
      show Calls _ _ _ _ fun e w' => OutP w0 tv (.error x) e w'
      go_enter Tryd.func89, Tryd.ntmps89
      go_wp2_with fail
      refine EN.out.mono ?_
      rintro e w1 ⟨rfl, hs⟩
      go_wp2_with fail
      refine (RW.out _ hs).mono ?_
      rintro e w2 ⟨rfl, hb⟩
      unfold panV
      go_wp2_with fail
      simp [bodyPost, panV, OutP]
      exact hb
    | ok s2 =>
      rw [h2] at RW
      have hfin := runP_fin f _ _ _ h2 (show s.at_ + 1 ≤ T.length by omega)
      have hp2 := hp1.fin hfin
      obtain ⟨f1, f2, f3, f4, f5⟩ := hfin
      have hop2 : s2.op = s.op + 1 := f3
      obtain ⟨q1, q2, q3, q4⟩ := hp2
      have NX := Lib.hid (fun V hv => next_any hB s2 V hv q1)
      have SG := Lib.hid (fun V => isSign_any (nextT T s2) BC V)
      have w1 := wrap_nat (n := s2.at_) (by omega)
      have w2 := wrap_pred (n := s2.op) (by omega) (by omega)
      unfold BC at SG ⊢
      show Calls _ _ _ _ fun e w' => OutP w0 tv (if isG (nextT T s2) ⟨#[41]⟩ = true then .ok ⟨s2.at_ + 1, s2.tms, s2.cnt, s2.op - 1⟩ else .error 90) e w'
      generalize nextT T s2 = x at *
      cases hg : isG x ⟨#[41]⟩ with
      | false =>
        rw [hg] at SG
        have BL := bail_any 90
        unfold panV at BL
        replace BL := Lib.hid BL
        generalize tokQ x = X at *
        clear h hB hR p1 p2 p3 p4 hl hf hlt h1 h2 hp1 f1 f2 f3 f4 f5 q1 q2 q3 q4 w1 w2 hg
        show Calls _ _ _ _ fun e w' => OutP w0 tv (.error 90) e w'
        go_enter Tryd.func89, Tryd.ntmps89
        go_wp2_with fail
        refine EN.out.mono ?_
        rintro e w1 ⟨rfl, hs⟩
        go_wp2_with fail
        refine (RW.out _ hs).mono ?_
        rintro e w2 ⟨rfl, hs2⟩
        have HS2 := Lib.hid hs2
        go_wp2_with fail
        refine (NX.out _ hs2).mono ?_
        rintro e w3 ⟨rfl, hb⟩
        have HS3 := Lib.hid (HS2.out.thn hb)
        clear hb hs2
        go_wp2_with fail
        refine (SG.out _).mono ?_
        rintro e w4 ⟨rfl, hb⟩
        have HS4 := Lib.hid (HS3.out.thn hb)
        clear hb
        go_wp2_with fail
        refine (BL.out _).mono ?_
        rintro e w5 ⟨rfl, rfl⟩
        go_wp2_with fail
        simp [bodyPost, panV, OutP]
        exact HS4.out.bel
      | true =>
        rw [hg] at SG
        generalize tokQ x = X at *
        clear h hB hR p1 p2 p3 p4 hl hf hlt h1 h2 hp1 f1 f2 f3 f4 f5 q1 q2 q3 q4 hg
        show Calls _ _ _ _ fun e w' => OutP w0 tv (.ok ⟨s2.at_ + 1, s2.tms, s2.cnt, s2.op - 1⟩) e w'
        go_enter Tryd.func89, Tryd.ntmps89
        go_wp2_with fail
        refine EN.out.mono ?_
        rintro e w1 ⟨rfl, hs⟩
        go_wp2_with fail
        refine (RW.out _ hs).mono ?_
        rintro e w2 ⟨rfl, hs2⟩
        have HS2 := Lib.hid hs2
        go_wp2_with fail
        refine (NX.out _ hs2).mono ?_
        rintro e w3 ⟨rfl, hb⟩
        have HS3 := Lib.hid (HS2.out.thn hb)
        clear hb hs2
        go_wp2_with fail
        refine (SG.out _).mono ?_
        rintro e w4 ⟨rfl, hb⟩
        have HS4 := HS3.out.thn hb
        have HS5 := Lib.hid (HS4.setAt (s2.at_ + 1))
        have HS6 := Lib.hid (HS5.out.setOp (s2.op - 1))
        obtain ⟨sv, g1, g2⟩ := HS4.box
        obtain ⟨c0, c1, c2, c3, c4⟩ := cells5 g1
        have fz := fz_of g1
        obtain ⟨sv', k1, k2⟩ := HS5.out.box
        obtain ⟨d0, d1, d2, d3, d4⟩ := cells5 k1
        have fz' := fz_of k1
        simp only at d1 d4 HS5 HS6
        clear hb HS4 g1 g2 k1 k2
        go_wp2_with fail
        go_end0
        have e1 : ((s2.at_ + 1 : Nat) : Int) = (s2.at_ : Int) + 1 := by omega
        have e2 : ((s2.op - 1 : Nat) : Int) = (s.op : Int) := by omega
        have hq := HS6.out
        rw [e1, e2] at hq
        exact ⟨rfl, hq⟩
set_option maxRecDepth 100000 in
set_option maxHeartbeats 8000000 in
theorem behind_any {w0 : World} {tv : Value} {T : List Tok} (hB : Base w0 tv T) (f : Nat) (hR : OpdC w0 tv T f) (s : St) (W : World) (h : PS w0 tv s W) (hp : Pre T s) (hlt : s.at_ < T.length) (hf : 3 * (T.length - s.at_) ≤ f) (k : Nat) (hk : opOf (nextT T s) 1 = some k) :
    Calls Tryd.prog 90 #[.pointer (some ⟨w0.heap.size, 0, none⟩)] W fun e w' => OutP w0 tv ((enterF s).bind fun s1 => (runP T f .opd ⟨s1.at_, s1.tms, s1.cnt + 1, s1.op⟩).bind fun s2 => .ok ⟨s2.at_, s2.tms ++ [⟨k, 0, E0⟩], s2.cnt, s2.op - 1⟩) e w' := by
  have hl := hB.len
  obtain ⟨p1, p2, p3, p4⟩ := hp
  have NX := Lib.hid (next_any hB s W h p1)
  have OP := Lib.hid (fun V (hb : Below W.heap.size W V) => opOf_any (nextT T s) 1 V ((h.thn hb).good hB))
  rw [hk] at OP
  unfold opV at OP
  have EN := Lib.hid (fun V (hb : Below W.heap.size W V) => enter_any s V (h.thn hb) (by omega) (by omega))
  generalize tokQ (nextT T s) = X at *
  cases h1 : enterF s with
  | error x =>
    rw [h1] at EN
    clear h hB hR p1 p2 p3 p4 hl hf hlt h1
    show Calls _ _ _ _ fun e w' => OutP w0 tv (.error x) e w'
    go_enter Tryd.func90, Tryd.ntmps90
    go_wp2_with fail
    refine NX.out.mono ?_
    rintro e w1 ⟨rfl, hb⟩
    have HB1 := Lib.hid hb
    clear hb
    go_wp2_with fail
    refine (OP.out _ HB1.out).mono ?_
    rintro e w2 ⟨rfl, hb⟩
    have HB2 := Lib.hid (Below.thn HB1.out HB1.out.size hb)
    clear hb
    go_wp2_with fail
    refine (EN.out _ HB2.out).mono ?_
    rintro e w3 ⟨rfl, hb⟩
    unfold panV
    go_wp2_with fail
    simp [bodyPost, panV, OutP]
    exact hb
  | ok s1 =>
    rw [h1] at EN
    obtain ⟨rfl, hop⟩ := enterF_ok h1
    have hp1 : Pre T ⟨s.at_ + 1, s.tms, s.cnt + 1, s.op + 1⟩ := ⟨by show s.at_ + 1 ≤ _; omega, by show s.cnt + 1 ≤ s.at_ + 1; omega, by show s.tms.length ≤ s.cnt + 1; omega, hop⟩
    have RW := Lib.hid (fun V hv => hR ⟨s.at_ + 1, s.tms, s.cnt + 1, s.op + 1⟩ V hv hp1 (by show 3 * (T.length - (s.at_ + 1)) + 1 ≤ f; omega))
    show Calls _ _ _ _ fun e w' => OutP w0 tv ((runP T f .opd ⟨s.at_ + 1, s.tms, s.cnt + 1, s.op + 1⟩).bind fun s2 => .ok ⟨s2.at_, s2.tms ++ [⟨k, 0, E0⟩], s2.cnt, s2.op - 1⟩) e w'
    have w1 := wrap_nat (n := s.cnt) (by omega)
    have e1 : ((s.cnt + 1 : Nat) : Int) = (s.cnt : Int) + 1 := by omega
    cases h2 : runP T f .opd ⟨s.at_ + 1, s.tms, s.cnt + 1, s.op + 1⟩ with
    | error x =>
      rw [h2] at RW
      clear h hB hR p1 p2 p3 p4 hl hf hlt h1 h2 hp1
      show Calls _ _ _ _ fun e w' => OutP w0 tv (.error x) e w'
      go_enter Tryd.func90, Tryd.ntmps90
      go_wp2_with fail
      refine NX.out.mono ?_
      rintro e w1 ⟨rfl, hb⟩
      have HB1 := Lib.hid hb
      clear hb
      go_wp2_with fail
      refine (OP.out _ HB1.out).mono ?_
      rintro e w2 ⟨rfl, hb⟩
      have HB2 := Lib.hid (Below.thn HB1.out HB1.out.size hb)
      clear hb
      go_wp2_with fail
      refine (EN.out _ HB2.out).mono ?_
      rintro e w3 ⟨rfl, hs⟩
      have HS4 := hs.setCnt (s.cnt + 1)
      rw [e1] at HS4
      replace HS4 := Lib.hid HS4
      obtain ⟨sv, g1, g2⟩ := hs.box
      obtain ⟨c0, c1, c2, c3, c4⟩ := cells5 g1
      have fz := fz_of g1
      simp only at c3 HS4
      clear hs g1 g2 c0 c1 c2 c4
      go_wp2_with fail
      refine (RW.out _ HS4.out).mono ?_
      rintro e w5 ⟨rfl, hb⟩
      unfold panV
      go_wp2_with fail
      simp [bodyPost, panV, OutP]
      exact hb
    | ok s2 =>
      rw [h2] at RW
      have hfin := runP_fin f _ _ _ h2 (show s.at_ + 1 ≤ T.length by omega)
      have hp2 := hp1.fin hfin
      obtain ⟨f1, f2, f3, f4, f5⟩ := hfin
      have hop2 : s2.op = s.op + 1 := f3
      obtain ⟨q1, q2, q3, q4⟩ := hp2
      have w2 := wrap_pred (n := s2.op) (by omega) (by omega)
      have hl2 : s2.tms.length ≤ 1000000 := by omega
      have e2 : ((s2.op - 1 : Nat) : Int) = (s.op : Int) := by omega
      clear h hB hR p1 p2 p3 p4 hl hf hlt h1 h2 hp1 f1 f2 f3 f4 f5 q1 q2 q3 q4
      show Calls _ _ _ _ fun e w' => OutP w0 tv (.ok ⟨s2.at_, s2.tms ++ [⟨k, 0, E0⟩], s2.cnt, s2.op - 1⟩) e w'
      go_enter Tryd.func90, Tryd.ntmps90
      go_wp2_with fail
      refine NX.out.mono ?_
      rintro e w1 ⟨rfl, hb⟩
      have HB1 := Lib.hid hb
      clear hb
      go_wp2_with fail
      refine (OP.out _ HB1.out).mono ?_
      rintro e w2 ⟨rfl, hb⟩
      have HB2 := Lib.hid (Below.thn HB1.out HB1.out.size hb)
      clear hb
      go_wp2_with fail
      refine (EN.out _ HB2.out).mono ?_
      rintro e w3 ⟨rfl, hs⟩
      have HS4 := hs.setCnt (s.cnt + 1)
      rw [e1] at HS4
      replace HS4 := Lib.hid HS4
      obtain ⟨sv, g1, g2⟩ := hs.box
      obtain ⟨c0, c1, c2, c3, c4⟩ := cells5 g1
      have fz := fz_of g1
      simp only at c3 HS4
      clear hs g1 g2 c0 c1 c2 c4
      go_wp2_with fail
      refine (RW.out _ HS4.out).mono ?_
      rintro e w5 ⟨rfl, hs⟩
      have HS5 := hs.setOp (s2.op - 1)
      rw [e2] at HS5
      replace HS5 := Lib.hid HS5
      obtain ⟨sv5, g1, g2⟩ := hs.box
      obtain ⟨c0, c1, c2, c3, c4⟩ := cells5 g1
      have fz := fz_of g1
      clear hs g1 g2 c0 c1 c2 c3
      go_upto_region 5 with fail
      generalize w5.setCell ⟨w0.heap.size, 4, none⟩ (.int .i64 (s.op : Int)) = V at *
      obtain ⟨sv6, g1, hown⟩ := HS5.out.box
      dsimp only at hown
      obtain ⟨vb, vc, rfl⟩ := own_sliceN hown
      obtain ⟨c0, c1, c2, c3, c4⟩ := cells5 g1
      have fz := fz_of g1
      obtain ⟨i0, hi, hiz0, hiz1, hiz2⟩ := info_parts infoTm
      have HOWN := Lib.hid hown
      have HQ := Lib.hid g1
      have HVZ := Lib.hid (show w0.heap.size + 1 ≤ V.heap.size from heap_lt g1)
      clear g1 hown
      go_wp2_with (at_builtin; go_loud (refine wpList_append_own _ rfl _ _ 22 rfl (w0.heap.size + 1) 57 i0 (.agg #[.int .i64 0, .int .i64 0, .string ⟨#[]⟩]) 3 32 Tryd.underlying22 hi hiz0 hiz1 hiz2 rfl (by decide) _ _ _ rfl (own_mono HOWN.out (below1 V _) (fun g hg => (HOWN.out.lt g hg).2)) ⟨V.heap.size, 0, none⟩ 1 1 [.int .i64 (k : Int), .int .i64 0, .string ⟨#[]⟩] rfl rfl (fun j u hu => World.news_of_block (heap_alloc_new V _) j u hu) (by simp [Value.oneCell']) (by unfold maxLen; omega) (by omega) (by have := HVZ.out; simp; omega) ?_; intro v' w3 hown3 hgrow3 _; obtain ⟨ub, uc, rfl⟩ := own_sliceN hown3; have hq3 := (hgrow3.block w0.heap.size (by have := HVZ.out; simp; omega) (fun e => by have := (HOWN.out.lt _ e.symm).1; omega)).trans ((Below.heap_alloc V _ _ (by have := HVZ.out; omega)).trans HQ.out); obtain ⟨k0, k1, k2, k3, k4⟩ := cells5 hq3; have fz3 := fz_of hq3))
      go_end0
      have hq := push_row (t := ⟨k, 0, E0⟩) HS5.out hown3 hq3 ((HS5.out.bel.alloc (Nat.le_of_succ_le HVZ.out) _).grown hgrow3 (by have := HVZ.out; simp; omega) (fun g hg => by have := (HOWN.out.lt g hg).1; omega))
      dsimp only at hq
      rw [show s2.op - 1 = s.op by omega] at hq
      exact ⟨rfl, hq⟩
set_option maxRecDepth 100000 in
set_option maxHeartbeats 8000000 in
theorem operand_step {w0 : World} {tv : Value} {T : List Tok} (hB : Base w0 tv T) (f : Nat) (hR : RowC w0 tv T f) (hO : OpdC w0 tv T f) : OpdC w0 tv T (f + 1) := by
  intro s W h hp hf
  have hl := hB.len
  obtain ⟨p1, p2, p3, p4⟩ := hp
  have NX := Lib.hid (next_any hB s W h p1)
  obtain ⟨x, hx⟩ : ∃ x, nextT T s = x := ⟨_, rfl⟩
  have hxt : x.t.length ≤ 281474976710656 := by
    rw [← hx]; unfold nextT; rw [List.getD_eq_getElem?_getD]
    cases hq : T[s.at_]? with
    | none => exact Nat.zero_le _
    | some y => exact hB.txt y (List.mem_of_getElem? hq)
  have RD := Lib.hid (fun V (hb : Below W.heap.size W V) => readerOf_any x hxt V ((h.thn hb).good hB))
  rw [hx] at NX
  have CALL : Hid (∀ V, Below W.heap.size W V → (rdV (readF x) = .func (.func 87) #[] #[] ∧ Calls Tryd.prog 87 #[.pointer (some ⟨w0.heap.size, 0, none⟩)] V fun e w' => OutP w0 tv (runP T (f + 1) .opd s) e w') ∨ (rdV (readF x) = .func (.func 88) #[] #[] ∧ Calls Tryd.prog 88 #[.pointer (some ⟨w0.heap.size, 0, none⟩)] V fun e w' => OutP w0 tv (runP T (f + 1) .opd s) e w') ∨ (rdV (readF x) = .func (.func 89) #[] #[] ∧ Calls Tryd.prog 89 #[.pointer (some ⟨w0.heap.size, 0, none⟩)] V fun e w' => OutP w0 tv (runP T (f + 1) .opd s) e w') ∨ (rdV (readF x) = .func (.func 90) #[] #[] ∧ Calls Tryd.prog 90 #[.pointer (some ⟨w0.heap.size, 0, none⟩)] V fun e w' => OutP w0 tv (runP T (f + 1) .opd s) e w') ∨ (rdV (readF x) = .func (.func 91) #[] #[] ∧ Calls Tryd.prog 91 #[.pointer (some ⟨w0.heap.size, 0, none⟩)] V fun e w' => OutP w0 tv (runP T (f + 1) .opd s) e w')) := Lib.hid (by
    intro V hb
    rw [runP, hx]
    cases hr : readF x with
    | num => exact .inl (⟨rfl, number_any hB s V (h.thn hb) ⟨p1, p2, p3, p4⟩ x hx⟩)
    | sym => exact .inr (.inl (⟨rfl, symbol_any hB s V (h.thn hb) ⟨p1, p2, p3, p4⟩ x hx hxt⟩))
    | wit =>
      have hlt := next_lt (T := T) (s := s) (by rw [hx]; exact isG_k (readF_wit hr))
      exact .inr (.inr (.inl (⟨rfl, within_any hB f hR s V (h.thn hb) ⟨p1, p2, p3, p4⟩ hlt (by omega)⟩)))
    | beh k =>
      have hk := readF_beh hr
      have hlt := next_lt (T := T) (s := s) (by rw [hx]; exact opOf_k hk)
      exact .inr (.inr (.inr (.inl (⟨rfl, behind_any hB f hO s V (h.thn hb) ⟨p1, p2, p3, p4⟩ hlt (by omega) k (by rw [hx]; exact hk)⟩))))
    | non => exact .inr (.inr (.inr (.inr (⟨rfl, none_any s V (h.thn hb)⟩)))))
  generalize rdV (readF x) = fv at *
  generalize tokQ x = X at *
  generalize runP T (f + 1) .opd s = r at *
  clear h hB hR hO p1 p2 p3 p4 hl hf hx hxt
  go_enter Tryd.func69, Tryd.ntmps69
  go_wp2_with fail
  refine NX.out.mono ?_
  rintro e w1 ⟨rfl, hb⟩
  have HB1 := Lib.hid hb
  clear hb
  go_wp2_with fail
  refine (RD.out _ HB1.out).mono ?_
  rintro e w2 ⟨rfl, hb⟩
  have HB2 := Lib.hid (Below.thn HB1.out HB1.out.size hb)
  clear hb
  rcases CALL.out _ HB2.out with ⟨rfl, CF⟩ | ⟨rfl, CF⟩ | ⟨rfl, CF⟩ | ⟨rfl, CF⟩ | ⟨rfl, CF⟩
  all_goals
    replace CF := Lib.hid CF
    go_wp2_with fail
    refine CF.out.mono ?_
    rintro e w3 ho
    rcases out_end ho with ⟨s', rfl, rfl, hs⟩ | ⟨y, rfl, rfl, hy⟩
    · go_wp2_with fail
      go_end0
      exact ⟨rfl, hs⟩
    · unfold panV
      go_wp2_with fail
      simp [bodyPost, panV, OutP]
      exact hy
end Go.Proofs.YtdkflmpdelfgoaaDoor
namespace Go.Proofs.YtdkflmpdelfgoaaDoor
open Go.RowKit Go.Shelf
set_option linter.unusedVariables false
set_option linter.unusedSimpArgs false
attribute [local go_sem] Oper.semAt_some

theorem group_pos {k : Nat} (h : takesN (k : Int) = 2) : 1 ≤ groupN k ∧ groupN k ≤ 1000 ∨ 1000 < groupN k := by
  unfold takesN at h
  unfold groupN
  split at h
  · split
    · omega
    · split
      · omega
      · split
        · omega
        · split <;> omega
  · split at h <;> cases h
theorem group_le {k : Nat} (h : k < 15) : groupN k ≤ 6 := by
  unfold groupN
  split
  · omega
  · split
    · omega
    · split
      · omega
      · split <;> omega
def atOf (b : Nat) (W : World) : Nat := (intOf ((W.cell? ⟨b, 1, none⟩).getD undef)).toNat
theorem PS.at_of {w0 : World} {tv : Value} {s : St} {W : World} (h : PS w0 tv s W) : atOf w0.heap.size W = s.at_ := by
  obtain ⟨sv, h1, _⟩ := h.box
  obtain ⟨_, c1, _⟩ := cells5 h1
  unfold atOf
  rw [c1]
  simp [intOf]
set_option maxRecDepth 100000 in
set_option maxHeartbeats 16000000 in
theorem row_step {w0 : World} {tv : Value} {T : List Tok} (hB : Base w0 tv T) (f : Nat) (hO : OpdC w0 tv T f) (hR : ∀ f', f' ≤ f → RowC w0 tv T f') : RowC w0 tv T (f + 1) := by
  intro g s W h hp hf hg
  have hl := hB.len
  obtain ⟨p1, p2, p3, p4⟩ := hp
  have OC := Lib.hid (hO s W h ⟨p1, p2, p3, p4⟩ (by omega))
  rw [runP]
  cases h1 : runP T f .opd s with
  | error x =>
    rw [h1] at OC
    clear h hB hR hO p1 p2 p3 p4 hl hf h1 hg
    show Calls _ _ _ _ fun e w' => OutP w0 tv (.error x) e w'
    go_enter Tryd.func54, Tryd.ntmps54
    go_wp2_with fail
    refine OC.out.mono ?_
    rintro e w1 ⟨rfl, hb⟩
    unfold panV
    go_wp2_with fail
    simp [bodyPost, panV, OutP]
    exact hb
  | ok s1 =>
    rw [h1] at OC
    have hfin := runP_fin f _ _ _ h1 p1
    have hp1 := Pre.fin ⟨p1, p2, p3, p4⟩ hfin
    have hadv : s.at_ + 1 ≤ s1.at_ := hfin.1
    have hle := hp1.1
    show Calls _ _ _ _ fun e w' => OutP w0 tv (runP T f (.loop g) s1) e w'
    obtain ⟨R, hRR⟩ : ∃ R, runP T f (.loop g) s1 = R := ⟨_, rfl⟩
    rw [hRR]
    have HBS := Lib.hid hB
    have HRC := Lib.hid hR
    have START := Lib.hid (show ∀ V, PS w0 tv s1 V → ∃ s' f', PS w0 tv s' V ∧ Pre T s' ∧ runP T f' (.loop g) s' = R ∧ 3 * (T.length - s'.at_) + 1 ≤ f' ∧ f' ≤ f from fun V hV => ⟨s1, f, hV, hp1, hRR, by omega, Nat.le_refl _⟩)
    clear h hB hR hO p1 p2 p3 p4 hf h1 hfin hp1 hadv hle hRR
    go_enter Tryd.func54, Tryd.ntmps54
    go_wp2_with fail
    refine OC.out.mono ?_
    rintro e w1 ⟨rfl, hs1⟩
    have HS1 := Lib.hid hs1
    clear hs1
    go_wp2_with fail
    go_loopw [4] (fun kv wr => Hid (∃ s' f', PS w0 tv s' wr ∧ Pre T s' ∧ runP T f' (.loop g) s' = R ∧ 3 * (T.length - s'.at_) + 1 ≤ f' ∧ f' ≤ f)) (fun kv wr => T.length - atOf w0.heap.size wr)
    case atStart => exact Lib.hid (START.out _ HS1.out)
    case round =>
      obtain ⟨s', f', hs, hp', hrun, hf', hff⟩ := hrel.out
      obtain ⟨p1, p2, p3, p4⟩ := hp'
      obtain ⟨f2, rfl⟩ : ∃ f2, f' = f2 + 1 := ⟨f' - 1, by omega⟩
      have NX := Lib.hid (next_any HBS.out s' wr hs p1)
      have OP := Lib.hid (fun V (hb : Below wr.heap.size wr V) => opOf_any (nextT T s') 2 V ((hs.thn hb).good HBS.out))
      have HS := Lib.hid hs
      rw [runP] at hrun
      cases hop : opOf (nextT T s') 2 with
      | none =>
        rw [hop] at hrun OP
        unfold opV at OP
        have HRUN := Lib.hid (show R = .ok s' from hrun.symm)
        generalize tokQ (nextT T s') = X at *
        clear hs hrel hrun hop p1 p2 p3 p4 hf' hff
        go_wp2_with fail
        refine NX.out.mono ?_
        rintro e w2 ⟨rfl, hb⟩
        have HB2 := Lib.hid hb
        clear hb
        go_wp2_with fail
        refine (OP.out _ HB2.out).mono ?_
        rintro e w3 ⟨rfl, hb⟩
        have HB3 := Lib.hid (Below.thn HB2.out HB2.out.size hb)
        clear hb
        go_wp2_with fail
        refine bodyPost_ret (results_none rfl _ _ _) rfl ?_
        rw [HRUN.out]
        exact ⟨rfl, HS.out.thn HB3.out⟩
      | some k =>
        rw [hop] at hrun OP
        obtain ⟨hk15, htk⟩ := opOf_lt hop
        have hg6 := group_le hk15
        have hg1 : 1 ≤ groupN k := by rcases group_pos htk with h | h <;> omega
        have hlt := next_lt (opOf_k hop)
        unfold opV at OP
        have OPS := Lib.hid (fun V (hb : Below wr.heap.size wr V) => (((HS.out.thn hb).good HBS.out).ops k hk15).2.2)
        have hk0 : (0 : Int) ≤ (k : Int) := by omega
        have hk1 : (k : Int) < 15 := by omega
        obtain ⟨G, hG⟩ : ∃ G, groupN k = G := ⟨_, rfl⟩
        simp only [hG] at hrun OPS
        have HGK := Lib.hid hG
        rw [hG] at hg6 hg1
        by_cases hgg : g < G
        · rw [if_pos hgg] at hrun
          have HRUN := Lib.hid (show R = .ok s' from hrun.symm)
          have hgI : (g : Int) < (G : Int) := by omega
          generalize tokQ (nextT T s') = X at *
          clear hs hrel hrun hop p1 p2 p3 p4 hf' hff hgg hlt htk hG hg6 hg1
          go_wp2_with fail
          refine NX.out.mono ?_
          rintro e w2 ⟨rfl, hb⟩
          have HB2 := Lib.hid hb
          clear hb
          go_wp2_with fail
          refine (OP.out _ HB2.out).mono ?_
          rintro e w3 ⟨rfl, hb⟩
          have HB3 := Lib.hid (Below.thn HB2.out HB2.out.size hb)
          have o2 := OPS.out _ HB3.out
          clear hb
          go_wp2_with fail
          refine bodyPost_ret (results_none rfl _ _ _) rfl ?_
          rw [HRUN.out]
          exact ⟨rfl, HS.out.thn HB3.out⟩
        · rw [if_neg hgg] at hrun
          have hgI : ¬ ((g : Int) < (G : Int)) := by omega
          have hp2 : Pre T ⟨s'.at_ + 1, s'.tms, s'.cnt + 1, s'.op⟩ := ⟨by show s'.at_ + 1 ≤ _; omega, by show s'.cnt + 1 ≤ s'.at_ + 1; omega, by show s'.tms.length ≤ s'.cnt + 1; omega, p4⟩
          have RW := Lib.hid (fun V hv => HRC.out f2 (by omega) (G - 1) ⟨s'.at_ + 1, s'.tms, s'.cnt + 1, s'.op⟩ V hv hp2 (by show 3 * (T.length - (s'.at_ + 1)) + 2 ≤ f2; omega) (by omega))
          have wG : IntKind.i64.wrap ((G : Int) - 1) = ((G - 1 : Nat) : Int) := wrap_pred (by omega) hg1
          have w1' := wrap_nat (n := s'.at_) (by omega)
          have w2' := wrap_nat (n := s'.cnt) (by omega)
          have e1 : ((s'.at_ + 1 : Nat) : Int) = (s'.at_ : Int) + 1 := by omega
          have e2 : ((s'.cnt + 1 : Nat) : Int) = (s'.cnt : Int) + 1 := by omega
          have hat' := hs.at_of
          have HAT := Lib.hid (show atOf w0.heap.size wr = s'.at_ from hat')
          have HF := Lib.hid (show 3 * (T.length - s'.at_) + 1 ≤ f2 + 1 ∧ f2 + 1 ≤ f ∧ s'.at_ < T.length ∧ s'.at_ + 1 ≤ T.length from ⟨hf', hff, hlt, hlt⟩)
          generalize tokQ (nextT T s') = X at *
          obtain ⟨g', hg'⟩ : ∃ g', G - 1 = g' := ⟨_, rfl⟩
          rw [hg'] at wG RW hrun
          cases h2 : runP T f2 (.row g') ⟨s'.at_ + 1, s'.tms, s'.cnt + 1, s'.op⟩ with
          | error x =>
            rw [h2] at hrun RW
            have HRUN := Lib.hid (show R = .error x from hrun.symm)
            clear hs hrel hrun hop p1 p2 p3 p4 hf' hff hgg hlt htk hG hg6 hg1 hp2 hat' hg' h2
            go_wp2_with fail
            refine NX.out.mono ?_
            rintro e w2 ⟨rfl, hb⟩
            have HB2 := Lib.hid hb
            clear hb
            go_wp2_with fail
            refine (OP.out _ HB2.out).mono ?_
            rintro e w3 ⟨rfl, hb⟩
            have HB3 := Lib.hid (Below.thn HB2.out HB2.out.size hb)
            have o2 := OPS.out _ HB3.out
            have HS3 := Lib.hid (HS.out.thn HB3.out)
            obtain ⟨sv, g1, g2⟩ := HS3.out.box
            obtain ⟨c0, c1, c2, c3, c4⟩ := cells5 g1
            have fz := fz_of g1
            clear hb g1 g2
            go_upto_region 5 with fail
            have hq := (HS3.out.setAt (s'.at_ + 1)).setCnt (s'.cnt + 1)
            rw [e1, e2] at hq
            dsimp only at hq
            replace hq := Lib.hid hq
            have o3 := (((hq.out).good HBS.out).ops k (by omega)).2.2
            rw [HGK.out] at o3
            clear c0 c1 c2 c3 c4 fz o2
            generalize (w3.setCell ⟨w0.heap.size, 1, none⟩ (.int .i64 ((s'.at_ : Int) + 1))).setCell ⟨w0.heap.size, 3, none⟩ (.int .i64 ((s'.cnt : Int) + 1)) = V at *
            go_wp2_with fail
            refine (RW.out _ hq.out).mono ?_
            rintro e w5 ⟨rfl, hb⟩
            unfold panV
            go_wp2_with fail
            simp only [bodyPost]
            rw [HRUN.out]
            simp [OutP, panV]
            exact hb
          | ok s2 =>
            rw [h2] at hrun RW
            have hfin := runP_fin f2 _ _ _ h2 (show s'.at_ + 1 ≤ T.length by omega)
            have hp3 := hp2.fin hfin
            obtain ⟨f1, f2', f3, f4, f5⟩ := hfin
            obtain ⟨q1, q2, q3, q4⟩ := hp3
            simp only [Job.adv] at f1 f4 f5
            have HP3 := Lib.hid (show Pre T ⟨s2.at_, s2.tms ++ [⟨k, 0, E0⟩], s2.cnt, s2.op⟩ from ⟨q1, q2, by simp only [List.length_append, List.length_cons, List.length_nil]; omega, q4⟩)
            have HA2 := Lib.hid (show s'.at_ + 1 + 1 ≤ s2.at_ from f1)
            have hl2 : s2.tms.length ≤ 1000000 := by omega
            clear f1 f2' f3 f4 f5 q1 q2 q3 q4
            have HRUN := Lib.hid (show runP T f2 (.loop g) ⟨s2.at_, s2.tms ++ [⟨k, 0, E0⟩], s2.cnt, s2.op⟩ = R from hrun)
            clear hs hrel hrun hop p1 p2 p3 p4 hf' hff hgg hlt htk hG hg6 hg1 hp2 hat' hg' h2
            go_wp2_with fail
            refine NX.out.mono ?_
            rintro e w2 ⟨rfl, hb⟩
            have HB2 := Lib.hid hb
            clear hb
            go_wp2_with fail
            refine (OP.out _ HB2.out).mono ?_
            rintro e w3 ⟨rfl, hb⟩
            have HB3 := Lib.hid (Below.thn HB2.out HB2.out.size hb)
            have o2 := OPS.out _ HB3.out
            have HS3 := Lib.hid (HS.out.thn HB3.out)
            obtain ⟨sv, g1, g2⟩ := HS3.out.box
            obtain ⟨c0, c1, c2, c3, c4⟩ := cells5 g1
            have fz := fz_of g1
            clear hb g1 g2
            go_upto_region 5 with fail
            have hq := (HS3.out.setAt (s'.at_ + 1)).setCnt (s'.cnt + 1)
            rw [e1, e2] at hq
            dsimp only at hq
            replace hq := Lib.hid hq
            have o3 := (((hq.out).good HBS.out).ops k (by omega)).2.2
            rw [HGK.out] at o3
            clear c0 c1 c2 c3 c4 fz o2
            generalize (w3.setCell ⟨w0.heap.size, 1, none⟩ (.int .i64 ((s'.at_ : Int) + 1))).setCell ⟨w0.heap.size, 3, none⟩ (.int .i64 ((s'.cnt : Int) + 1)) = V at *
            go_wp2_with fail
            refine (RW.out _ hq.out).mono ?_
            rintro e w5 ⟨rfl, hs5⟩
            have HS5 := Lib.hid hs5
            obtain ⟨sv6, g1, hown⟩ := hs5.box
            obtain ⟨vb, vc, rfl⟩ := own_sliceN hown
            obtain ⟨c0, c1, c2, c3, c4⟩ := cells5 g1
            have fz := fz_of g1
            obtain ⟨i0, hi, hiz0, hiz1, hiz2⟩ := info_parts infoTm
            have HOWN := Lib.hid hown
            have HQ := Lib.hid g1
            have HVZ := Lib.hid (show w0.heap.size + 1 ≤ w5.heap.size from heap_lt g1)
            clear g1 hown hs5
            go_wp2_with (at_builtin; go_loud (refine wpList_append_own _ rfl _ _ 22 rfl (w0.heap.size + 1) 57 i0 (.agg #[.int .i64 0, .int .i64 0, .string ⟨#[]⟩]) 3 32 Tryd.underlying22 hi hiz0 hiz1 hiz2 rfl (by decide) _ _ _ rfl (own_mono HOWN.out (below1 w5 _) (fun g hg => (HOWN.out.lt g hg).2)) ⟨w5.heap.size, 0, none⟩ 1 1 [.int .i64 (k : Int), .int .i64 0, .string ⟨#[]⟩] rfl rfl (fun j u hu => World.news_of_block (heap_alloc_new w5 _) j u hu) (by simp [Value.oneCell']) (by unfold maxLen; omega) (by omega) (by have := HVZ.out; simp; omega) ?_; intro v' w3 hown3 hgrow3 _; obtain ⟨ub, uc, rfl⟩ := own_sliceN hown3; have hq3 := (hgrow3.block w0.heap.size (by have := HVZ.out; simp; omega) (fun e => by have := (HOWN.out.lt _ e.symm).1; omega)).trans ((Below.heap_alloc w5 _ _ (by have := HVZ.out; omega)).trans HQ.out); obtain ⟨k0, k1, k2, k3, k4⟩ := cells5 hq3; have fz3 := fz_of hq3))
            rename_i w6
            have hnew := push_row (t := ⟨k, 0, E0⟩) HS5.out hown3 hq3 ((HS5.out.bel.alloc (Nat.le_of_succ_le HVZ.out) _).grown hgrow3 (by have := HVZ.out; simp; omega) (fun g hg => by have := (HOWN.out.lt g hg).1; omega))
            have HNEW := Lib.hid hnew
            go_roundw
            case rel => exact Lib.hid ⟨_, f2, HNEW.out, HP3.out, HRUN.out, by show 3 * (T.length - s2.at_) + 1 ≤ f2; have := HF.out; have := HA2.out; omega, by have := HF.out; omega⟩
            case measure =>
              rw [HNEW.out.at_of, HAT.out]
              have := HF.out
              have := HA2.out
              show T.length - s2.at_ < T.length - s'.at_
              omega
theorem jobs_any {w0 : World} {tv : Value} {T : List Tok} (hB : Base w0 tv T) : ∀ F f, f ≤ F → RowC w0 tv T f ∧ OpdC w0 tv T f
  | 0, f, hf => by
    obtain rfl : f = 0 := by omega
    exact ⟨fun g s W h hp hf => by omega, fun s W h hp hf => by omega⟩
  | F + 1, f, hf => by
    cases f with
    | zero => exact ⟨fun g s W h hp hf => by omega, fun s W h hp hf => by omega⟩
    | succ f =>
      have ih := jobs_any hB F
      have h0 := ih f (by omega)
      exact ⟨row_step hB f h0.2 (fun f' hf' => (ih f' (by omega)).1), operand_step hB f h0.1 h0.2⟩
theorem row_any {w0 : World} {tv : Value} {T : List Tok} (hB : Base w0 tv T) (f g : Nat) (s : St) (W : World) (h : PS w0 tv s W) (hp : Pre T s) (hf : 3 * (T.length - s.at_) + 2 ≤ f) (hg : g ≤ 1000) :
    Calls Tryd.prog 54 #[.pointer (some ⟨w0.heap.size, 0, none⟩), .int .i64 (g : Int)] W fun e w' => OutP w0 tv (runP T f (.row g) s) e w' :=
  (jobs_any hB f f (Nat.le_refl _)).1 g s W h hp hf hg
end Go.Proofs.YtdkflmpdelfgoaaDoor
