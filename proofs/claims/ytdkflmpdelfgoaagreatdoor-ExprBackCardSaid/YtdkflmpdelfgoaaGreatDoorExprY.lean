/-
  The parser's within and behind, given what row and operand do: what each call returns. Conditions: those of the state.
-/
import Derived.Test.YtdkflmpdelfgoaaGreatDoorExprX
namespace Go.Proofs.YtdkflmpdelfgoaaGreatDoor
open Go.RowKit Go.Shelf
set_option linter.unusedVariables false
set_option linter.unusedSimpArgs false
attribute [local go_sem] Oper.semAt_some

def RowC (w0 : World) (tv : Value) (T : List Tok) (f : Nat) : Prop := ∀ (g : Nat) (s : St) (W : World), PS w0 tv s W → Pre T s → 3 * (T.length - s.at_) + 2 ≤ f → g ≤ 1000 →
  Calls Tryz.prog 22 #[.pointer (some ⟨w0.heap.size, 0, none⟩), .int .i64 (g : Int)] W fun e w' => OutP w0 tv (runP T f (.row g) s) e w'
def OpdC (w0 : World) (tv : Value) (T : List Tok) (f : Nat) : Prop := ∀ (s : St) (W : World), PS w0 tv s W → Pre T s → 3 * (T.length - s.at_) + 1 ≤ f →
  Calls Tryz.prog 35 #[.pointer (some ⟨w0.heap.size, 0, none⟩)] W fun e w' => OutP w0 tv (runP T f .opd s) e w'
theorem Pre.fin {T : List Tok} {s s' : St} {d : Nat} (h : Pre T s) (hf : Fin T d s s') : Pre T s' := by
  obtain ⟨a, b, c, e⟩ := h
  obtain ⟨f1, f2, f3, f4, f5⟩ := hf
  exact ⟨f2, by omega, by omega, by omega⟩
theorem push_row {w0 : World} {tv sv v' : Value} {s : St} {V w3 : World} {t : Tm} (h : PS w0 tv s V) (ho : w3.ownsRow (w0.heap.size + 1) 42 3 v' (s.tms.length + 1) (tmC s.tms ++ [.int .i64 t.k, .int .i64 t.n, .string t.s]))
    (hq : w3.heap[w0.heap.size]? = some (.cells #[tv, .int .i64 (s.at_ : Int), sv, .int .i64 (s.cnt : Int), .int .i64 (s.op : Int)] 67 (0, 0))) (hb : Below w0.heap.size w0 w3) :
    PS w0 tv ⟨s.at_, s.tms ++ [t], s.cnt, s.op⟩ (w3.setCell ⟨w0.heap.size, 2, none⟩ v') := by
  refine ⟨⟨_, (five_at hq _).2.1, ?_⟩, hb.setCell (p := ⟨w0.heap.size, 2, none⟩) (Nat.le_refl _) _⟩
  have := own_far (o := 2) (x := v') ho (show w0.heap.size < w0.heap.size + 1 by omega)
  simp only [List.length_append, List.length_cons, List.length_nil]
  rw [tmC_snoc]
  exact this
set_option maxRecDepth 100000 in
set_option maxHeartbeats 8000000 in
theorem e_within_any {w0 : World} {tv : Value} {T : List Tok} (hB : Base w0 tv T) (f : Nat) (hR : RowC w0 tv T f) (s : St) (W : World) (h : PS w0 tv s W) (hp : Pre T s) (hlt : s.at_ < T.length) (hf : 3 * (T.length - s.at_) ≤ f) :
    Calls Tryz.prog 76 #[.pointer (some ⟨w0.heap.size, 0, none⟩)] W fun e w' => OutP w0 tv ((enterF s).bind fun s1 => (runP T f (.row 6) s1).bind fun s2 => if isG (nextT T s2) BC = true then .ok ⟨s2.at_ + 1, s2.tms, s2.cnt, s2.op - 1⟩ else .error 90) e w' := by
  have hl := hB.len
  obtain ⟨p1, p2, p3, p4⟩ := hp
  have EN := Lib.hid (enter_any s W h (by omega) (by omega))
  cases h1 : enterF s with
  | error x =>
    rw [h1] at EN
    clear h hB hR p1 p2 p3 p4 hl hf hlt h1
    show Calls _ _ _ _ fun e w' => OutP w0 tv (.error x) e w'
    go_enter Tryz.func76, Tryz.ntmps76
    go_wp2_with fail
    refine EN.out.mono ?_
    rintro e w1 ⟨rfl, hb⟩
    unfold panV
    go_wp2_with fail
    simp [bodyPost, panV, OutP]
    exact hb
  | ok s1 =>
    rw [h1] at EN
    obtain ⟨rfl, hop⟩ := enterF_ok h1
    have hp1 : Pre T ⟨s.at_ + 1, s.tms, s.cnt, s.op + 1⟩ := ⟨by show s.at_ + 1 ≤ _; omega, by show s.cnt ≤ s.at_ + 1; omega, p3, hop⟩
    have RW := Lib.hid (fun V hv => hR 6 ⟨s.at_ + 1, s.tms, s.cnt, s.op + 1⟩ V hv hp1 (by show 3 * (T.length - (s.at_ + 1)) + 2 ≤ f; omega) (by decide))
    show Calls _ _ _ _ fun e w' => OutP w0 tv ((runP T f (.row 6) ⟨s.at_ + 1, s.tms, s.cnt, s.op + 1⟩).bind fun s2 => if isG (nextT T s2) BC = true then .ok ⟨s2.at_ + 1, s2.tms, s2.cnt, s2.op - 1⟩ else .error 90) e w'
    cases h2 : runP T f (.row 6) ⟨s.at_ + 1, s.tms, s.cnt, s.op + 1⟩ with
    | error x =>
      rw [h2] at RW
      clear h hB hR p1 p2 p3 p4 hl hf hlt h1 h2 hp1
      show Calls _ _ _ _ fun e w' => OutP w0 tv (.error x) e w'
      go_enter Tryz.func76, Tryz.ntmps76
      go_wp2_with fail
      refine EN.out.mono ?_
      rintro e w1 ⟨rfl, hs⟩
      go_wp2_with fail
      refine (RW.out _ hs).mono ?_
      rintro e w2 ⟨rfl, hb⟩
      unfold panV
      go_wp2_with fail
      simp [bodyPost, panV, OutP]
      exact hb
    | ok s2 =>
      rw [h2] at RW
      have hfin := runP_fin f _ _ _ h2 (show s.at_ + 1 ≤ T.length by omega)
      have hp2 := hp1.fin hfin
      obtain ⟨f1, f2, f3, f4, f5⟩ := hfin
      have hop2 : s2.op = s.op + 1 := f3
      obtain ⟨q1, q2, q3, q4⟩ := hp2
      have NX := Lib.hid (fun V hv => next_any hB s2 V hv q1)
      have SG := Lib.hid (fun V => e_isSign_any (nextT T s2) BC V)
      have w1 := wrap_nat (n := s2.at_) (by omega)
      have w2 := wrap_pred (n := s2.op) (by omega) (by omega)
      unfold BC at SG ⊢
      show Calls _ _ _ _ fun e w' => OutP w0 tv (if isG (nextT T s2) ⟨#[41]⟩ = true then .ok ⟨s2.at_ + 1, s2.tms, s2.cnt, s2.op - 1⟩ else .error 90) e w'
      generalize nextT T s2 = x at *
      cases hg : isG x ⟨#[41]⟩ with
      | false =>
        rw [hg] at SG
        have BL := bail_any 90
        unfold panV at BL
        replace BL := Lib.hid BL
        generalize tokQ x = X at *
        clear h hB hR p1 p2 p3 p4 hl hf hlt h1 h2 hp1 f1 f2 f3 f4 f5 q1 q2 q3 q4 w1 w2 hg
        show Calls _ _ _ _ fun e w' => OutP w0 tv (.error 90) e w'
        go_enter Tryz.func76, Tryz.ntmps76
        go_wp2_with fail
        refine EN.out.mono ?_
        rintro e w1 ⟨rfl, hs⟩
        go_wp2_with fail
        refine (RW.out _ hs).mono ?_
        rintro e w2 ⟨rfl, hs2⟩
        have HS2 := Lib.hid hs2
        go_wp2_with fail
        refine (NX.out _ hs2).mono ?_
        rintro e w3 ⟨rfl, hb⟩
        have HS3 := Lib.hid (HS2.out.thn hb)
        clear hb hs2
        go_wp2_with fail
        refine (SG.out _).mono ?_
        rintro e w4 ⟨rfl, hb⟩
        have HS4 := Lib.hid (HS3.out.thn hb)
        clear hb
        go_wp2_with fail
        refine (BL.out _).mono ?_
        rintro e w5 ⟨rfl, rfl⟩
        go_wp2_with fail
        simp [bodyPost, panV, OutP]
        exact HS4.out.bel
      | true =>
        rw [hg] at SG
        generalize tokQ x = X at *
        clear h hB hR p1 p2 p3 p4 hl hf hlt h1 h2 hp1 f1 f2 f3 f4 f5 q1 q2 q3 q4 hg
        show Calls _ _ _ _ fun e w' => OutP w0 tv (.ok ⟨s2.at_ + 1, s2.tms, s2.cnt, s2.op - 1⟩) e w'
        go_enter Tryz.func76, Tryz.ntmps76
        go_wp2_with fail
        refine EN.out.mono ?_
        rintro e w1 ⟨rfl, hs⟩
        go_wp2_with fail
        refine (RW.out _ hs).mono ?_
        rintro e w2 ⟨rfl, hs2⟩
        have HS2 := Lib.hid hs2
        go_wp2_with fail
        refine (NX.out _ hs2).mono ?_
        rintro e w3 ⟨rfl, hb⟩
        have HS3 := Lib.hid (HS2.out.thn hb)
        clear hb hs2
        go_wp2_with fail
        refine (SG.out _).mono ?_
        rintro e w4 ⟨rfl, hb⟩
        have HS4 := HS3.out.thn hb
        have HS5 := Lib.hid (HS4.setAt (s2.at_ + 1))
        have HS6 := Lib.hid (HS5.out.setOp (s2.op - 1))
        obtain ⟨sv, g1, g2⟩ := HS4.box
        obtain ⟨c0, c1, c2, c3, c4⟩ := cells5 g1
        have fz := fz_of g1
        obtain ⟨sv', k1, k2⟩ := HS5.out.box
        obtain ⟨d0, d1, d2, d3, d4⟩ := cells5 k1
        have fz' := fz_of k1
        simp only at d1 d4 HS5 HS6
        clear hb HS4 g1 g2 k1 k2
        go_wp2_with fail
        go_end0
        have e1 : ((s2.at_ + 1 : Nat) : Int) = (s2.at_ : Int) + 1 := by omega
        have e2 : ((s2.op - 1 : Nat) : Int) = (s.op : Int) := by omega
        have hq := HS6.out
        rw [e1, e2] at hq
        exact ⟨rfl, hq⟩
set_option maxRecDepth 100000 in
set_option maxHeartbeats 8000000 in
theorem behind_any {w0 : World} {tv : Value} {T : List Tok} (hB : Base w0 tv T) (f : Nat) (hR : OpdC w0 tv T f) (s : St) (W : World) (h : PS w0 tv s W) (hp : Pre T s) (hlt : s.at_ < T.length) (hf : 3 * (T.length - s.at_) ≤ f) (k : Nat) (hk : opOf (nextT T s) 1 = some k) :
    Calls Tryz.prog 77 #[.pointer (some ⟨w0.heap.size, 0, none⟩)] W fun e w' => OutP w0 tv ((enterF s).bind fun s1 => (runP T f .opd ⟨s1.at_, s1.tms, s1.cnt + 1, s1.op⟩).bind fun s2 => .ok ⟨s2.at_, s2.tms ++ [⟨k, 0, E0⟩], s2.cnt, s2.op - 1⟩) e w' := by
  have hl := hB.len
  obtain ⟨p1, p2, p3, p4⟩ := hp
  have NX := Lib.hid (next_any hB s W h p1)
  have OP := Lib.hid (fun V (hb : Below W.heap.size W V) => opOf_any (nextT T s) 1 V ((h.thn hb).good hB))
  rw [hk] at OP
  unfold opV at OP
  have EN := Lib.hid (fun V (hb : Below W.heap.size W V) => enter_any s V (h.thn hb) (by omega) (by omega))
  generalize tokQ (nextT T s) = X at *
  cases h1 : enterF s with
  | error x =>
    rw [h1] at EN
    clear h hB hR p1 p2 p3 p4 hl hf hlt h1
    show Calls _ _ _ _ fun e w' => OutP w0 tv (.error x) e w'
    go_enter Tryz.func77, Tryz.ntmps77
    go_wp2_with fail
    refine NX.out.mono ?_
    rintro e w1 ⟨rfl, hb⟩
    have HB1 := Lib.hid hb
    clear hb
    go_wp2_with fail
    refine (OP.out _ HB1.out).mono ?_
    rintro e w2 ⟨rfl, hb⟩
    have HB2 := Lib.hid (Below.thn HB1.out HB1.out.size hb)
    clear hb
    go_wp2_with fail
    refine (EN.out _ HB2.out).mono ?_
    rintro e w3 ⟨rfl, hb⟩
    unfold panV
    go_wp2_with fail
    simp [bodyPost, panV, OutP]
    exact hb
  | ok s1 =>
    rw [h1] at EN
    obtain ⟨rfl, hop⟩ := enterF_ok h1
    have hp1 : Pre T ⟨s.at_ + 1, s.tms, s.cnt + 1, s.op + 1⟩ := ⟨by show s.at_ + 1 ≤ _; omega, by show s.cnt + 1 ≤ s.at_ + 1; omega, by show s.tms.length ≤ s.cnt + 1; omega, hop⟩
    have RW := Lib.hid (fun V hv => hR ⟨s.at_ + 1, s.tms, s.cnt + 1, s.op + 1⟩ V hv hp1 (by show 3 * (T.length - (s.at_ + 1)) + 1 ≤ f; omega))
    show Calls _ _ _ _ fun e w' => OutP w0 tv ((runP T f .opd ⟨s.at_ + 1, s.tms, s.cnt + 1, s.op + 1⟩).bind fun s2 => .ok ⟨s2.at_, s2.tms ++ [⟨k, 0, E0⟩], s2.cnt, s2.op - 1⟩) e w'
    have w1 := wrap_nat (n := s.cnt) (by omega)
    have e1 : ((s.cnt + 1 : Nat) : Int) = (s.cnt : Int) + 1 := by omega
    cases h2 : runP T f .opd ⟨s.at_ + 1, s.tms, s.cnt + 1, s.op + 1⟩ with
    | error x =>
      rw [h2] at RW
      clear h hB hR p1 p2 p3 p4 hl hf hlt h1 h2 hp1
      show Calls _ _ _ _ fun e w' => OutP w0 tv (.error x) e w'
      go_enter Tryz.func77, Tryz.ntmps77
      go_wp2_with fail
      refine NX.out.mono ?_
      rintro e w1 ⟨rfl, hb⟩
      have HB1 := Lib.hid hb
      clear hb
      go_wp2_with fail
      refine (OP.out _ HB1.out).mono ?_
      rintro e w2 ⟨rfl, hb⟩
      have HB2 := Lib.hid (Below.thn HB1.out HB1.out.size hb)
      clear hb
      go_wp2_with fail
      refine (EN.out _ HB2.out).mono ?_
      rintro e w3 ⟨rfl, hs⟩
      have HS4 := hs.setCnt (s.cnt + 1)
      rw [e1] at HS4
      replace HS4 := Lib.hid HS4
      obtain ⟨sv, g1, g2⟩ := hs.box
      obtain ⟨c0, c1, c2, c3, c4⟩ := cells5 g1
      have fz := fz_of g1
      simp only at c3 HS4
      clear hs g1 g2 c0 c1 c2 c4
      go_wp2_with fail
      refine (RW.out _ HS4.out).mono ?_
      rintro e w5 ⟨rfl, hb⟩
      unfold panV
      go_wp2_with fail
      simp [bodyPost, panV, OutP]
      exact hb
    | ok s2 =>
      rw [h2] at RW
      have hfin := runP_fin f _ _ _ h2 (show s.at_ + 1 ≤ T.length by omega)
      have hp2 := hp1.fin hfin
      obtain ⟨f1, f2, f3, f4, f5⟩ := hfin
      have hop2 : s2.op = s.op + 1 := f3
      obtain ⟨q1, q2, q3, q4⟩ := hp2
      have w2 := wrap_pred (n := s2.op) (by omega) (by omega)
      have hl2 : s2.tms.length ≤ 1000000 := by omega
      have e2 : ((s2.op - 1 : Nat) : Int) = (s.op : Int) := by omega
      clear h hB hR p1 p2 p3 p4 hl hf hlt h1 h2 hp1 f1 f2 f3 f4 f5 q1 q2 q3 q4
      show Calls _ _ _ _ fun e w' => OutP w0 tv (.ok ⟨s2.at_, s2.tms ++ [⟨k, 0, E0⟩], s2.cnt, s2.op - 1⟩) e w'
      go_enter Tryz.func77, Tryz.ntmps77
      go_wp2_with fail
      refine NX.out.mono ?_
      rintro e w1 ⟨rfl, hb⟩
      have HB1 := Lib.hid hb
      clear hb
      go_wp2_with fail
      refine (OP.out _ HB1.out).mono ?_
      rintro e w2 ⟨rfl, hb⟩
      have HB2 := Lib.hid (Below.thn HB1.out HB1.out.size hb)
      clear hb
      go_wp2_with fail
      refine (EN.out _ HB2.out).mono ?_
      rintro e w3 ⟨rfl, hs⟩
      have HS4 := hs.setCnt (s.cnt + 1)
      rw [e1] at HS4
      replace HS4 := Lib.hid HS4
      obtain ⟨sv, g1, g2⟩ := hs.box
      obtain ⟨c0, c1, c2, c3, c4⟩ := cells5 g1
      have fz := fz_of g1
      simp only at c3 HS4
      clear hs g1 g2 c0 c1 c2 c4
      go_wp2_with fail
      refine (RW.out _ HS4.out).mono ?_
      rintro e w5 ⟨rfl, hs⟩
      have HS5 := hs.setOp (s2.op - 1)
      rw [e2] at HS5
      replace HS5 := Lib.hid HS5
      obtain ⟨sv5, g1, g2⟩ := hs.box
      obtain ⟨c0, c1, c2, c3, c4⟩ := cells5 g1
      have fz := fz_of g1
      clear hs g1 g2 c0 c1 c2 c3
      go_upto_region 5 with fail
      generalize w5.setCell ⟨w0.heap.size, 4, none⟩ (.int .i64 (s.op : Int)) = V at *
      obtain ⟨sv6, g1, hown⟩ := HS5.out.box
      dsimp only at hown
      obtain ⟨vb, vc, rfl⟩ := own_sliceN hown
      obtain ⟨c0, c1, c2, c3, c4⟩ := cells5 g1
      have fz := fz_of g1
      obtain ⟨i0, hi, hiz0, hiz1, hiz2⟩ := info_parts infoTm
      have HOWN := Lib.hid hown
      have HQ := Lib.hid g1
      have HVZ := Lib.hid (show w0.heap.size + 1 ≤ V.heap.size from heap_lt g1)
      clear g1 hown
      go_wp2_with (at_builtin; go_loud (refine wpList_append_own _ rfl _ _ 22 rfl (w0.heap.size + 1) 42 i0 (.agg #[.int .i64 0, .int .i64 0, .string ⟨#[]⟩]) 3 32 Tryz.underlying22 hi hiz0 hiz1 hiz2 rfl (by decide) _ _ _ rfl (own_mono HOWN.out (below1 V _) (fun g hg => (HOWN.out.lt g hg).2)) ⟨V.heap.size, 0, none⟩ 1 1 [.int .i64 (k : Int), .int .i64 0, .string ⟨#[]⟩] rfl rfl (fun j u hu => World.news_of_block (heap_alloc_new V _) j u hu) (by simp [Value.oneCell']) (by unfold maxLen; omega) (by omega) (by have := HVZ.out; simp; omega) ?_; intro v' w3 hown3 hgrow3 _; obtain ⟨ub, uc, rfl⟩ := own_sliceN hown3; have hq3 := (hgrow3.block w0.heap.size (by have := HVZ.out; simp; omega) (fun e => by have := (HOWN.out.lt _ e.symm).1; omega)).trans ((Below.heap_alloc V _ _ (by have := HVZ.out; omega)).trans HQ.out); obtain ⟨k0, k1, k2, k3, k4⟩ := cells5 hq3; have fz3 := fz_of hq3))
      go_end0
      have hq := push_row (t := ⟨k, 0, E0⟩) HS5.out hown3 hq3 ((HS5.out.bel.alloc (Nat.le_of_succ_le HVZ.out) _).grown hgrow3 (by have := HVZ.out; simp; omega) (fun g hg => by have := (HOWN.out.lt g hg).1; omega))
      dsimp only at hq
      rw [show s2.op - 1 = s.op by omega] at hq
      exact ⟨rfl, hq⟩
set_option maxRecDepth 100000 in
set_option maxHeartbeats 8000000 in
theorem operand_step {w0 : World} {tv : Value} {T : List Tok} (hB : Base w0 tv T) (f : Nat) (hR : RowC w0 tv T f) (hO : OpdC w0 tv T f) : OpdC w0 tv T (f + 1) := by
  intro s W h hp hf
  have hl := hB.len
  obtain ⟨p1, p2, p3, p4⟩ := hp
  have NX := Lib.hid (next_any hB s W h p1)
  obtain ⟨x, hx⟩ : ∃ x, nextT T s = x := ⟨_, rfl⟩
  have hxt : x.t.length ≤ 281474976710656 := by
    rw [← hx]; unfold nextT; rw [List.getD_eq_getElem?_getD]
    cases hq : T[s.at_]? with
    | none => exact Nat.zero_le _
    | some y => exact hB.txt y (List.mem_of_getElem? hq)
  have RD := Lib.hid (fun V (hb : Below W.heap.size W V) => readerOf_any x hxt V ((h.thn hb).good hB))
  rw [hx] at NX
  have CALL : Hid (∀ V, Below W.heap.size W V → (rdV (readF x) = .func (.func 74) #[] #[] ∧ Calls Tryz.prog 74 #[.pointer (some ⟨w0.heap.size, 0, none⟩)] V fun e w' => OutP w0 tv (runP T (f + 1) .opd s) e w') ∨ (rdV (readF x) = .func (.func 75) #[] #[] ∧ Calls Tryz.prog 75 #[.pointer (some ⟨w0.heap.size, 0, none⟩)] V fun e w' => OutP w0 tv (runP T (f + 1) .opd s) e w') ∨ (rdV (readF x) = .func (.func 76) #[] #[] ∧ Calls Tryz.prog 76 #[.pointer (some ⟨w0.heap.size, 0, none⟩)] V fun e w' => OutP w0 tv (runP T (f + 1) .opd s) e w') ∨ (rdV (readF x) = .func (.func 77) #[] #[] ∧ Calls Tryz.prog 77 #[.pointer (some ⟨w0.heap.size, 0, none⟩)] V fun e w' => OutP w0 tv (runP T (f + 1) .opd s) e w') ∨ (rdV (readF x) = .func (.func 78) #[] #[] ∧ Calls Tryz.prog 78 #[.pointer (some ⟨w0.heap.size, 0, none⟩)] V fun e w' => OutP w0 tv (runP T (f + 1) .opd s) e w')) := Lib.hid (by
    intro V hb
    rw [runP, hx]
    cases hr : readF x with
    | num => exact .inl (⟨rfl, e_number_any hB s V (h.thn hb) ⟨p1, p2, p3, p4⟩ x hx⟩)
    | sym => exact .inr (.inl (⟨rfl, symbol_any hB s V (h.thn hb) ⟨p1, p2, p3, p4⟩ x hx hxt⟩))
    | wit =>
      have hlt := next_lt (T := T) (s := s) (by rw [hx]; exact isG_k (readF_wit hr))
      exact .inr (.inr (.inl (⟨rfl, e_within_any hB f hR s V (h.thn hb) ⟨p1, p2, p3, p4⟩ hlt (by omega)⟩)))
    | beh k =>
      have hk := readF_beh hr
      have hlt := next_lt (T := T) (s := s) (by rw [hx]; exact opOf_k hk)
      exact .inr (.inr (.inr (.inl (⟨rfl, behind_any hB f hO s V (h.thn hb) ⟨p1, p2, p3, p4⟩ hlt (by omega) k (by rw [hx]; exact hk)⟩))))
    | non => exact .inr (.inr (.inr (.inr (⟨rfl, none_any s V (h.thn hb)⟩)))))
  generalize rdV (readF x) = fv at *
  generalize tokQ x = X at *
  generalize runP T (f + 1) .opd s = r at *
  clear h hB hR hO p1 p2 p3 p4 hl hf hx hxt
  go_enter Tryz.func35, Tryz.ntmps35
  go_wp2_with fail
  refine NX.out.mono ?_
  rintro e w1 ⟨rfl, hb⟩
  have HB1 := Lib.hid hb
  clear hb
  go_wp2_with fail
  refine (RD.out _ HB1.out).mono ?_
  rintro e w2 ⟨rfl, hb⟩
  have HB2 := Lib.hid (Below.thn HB1.out HB1.out.size hb)
  clear hb
  rcases CALL.out _ HB2.out with ⟨rfl, CF⟩ | ⟨rfl, CF⟩ | ⟨rfl, CF⟩ | ⟨rfl, CF⟩ | ⟨rfl, CF⟩
  all_goals
    replace CF := Lib.hid CF
    go_wp2_with fail
    refine CF.out.mono ?_
    rintro e w3 ho
    rcases out_end ho with ⟨s', rfl, rfl, hs⟩ | ⟨y, rfl, rfl, hy⟩
    · go_wp2_with fail
      go_end0
      exact ⟨rfl, hs⟩
    · unfold panV
      go_wp2_with fail
      simp [bodyPost, panV, OutP]
      exact hy
end Go.Proofs.YtdkflmpdelfgoaaGreatDoor
