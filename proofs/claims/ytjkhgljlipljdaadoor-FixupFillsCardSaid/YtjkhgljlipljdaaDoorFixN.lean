/-
  What each call of the document's Resolve returns: what the program's does. Conditions: how the symbols lie.
-/
import Derived.Test.YtjkhgljlipljdaaDoorFixM
namespace Go.Proofs.YtjkhgljlipljdaaDoor
open Go.RowKit
set_option linter.unusedVariables false
set_option linter.unusedSimpArgs false

theorem dred_reck (s : Sm) : dred s = reck s := by
  obtain ⟨n, ⟨pi, ps, pv, pn⟩, ⟨mi, ms, mv, mn⟩⟩ := s
  have w1 : wrap64 (wrap64 (n - mv) + pv) = wrap64 (wrap64 (n + pv) - mv) := by unfold wrap64; omega
  have w2 : wrap64 (n + wrap64 (pv - mv)) = wrap64 (wrap64 (n + pv) - mv) := by unfold wrap64; omega
  have e3 : ∀ v : Sm, dn3 v = rk3 v := by
    intro v
    obtain ⟨n, ⟨pi, ps, pv, pn⟩, ⟨mi, ms, mv, mn⟩⟩ := v
    have w2 : wrap64 (n + wrap64 (pv - mv)) = wrap64 (wrap64 (n + pv) - mv) := by unfold wrap64; omega
    unfold dn3 rk3 canc inB
    simp only
    rw [w2]
    have hc : (pi && (mi && ((ps == ms) && (ps != -1)))) = (mi && (pi && ((ps == ms) && (ms != -1)))) := by
      by_cases h : ps = ms
      · subst h; cases pi <;> cases mi <;> simp
      · have : (ps == ms) = false := by simp [h]
        rw [this]; cases pi <;> cases mi <;> simp
    rw [hc]
  unfold dred reck
  rw [e3]
  congr 1
  unfold dn1 dn2 rk1 rk2
  by_cases h1 : numB ⟨pi, ps, pv, pn⟩ = true
  · by_cases h2 : numB ⟨mi, ms, mv, mn⟩ = true
    · simp only [h1, h2, if_true]; rw [w1]
    · simp only [h1, h2, if_true, if_false, Bool.false_eq_true]
  · by_cases h2 : numB ⟨mi, ms, mv, mn⟩ = true
    · simp only [h1, h2, if_true, if_false, Bool.false_eq_true]
    · simp only [h1, h2, if_false, Bool.false_eq_true]
theorem kinds {k s : Int} (h : holeOk k s = true) : nearB (shR k s) = decide (k ≤ 6) ∧ filledB (shR k s) = (decide (k ≤ 6) || decide (10 ≤ k)) ∧ (decide (k ≤ 6) && decide (10 ≤ k)) = false := by
  unfold shR
  rw [if_pos h]
  obtain ⟨x, hx, rfl, rfl⟩ := holes_all h
  exact (show ∀ x ∈ holesL, nearB (shOf (x.1 : Int) (x.2 : Int)) = decide ((x.1 : Int) ≤ 6) ∧ filledB (shOf (x.1 : Int) (x.2 : Int)) = (decide ((x.1 : Int) ≤ 6) || decide (10 ≤ (x.1 : Int))) ∧ (decide ((x.1 : Int) ≤ 6) && decide (10 ≤ (x.1 : Int))) = false by decide) x hx
theorem rel_same (h : Sh) (far : Bool) (off : Int) (v : Sm) (hp : v.p.is = true) (hn : -1 ≤ v.p.num) : relR h far off v = (relF h far off v.p v.n, relG h far v.p) := by
  unfold relR relF relG
  rw [if_neg (by simp [hp])]
  by_cases h0 : relI h far = 0
  · rw [if_pos h0, if_pos h0, if_pos h0]; split <;> rfl
  · rw [if_neg h0, if_neg h0, if_neg h0]
    by_cases h1 : v.p.num = -1
    · rw [if_pos h1, if_pos (by omega), if_pos (by omega)]
    · rw [if_neg h1, if_neg (by omega), if_neg (by omega)]
theorem ddo_fix (D N : Bool) (h : Sh) (sec off : Int) (v : Sm) (hN : nearB h = N) (hF : filledB h = (N || D)) (hND : (N && D) = false) (hn : -1 ≤ v.p.num) :
    ddo D N (fun x => filledB h && fitsB h x) (fun far p n => relF h far off p n) (fun far p => relG h far p) sec off v = fixR sec off h v := by
  have w1 : wrap64 (v.n + wrap64 (off - v.m.val)) = wrap64 (wrap64 (v.n + off) - v.m.val) := by unfold wrap64; omega
  unfold ddo fixR
  rw [w1]
  cases hm : v.m.is with
  | true =>
    simp only [if_true, Bool.true_and]
    by_cases h1 : v.m.sec = sec
    · by_cases h2 : v.m.sec = -1
      · have hi : inB v.m sec = false := by unfold inB; rw [← h1, h2]; simp
        rw [hi, if_neg (by simp [h1]), if_pos (by simp [h2]), if_neg (by simp)]
      · have hi : inB v.m sec = true := by unfold inB; rw [← h1, hm]; simp [h2]
        rw [hi, if_neg (by simp [h1]), if_neg (by simp [h2]), if_pos rfl]
        cases hp : v.p.is with
        | true =>
          rw [rel_same _ _ _ _ (by exact hp) (by exact hn)]
          simp
        | false =>
          unfold relR
          simp [hp]
    · have hi : inB v.m sec = false := by unfold inB; simp [h1]
      rw [hi, if_pos (by simp [h1]), if_neg (by simp)]
  | false =>
    simp only [Bool.false_and, Bool.false_eq_true, if_false]
    cases hp : v.p.is with
    | true =>
      simp only [Bool.not_true, Bool.false_and, Bool.false_eq_true, if_false, if_true]
      rw [hN]
      have hi : (N && ((v.p.sec == sec) && (v.p.sec != -1))) = (N && inB v.p sec) := by
        unfold inB
        rw [hp, Bool.true_and]
        by_cases h1 : v.p.sec = sec
        · rw [h1]
        · rw [not_beq h1]; rfl
      rw [hi]
      cases hb : (N && inB v.p sec) with
      | true =>
        have hNt : N = true := by cases N <;> simp_all
        simp only [if_true]
        unfold fillR fillF fillE
        rw [hF, hNt]
        simp only [Bool.true_or, Bool.true_and, if_true]
        cases fitsB h (wrap64 (wrap64 (v.p.val + v.n) - off)) <;> rfl
      | false =>
        simp only [Bool.false_eq_true, if_false]
        rw [rel_same _ _ _ _ hp hn]
    | false =>
      simp only [Bool.not_false, Bool.true_and, Bool.false_eq_true, if_false, if_true]
      rw [hN]
      cases hD : D with
      | true =>
        obtain rfl : N = false := by cases N <;> simp_all
        subst hD
        unfold fillR fillF fillE
        rw [hF]
        simp only [Bool.not_true, Bool.false_eq_true, if_false, Bool.or_true, Bool.false_or, Bool.true_and, if_true]
        cases fitsB h v.n <;> rfl
      | false =>
        simp only [Bool.not_false, if_true]
        cases hNN : N with
        | true => rfl
        | false =>
          subst hD hNN
          unfold fillR fillF fillE
          rw [hF]
          rfl
theorem hit_num {nm : BA} {L : List Sy} {x : Option (Nat × Sy)} {p : Pt} (h : hitP x = some p) : -1 ≤ p.num := by
  cases x with
  | none => cases h
  | some y => obtain ⟨i, y⟩ := y; cases h; show (-1 : Int) ≤ (i : Int); omega
theorem find_num {sec off : Int} {L : List Sy} {nm : BA} {p : Pt} (h : findP sec off L nm = some p) : -1 ≤ p.num := by
  unfold findP at h
  split at h
  · cases h; show (-1 : Int) ≤ 0; decide
  · split at h
    · cases h; show (-1 : Int) ≤ -1; decide
    · exact hit_num (nm := nm) (L := L) h
theorem reck_num (s : Sm) (h : -1 ≤ s.p.num) : -1 ≤ (reck s).p.num := by
  unfold reck rk3
  have h1 : -1 ≤ (rk1 s).p.num := by
    unfold rk1; split
    · show (-1 : Int) ≤ 0; decide
    · exact h
  have h2 : -1 ≤ (rk2 (rk1 s)).p.num := by
    unfold rk2; split <;> exact h1
  split
  · show (-1 : Int) ≤ 0; decide
  · exact h2
theorem foundP_some {p : Pt} : foundP (some p) = p := rfl
set_option maxRecDepth 100000 in
set_option maxHeartbeats 8000000 in
theorem rres_no (h : Hl) (sec off : Int) (sv : Value) (w : World) (hok : holeOk h.k h.s = false) :
    Calls Tryd.prog 23 #[hlV h, .int .i64 sec, .int .i64 off, sv] w fun e w' => e = .returned (.tuple #[fxV fx0, .int .i64 1]) ∧ Below w.heap.size w w' := by
  have CK := Lib.hid (fun W => rcheck_any h W)
  have e1 : chkI h.k h.s = 1 := by simp [chkI, hok]
  rw [e1] at CK
  obtain ⟨k, s, a, pl, ml⟩ := h
  unfold hlV fxV fx0 at *
  simp only at *
  clear e1 hok
  go_enter Tryd.func23, Tryd.ntmps23
  go_wp2_with fail
  refine (CK.out _).mono ?_
  rintro e w1 ⟨rfl, hb1⟩
  obtain ⟨g1, g2, hbw, hz⟩ := kept2 hb1
  obtain ⟨f0, d0, d1, d2, d3, d4, d5, d6⟩ := seven g2
  have HB := Lib.hid hbw
  clear hb1 g1 g2 hbw hz
  go_wp2_with fail
  try simp only [Exit.inBlock, Exit.then]
  refine bodyPost_ret (by simp [results, Tryd.results23, go_sem, d0, d1, d2, d3, d4, d5, d6]; try rfl) rfl ?_
  refine ⟨rfl, ?_⟩
  have hw := HB.out
  iterate 7 (refine Below.setCell ?_ (by dsimp only; omega) _)
  exact hw
set_option maxRecDepth 100000 in
set_option maxHeartbeats 8000000 in
theorem rres_none (h : Hl) (sec off : Int) (sv : Value) (L : List Sy) (w : World) (hS : SymsO w sv L) (hok : holeOk h.k h.s = true) (hn : foundB (findP sec off L h.p) = false ∨ foundB (findP sec off L h.m) = false) :
    Calls Tryd.prog 23 #[hlV h, .int .i64 sec, .int .i64 off, sv] w fun e w' => e = .returned (.tuple #[fxV fx0, .int .i64 4]) ∧ Below w.heap.size w w' := by
  have CK := Lib.hid (fun W => rcheck_any h W)
  have e1 : chkI h.k h.s = 0 := by simp [chkI, hok]
  rw [e1] at CK
  have F1 := Lib.hid (fun W (hb : Below w.heap.size w W) => rfind_any sec off sv L h.p W (hS.keep hb))
  have F2 := Lib.hid (fun W (hb : Below w.heap.size w W) => rfind_any sec off sv L h.m W (hS.keep hb))
  generalize foundB (findP sec off L h.p) = x at *
  generalize foundB (findP sec off L h.m) = y at *
  generalize foundP (findP sec off L h.p) = p at *
  generalize foundP (findP sec off L h.m) = m at *
  obtain ⟨k, s, a, pl, ml⟩ := h
  unfold hlV fxV fx0 teV at *
  simp only at *
  clear e1 hok hS
  have hxy : (x = false) ∨ (x = true ∧ y = false) := by cases x <;> cases y <;> simp_all
  rcases hxy with rfl | ⟨rfl, rfl⟩
  all_goals
    go_enter Tryd.func23, Tryd.ntmps23
    go_wp2_with fail
    refine (CK.out _).mono ?_
    rintro e w1 ⟨rfl, hb1⟩
    obtain ⟨g1, g2, hbw, hz⟩ := kept2 hb1
    obtain ⟨c0, c1, c2, c3, c4⟩ := five g1
    have HB := Lib.hid hbw
    have G1 := Lib.hid g1
    have G2 := Lib.hid g2
    clear hb1 g1 g2 hbw hz
    go_wp2_with fail
    refine (F1.out _ HB.out).mono ?_
    rintro e w2 ⟨rfl, hb2⟩
    have g1 := kept_v hb2 G1.out
    have g2 := kept_v hb2 G2.out
    have hbw := Below.thn HB.out HB.out.size hb2
    have k1 := below1 w2 (.cells #[.bool p.is, .int .i64 p.num, .int .i64 p.sec, .int .i64 p.val] 88)
    have G1 := Lib.hid ((k1.block _ (heap_lt g1)).trans g1)
    have G2 := Lib.hid ((k1.block _ (heap_lt g2)).trans g2)
    have HB := Lib.hid (Below.thn hbw hbw.size k1)
    go_upto_region 5 with fail
    generalize (w2.alloc (.cells #[.bool p.is, .int .i64 p.num, .int .i64 p.sec, .int .i64 p.val] 88)) = V2 at *
    clear hb2 g1 g2 hbw k1 c0 c1 c2 c3 c4
    obtain ⟨c0, c1, c2, c3, c4⟩ := five G1.out
    go_wp2_with fail
    refine (F2.out _ HB.out).mono ?_
    rintro e w3 ⟨rfl, hb3⟩
    have k1 := below1 w3 (.cells #[.bool m.is, .int .i64 m.num, .int .i64 m.sec, .int .i64 m.val] 88)
    have G2 := Lib.hid (kept_v k1 (kept_v hb3 G2.out))
    have HB := Lib.hid (Below.thn (Below.thn HB.out HB.out.size hb3) (Below.thn HB.out HB.out.size hb3).size k1)
    go_upto_region 6 with fail
    generalize (w3.alloc (.cells #[.bool m.is, .int .i64 m.num, .int .i64 m.sec, .int .i64 m.val] 88)) = V3 at *
    clear hb3 k1 c0 c1 c2 c3 c4 G1
    obtain ⟨f0, d0, d1, d2, d3, d4, d5, d6⟩ := seven G2.out
    go_wp2_with fail
    try simp only [Exit.inBlock, Exit.then]
    refine bodyPost_ret (by simp [results, Tryd.results23, go_sem, d0, d1, d2, d3, d4, d5, d6]; try rfl) rfl ?_
    refine ⟨rfl, ?_⟩
    have hw := HB.out
    iterate 7 (refine Below.setCell ?_ (by dsimp only; omega) _)
    exact hw
theorem rresolve_any (h : Hl) (sec off : Int) (sv : Value) (L : List Sy) (w : World) (hS : SymsO w sv L) :
    Calls Tryd.prog 23 #[hlV h, .int .i64 sec, .int .i64 off, sv] w fun e w' => e = .returned (.tuple #[fxV (resO h sec off L).1, .int .i64 (resO h sec off L).2]) ∧ Below w.heap.size w w' := by
  unfold resO
  cases hok : holeOk h.k h.s with
  | false => rw [if_neg (by simp)]; exact rres_no h sec off sv w hok
  | true =>
    rw [if_pos rfl]
    cases hx : findP sec off L h.p with
    | none =>
      have e : sumO h.a none (findP sec off L h.m) = none := by cases findP sec off L h.m <;> rfl
      rw [e]
      exact rres_none h sec off sv L w hS hok (.inl (by rw [hx]; rfl))
    | some P =>
      cases hy : findP sec off L h.m with
      | none => exact rres_none h sec off sv L w hS hok (.inr (by rw [hy]; rfl))
      | some M =>
        have e1 : chkI h.k h.s = 0 := by simp [chkI, hok]
        have hp := find_num hx
        have CK := fun W => rcheck_any h W
        have F1 := fun W (hb : Below w.heap.size w W) => rfind_any sec off sv L h.p W (hS.keep hb)
        have F2 := fun W (hb : Below w.heap.size w W) => rfind_any sec off sv L h.m W (hS.keep hb)
        have DA := fun W => data_any h W
        have NE := fun W => near_any h W
        have FI := fun v W => rfits_any h v W
        have RE := fun far (q : Pt) n W => rreloc_any h far off q n W hok
        rw [e1] at CK
        rw [hx] at F1
        rw [hy] at F2
        obtain ⟨hN, hF, hND⟩ := kinds hok
        obtain ⟨k, s, a, pl, ml⟩ := h
        have := rres_both k s a pl ml sec off sv P M w (decide (10 ≤ k)) (decide (k ≤ 6)) (fun x => filledB (shR k s) && fitsB (shR k s) x) (fun far p n => relF (shR k s) far off p n) (fun far p => relG (shR k s) far p)
          (Lib.hid ⟨CK, F1, F2, DA, NE, FI, RE⟩)
        rw [dred_reck, ddo_fix _ _ _ _ _ _ hN hF hND (reck_num _ hp)] at this
        exact this
end Go.Proofs.YtjkhgljlipljdaaDoor
