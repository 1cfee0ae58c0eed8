/-
  The parser's enter, leaf: what each call returns. Conditions: those of the state.
-/
import Derived.Test.YtdkflmpdelfgoaaGreatDoorExprU
namespace Go.Proofs.YtdkflmpdelfgoaaGreatDoor
open Go.RowKit Go.Shelf
set_option linter.unusedVariables false
set_option linter.unusedSimpArgs false
attribute [local go_sem] Oper.semAt_some

def OutP (w0 : World) (tv : Value) (r : Except Int St) (e : Ending) (W' : World) : Prop := match r with
  | .ok s' => e = .returned (.tuple #[]) ∧ PS w0 tv s' W'
  | .error x => e = panV x ∧ Below w0.heap.size w0 W'
theorem wrap_nat {n : Nat} (h : n ≤ 2000000) : IntKind.i64.wrap ((n : Int) + 1) = ((n + 1 : Nat) : Int) := by rw [IntWalk.i64_in _ (by omega)]; omega
theorem wrap_pred {n : Nat} (h : n ≤ 2000000) (h1 : 1 ≤ n) : IntKind.i64.wrap ((n : Int) - 1) = ((n - 1 : Nat) : Int) := by rw [IntWalk.i64_in _ (by omega)]; omega
set_option maxRecDepth 100000 in
set_option maxHeartbeats 4000000 in
theorem enter_any {w0 : World} {tv : Value} (s : St) (W : World) (h : PS w0 tv s W) (hop : s.op ≤ 64) (hat : s.at_ ≤ 1000000) :
    Calls Tryz.prog 89 #[.pointer (some ⟨w0.heap.size, 0, none⟩)] W fun e w' => OutP w0 tv (enterF s) e w' := by
  have H1 := Lib.hid (h.setOp (s.op + 1))
  have H2 := Lib.hid (H1.out.setAt (s.at_ + 1))
  obtain ⟨sv, h1, h2⟩ := h.box
  obtain ⟨c0, c1, c2, c3, c4⟩ := cells5 h1
  have fz := fz_of h1
  obtain ⟨sv', g1, g2⟩ := H1.out.box
  obtain ⟨d0, d1, d2, d3, d4⟩ := cells5 g1
  have fz' := fz_of g1
  have w1 := wrap_nat (n := s.op) (by omega)
  have w2 := wrap_nat (n := s.at_) (by omega)
  simp only at H1 H2 d1 d4
  unfold enterF
  clear h h1 h2 g1 g2
  generalize ha : s.at_ = a at *
  generalize ho : s.op = o at *
  generalize s.tms = l at *
  generalize s.cnt = c at *
  by_cases hlt : 64 < o + 1
  · rw [if_pos hlt]
    have hlt' : (64 : Int) < ((o + 1 : Nat) : Int) := by omega
    have BL := bail_any 93
    unfold panV at BL
    replace BL := Lib.hid BL
    clear hlt w2
    go_enter Tryz.func89, Tryz.ntmps89
    go_wp2_with fail
    refine (BL.out _).mono ?_
    rintro e w1 ⟨rfl, rfl⟩
    go_wp2_with fail
    simp [bodyPost, panV, OutP]
    exact H1.out.bel
  · rw [if_neg hlt]
    have hlt' : ¬ ((64 : Int) < ((o + 1 : Nat) : Int)) := by omega
    clear hlt
    go_enter Tryz.func89, Tryz.ntmps89
    go_wp2_with fail
    go_end0
    exact ⟨rfl, H2.out⟩
/-- a term was appended, and the row is stored -/
theorem push_state {w0 : World} {tv sv : Value} {s : St} {V w3 : World} {t : Tm} {g' cap' : Nat} (h : PS w0 tv s V) (ho : w3.ownsRow (w0.heap.size + 1) 42 3 (.slice (some ⟨g', 0, none⟩) (s.tms.length + 1) cap') (s.tms.length + 1) (tmC s.tms ++ [.int .i64 t.k, .int .i64 t.n, .string t.s]))
    (hq : w3.heap[w0.heap.size]? = some (.cells #[tv, .int .i64 (s.at_ : Int), sv, .int .i64 (s.cnt : Int), .int .i64 (s.op : Int)] 67 (0, 0))) (hb : Below w0.heap.size w0 w3) :
    PS w0 tv ⟨s.at_, s.tms ++ [t], s.cnt, s.op⟩ (w3.setCell ⟨w0.heap.size, 2, none⟩ (.slice (some ⟨g', 0, none⟩) (s.tms.length + 1) cap')) := by
  refine ⟨⟨_, (five_at hq _).2.1, ?_⟩, hb.setCell (p := ⟨w0.heap.size, 2, none⟩) (Nat.le_refl _) _⟩
  have := own_far (o := 2) (x := .slice (some ⟨g', 0, none⟩) (s.tms.length + 1) cap') ho (show w0.heap.size < w0.heap.size + 1 by omega)
  simp only [List.length_append, List.length_cons, List.length_nil]
  rw [tmC_snoc]
  exact this
set_option maxRecDepth 100000 in
set_option maxHeartbeats 8000000 in
theorem leaf_any {w0 : World} {tv : Value} (s : St) (t : Tm) (W : World) (h : PS w0 tv s W) (hcnt : s.cnt ≤ 1000000) (hat : s.at_ ≤ 1000000) (hl : s.tms.length ≤ 1000000) :
    Calls Tryz.prog 88 #[.pointer (some ⟨w0.heap.size, 0, none⟩), tmV t] W fun e w' => OutP w0 tv (leafF s t) e w' := by
  obtain ⟨tk, tn, ts⟩ := t
  have HA := Lib.hid (heap_lt h.box.choose_spec.1)
  have HB0 := Lib.hid (below1 W (.cells #[.int .i64 tk, .int .i64 tn, .string ts] 42))
  have h' := h.thn HB0.out
  have H1 := Lib.hid (h'.setCnt (s.cnt + 1))
  have H2 := Lib.hid (H1.out.setAt (s.at_ + 1))
  have HN := Lib.hid (heap_alloc_new W (.cells #[.int .i64 tk, .int .i64 tn, .string ts] 42))
  obtain ⟨sv, h1, h2⟩ := h'.box
  obtain ⟨c0, c1, c2, c3, c4⟩ := cells5 h1
  have fz := fz_of h1
  obtain ⟨sv', g1, g2⟩ := H1.out.box
  obtain ⟨d0, d1, d2, d3, d4⟩ := cells5 g1
  have fz' := fz_of g1
  have w1 := wrap_nat (n := s.cnt) (by omega)
  have w2 := wrap_nat (n := s.at_) (by omega)
  simp only at H1 H2 d1 d3
  unfold leafF tmV
  simp only
  clear h h1 h2 g1 g2 h'
  by_cases hlt : 256 < s.cnt + 1
  · rw [if_pos hlt]
    have hlt' : (256 : Int) < ((s.cnt + 1 : Nat) : Int) := by omega
    have BL := bail_any 93
    unfold panV at BL
    replace BL := Lib.hid BL
    clear hlt w2
    go_enter Tryz.func88, Tryz.ntmps88
    go_upto_region 1 with fail
    generalize W.alloc (.cells #[.int .i64 tk, .int .i64 tn, .string ts] 42) = W1 at *
    go_wp2_with fail
    refine (BL.out _).mono ?_
    rintro e w1 ⟨rfl, rfl⟩
    go_wp2_with fail
    simp [bodyPost, panV, OutP]
    exact H1.out.bel
  · rw [if_neg hlt]
    have hlt' : ¬ ((256 : Int) < ((s.cnt + 1 : Nat) : Int)) := by omega
    clear hlt
    go_enter Tryz.func88, Tryz.ntmps88
    go_upto_region 1 with fail
    generalize W.alloc (.cells #[.int .i64 tk, .int .i64 tn, .string ts] 42) = W1 at *
    go_upto_region 5 with fail
    have e1 : ((s.cnt + 1 : Nat) : Int) = (s.cnt : Int) + 1 := by omega
    have e2 : ((s.at_ + 1 : Nat) : Int) = (s.at_ : Int) + 1 := by omega
    rw [e1, e2] at H2
    have HX := Lib.hid (set_far (o := 1) (x := .int .i64 ((s.at_ : Int) + 1)) (set_far (o := 3) (x := .int .i64 ((s.cnt : Int) + 1)) HN.out (show w0.heap.size ≠ W.heap.size by have := HA.out; omega)) (show w0.heap.size ≠ W.heap.size by have := HA.out; omega))
    clear c0 c1 c2 c3 c4 d0 d1 d2 d3 d4 fz fz' H1 HN w1 w2 e1 e2 hlt'
    generalize (W1.setCell ⟨w0.heap.size, 3, none⟩ (.int .i64 ((s.cnt : Int) + 1))).setCell ⟨w0.heap.size, 1, none⟩ (.int .i64 ((s.at_ : Int) + 1)) = V at *
    obtain ⟨sv2, q1, hown⟩ := H2.out.box
    obtain ⟨vb, vc, rfl⟩ := own_sliceN hown
    obtain ⟨c0, c1, c2, c3, c4⟩ := cells5 q1
    have fz := fz_of q1
    obtain ⟨x0, x1, x2⟩ := val_cells HX.out
    obtain ⟨i0, hi, hiz0, hiz1, hiz2⟩ := info_parts infoTm
    have HOWN := Lib.hid hown
    have HQ := Lib.hid q1
    simp only at hown
    have HV3 := Lib.hid (show ∀ (V : World) j u, ([.int .i64 tk, .int .i64 tn, .string ts] : List Value)[j]? = some u → (V.alloc (.cells #[.int .i64 tk, .int .i64 tn, .string ts] 42)).cell? ((⟨V.heap.size, 0, none⟩ : Addr).add j) = some u from fun V j u hu => World.news_of_block (heap_alloc_new V _) j u hu)
    have HVZ := Lib.hid (show w0.heap.size + 1 ≤ V.heap.size from heap_lt q1)
    have m2 := cell_kept (below1 V (.cells #[.int .i64 tk, .int .i64 tn, .string ts] 42)) c2
    have y0 := cell_kept (below1 V (.cells #[.int .i64 tk, .int .i64 tn, .string ts] 42)) x0
    have y1 := cell_kept (below1 V (.cells #[.int .i64 tk, .int .i64 tn, .string ts] 42)) x1
    have y2 := cell_kept (below1 V (.cells #[.int .i64 tk, .int .i64 tn, .string ts] 42)) x2
    clear q1 hown
    go_region_law (refine step_append_lies _ (by rfl) (.tmp 28) (.tmp 30) 22 (by rfl) (w0.heap.size + 1) 42 i0 (.agg #[.int .i64 0, .int .i64 0, .string ⟨#[]⟩]) 3 32 Tryz.underlying22 hi hiz0 hiz1 hiz2 (by rfl) (by decide) (.slice vb s.tms.length vc) s.tms.length (tmC s.tms) (by rfl) (HOWN.out.drew.alloc _) ⟨V.heap.size, 0, none⟩ 1 1 [.int .i64 tk, .int .i64 tn, .string ts] (by rfl) (by rfl) (by exact HV3.out _) (by simp [Value.oneCell']) (by decide) (by unfold maxLen; omega) (by omega) (by have := HVZ.out; simp; omega) _ (by rfl) ?_; intro g' cap' w3 hown3 hgrow3 _ _; have hq3 := (hgrow3.block w0.heap.size (by have := HVZ.out; simp; omega) (fun e => by have := (HOWN.out.lt _ e.symm).1; omega)).trans ((Below.heap_alloc V _ _ (by have := HVZ.out; omega)).trans HQ.out); obtain ⟨k0, k1, k2, k3, k4⟩ := cells5 hq3; have fz3 := fz_of hq3)
    all_goals
      go_wp2_with fail
      go_end0
      exact ⟨rfl, push_state H2.out hown3 hq3 (((H2.out.bel.drew).alloc (Nat.le_of_succ_le HVZ.out) _).grown hgrow3 (by have := HVZ.out; simp; omega) (fun g hg => by have := (HOWN.out.lt g hg).1; omega))⟩
end Go.Proofs.YtdkflmpdelfgoaaGreatDoor
