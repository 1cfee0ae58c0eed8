/-
  Which pattern the parts of a field name, as the program finds it. No conditions beyond those that each lemma states.
-/
import Derived.Test.YtmkeopglgfddjaaDoorLogS
import Derived.Test.YtmkeopglgfddjaaDoorRoundQuiet
namespace Go.Proofs.YtmkeopglgfddjaaDoor
open Go.RowKit Go.Shelf BM
attribute [local go_sem] Oper.semAt_some

/-- do the parts name a pattern of s places -/
def Fit (n r m : Int) (s : Nat) : Prop := n = (bitN s : Int) ∧ (topN s : Int) ≤ m ∧ m < (topN s : Int) + (s : Int) - 1 ∧ 0 ≤ r ∧ r < (s : Int)

theorem box_new (W : World) (v : Value) (t : TypeId) : (W.alloc (.cells #[v] t)).cell? ⟨W.heap.size, 0, none⟩ = some v ∧ (W.alloc (.cells #[v] t)).frozen? ⟨W.heap.size, 0, none⟩ = false := by
  have h := World.alloc_heap_new W (.cells #[v] t)
  constructor
  · unfold World.cell?; simp only [h]; rfl
  · unfold World.frozen?; simp only [h]; rfl
theorem box_at {W : World} {b : Nat} (v : Value) (t : TypeId) (h : b = W.heap.size) : (W.alloc (.cells #[v] t)).cell? ⟨b, 0, none⟩ = some v ∧ (W.alloc (.cells #[v] t)).frozen? ⟨b, 0, none⟩ = false := by
  subst h; exact box_new W v t
theorem drewN_keeps (V : World) (q : Nat) : KeepsOthers V (V.drewN q) := ⟨Nat.le_refl _, fun _ _ h _ => h⟩
theorem far {b b' o o' : Nat} (h : b ≠ b') : (⟨b, o, none⟩ : Addr) ≠ ⟨b', o', none⟩ := fun e => h (by injection e)
theorem offs {b o o' : Nat} (h : o ≠ o') : (⟨b, o, none⟩ : Addr) ≠ ⟨b, o', none⟩ := fun e => h (by injection e)
theorem set_other {W : World} {a b : Addr} {v : Value} (h : a ≠ b) : (W.setCell a v).cell? b = W.cell? b := World.cell?_setCell_other (h := h) ..
theorem set_same {W : World} {a : Addr} {v u : Value} (h : W.cell? a = some u) : (W.setCell a v).cell? a = some v := World.cell?_setCell_same' W a v (by rw [h]; rfl)
/-- three cells of one block and one of another, written -/
theorem four_set {V : World} {B C : Nat} (hBC : B ≠ C) {x0 x1 x2 x3 y0 y1 y2 y3 : Value} (c0 : V.cell? ⟨B, 0, none⟩ = some x0) (c1 : V.cell? ⟨B, 1, none⟩ = some x1) (c2 : V.cell? ⟨B, 2, none⟩ = some x2) (c3 : V.cell? ⟨C, 0, none⟩ = some x3) :
    let V' := (((V.setCell ⟨B, 0, none⟩ y0).setCell ⟨B, 1, none⟩ y1).setCell ⟨B, 2, none⟩ y2).setCell ⟨C, 0, none⟩ y3
    V'.cell? ⟨B, 0, none⟩ = some y0 ∧ V'.cell? ⟨B, 1, none⟩ = some y1 ∧ V'.cell? ⟨B, 2, none⟩ = some y2 ∧ V'.cell? ⟨C, 0, none⟩ = some y3 ∧ KeepsOthers V V' ∧ ∀ n, n ≤ B → n ≤ C → Below n V V' := by
  have nf : (⟨C, 0, none⟩ : Addr) ≠ ⟨B, 0, none⟩ := far (Ne.symm hBC)
  have nf1 : (⟨C, 0, none⟩ : Addr) ≠ ⟨B, 1, none⟩ := far (Ne.symm hBC)
  have nf2 : (⟨C, 0, none⟩ : Addr) ≠ ⟨B, 2, none⟩ := far (Ne.symm hBC)
  refine ⟨?_, ?_, ?_, ?_, ?_, ?_⟩
  · rw [set_other nf, set_other (offs (by decide)), set_other (offs (by decide)), set_same c0]
  · rw [set_other nf1, set_other (offs (by decide))]
    exact set_same (by rw [set_other (offs (by decide))]; exact c1)
  · rw [set_other nf2]
    exact set_same (by rw [set_other (offs (by decide)), set_other (offs (by decide))]; exact c2)
  · exact set_same (by rw [set_other (far hBC), set_other (far hBC), set_other (far hBC)]; exact c3)
  · exact (((KeepsOthers.setCell _ _ _).trans (KeepsOthers.setCell _ _ _)).trans (KeepsOthers.setCell _ _ _)).trans (KeepsOthers.setCell _ _ _)
  · intro n hB hC
    exact ((((Below.refl n V).setCell (p := ⟨B, 0, none⟩) hB _).setCell (p := ⟨B, 1, none⟩) hB _).setCell (p := ⟨B, 2, none⟩) hB _).setCell (p := ⟨C, 0, none⟩) hC _
theorem fit_or (n r m : Int) (s : Nat) : Fit n r m s ∨ (¬ Fit n r m s ∧ ((n == (bitN s : Int)) = false ∨ (n = (bitN s : Int) ∧ (decide ((topN s : Int) ≤ m) = false ∨ ((topN s : Int) ≤ m ∧ (decide (m < (topN s : Int) + (s : Int) - 1) = false ∨ (m < (topN s : Int) + (s : Int) - 1 ∧ (decide (0 ≤ r) = false ∨ (0 ≤ r ∧ decide (r < (s : Int)) = false))))))))) := by
  by_cases hf : Fit n r m s
  · exact .inl hf
  · refine .inr ⟨hf, ?_⟩
    unfold Fit at hf
    simp only [decide_eq_false_iff_not]
    by_cases h1 : n = (bitN s : Int)
    · refine .inr ⟨h1, ?_⟩
      omega
    · exact .inl (by simp [h1])

set_option maxRecDepth 100000 in
set_option maxHeartbeats 2000000 in
theorem ofParts_any (n r m : Int) (W : Nat) (w : World) (hW : IsW W) :
    Calls Tryd.prog 22 #[.int .i64 n, .int .i64 r, .int .i64 m, .int .i64 (W : Int)] w fun e w' =>
      ((∃ s : Nat, IsSize s ∧ s ≤ W ∧ Fit n r m s ∧ e = .returned (.tuple #[.agg #[.int .i64 (s : Int), .int .i64 (m - (topN s : Int) + 1), .int .i64 r], .bool true])) ∨
        ((∀ s, IsSize s → s ≤ W → ¬ Fit n r m s) ∧ e = .returned (.tuple #[.agg #[.int .i64 0, .int .i64 0, .int .i64 0], .bool false]))) ∧ Below w.heap.size w w' := by
  refine (callsIn_wide (n := 7)).1 ?_
  refine callsIn_of_wp_marks Tryd.func22 rfl trivial ?_ rfl
  simp only [Tryd.ntmps22, List.size_toArray, List.length_cons, List.length_nil, Nat.reduceAdd, Nat.reduceSub, Array.replicate_succ, Array.replicate_zero, List.push_toArray, List.append_toArray, List.nil_append, List.cons_append]
  gi_wp2_with (refine ⟨trivial, ?_⟩; gi_at_call 31; refine (callsIn_wide.2 (sizes_any W _)).mono ?_; rintro e w1 ⟨rfl, rfl⟩)
  refine' wpIn_rangeFunc_ownF rfl (by decide) (gf := 36) (lb := #[.pointer (some ⟨w.heap.size + 1 + 1 + 1 + 1 + 1, 0, none⟩)]) rfl trivial (enters_of Tryd.func36 (by kernel_rfl) rfl)
    (sizes_stops (Kp := fun _ _ => True) _ (w.heap.size + 1 + 1 + 1 + 1 + 1) W _ hW ?hB ?hc) (fun _ _ => trivial) (fun _ _ _ _ _ _ _ _ => trivial) (Below.refl _ _) (fun _ => rfl)
    (fun pre V => (V.cell? ⟨w.heap.size, 0, none⟩ = some (.int .i64 n) ∧ V.cell? ⟨w.heap.size + 1, 0, none⟩ = some (.int .i64 r) ∧ V.cell? ⟨w.heap.size + 1 + 1, 0, none⟩ = some (.int .i64 m) ∧
      V.cell? ⟨w.heap.size + 1 + 1 + 1, 0, none⟩ = some (.int .i64 0) ∧ V.cell? ⟨w.heap.size + 1 + 1 + 1, 1, none⟩ = some (.int .i64 0) ∧ V.cell? ⟨w.heap.size + 1 + 1 + 1, 2, none⟩ = some (.int .i64 0) ∧ (V.frozen? ⟨w.heap.size + 1 + 1 + 1, 0, none⟩ = false ∧ V.frozen? ⟨w.heap.size + 1 + 1 + 1, 1, none⟩ = false ∧ V.frozen? ⟨w.heap.size + 1 + 1 + 1, 2, none⟩ = false) ∧
      V.cell? ⟨w.heap.size + 1 + 1 + 1 + 1, 0, none⟩ = some (.bool false) ∧ V.frozen? ⟨w.heap.size + 1 + 1 + 1 + 1, 0, none⟩ = false ∧ (∀ x ∈ pre, ¬ Fit n r m (sz x))) ∧ Below w.heap.size w V)
    (fun c pre V => (c = .ret ∧ ∃ s : Nat, IsSize s ∧ s ≤ W ∧ Fit n r m s ∧ V.cell? ⟨w.heap.size + 1 + 1 + 1, 0, none⟩ = some (.int .i64 (s : Int)) ∧ V.cell? ⟨w.heap.size + 1 + 1 + 1, 1, none⟩ = some (.int .i64 (m - (topN s : Int) + 1)) ∧ V.cell? ⟨w.heap.size + 1 + 1 + 1, 2, none⟩ = some (.int .i64 r) ∧
      V.cell? ⟨w.heap.size + 1 + 1 + 1 + 1, 0, none⟩ = some (.bool true)) ∧ Below w.heap.size w V)
    (OwnFrom.and (Own.from (fun s A B row hs hg hr => ⟨cell_kept hs.1 hg hr, cell_kept hs.2.1 hg hr, cell_kept hs.2.2.1 hg hr, cell_kept hs.2.2.2.1 hg hr, cell_kept hs.2.2.2.2.1 hg hr, cell_kept hs.2.2.2.2.2.1 hg hr,
      ⟨(frozen_kept hs.2.2.2.1 hg hr).trans hs.2.2.2.2.2.2.1.1, (frozen_kept hs.2.2.2.2.1 hg hr).trans hs.2.2.2.2.2.2.1.2.1, (frozen_kept hs.2.2.2.2.2.1 hg hr).trans hs.2.2.2.2.2.2.1.2.2⟩, cell_kept hs.2.2.2.2.2.2.2.1 hg hr, (frozen_kept hs.2.2.2.2.2.2.2.1 hg hr).trans hs.2.2.2.2.2.2.2.2.1, hs.2.2.2.2.2.2.2.2.2⟩) _) (ownFrom_below (Nat.le_refl _) (by simp; omega)))
    (fun c => OwnFrom.and (Own.from (fun s A B row hs hg hr => by
      obtain ⟨rfl, s, a1, a2, a3, a4, a5, a6, a7⟩ := hs
      exact ⟨rfl, s, a1, a2, a3, cell_kept a4 hg hr, cell_kept a5 hg hr, cell_kept a6 hg hr, cell_kept a7 hg hr⟩) _) (ownFrom_below (Nat.le_refl _) (by simp; omega)))
    ?h0 _ ?assign ?body ?done ?stop
  case assign =>
    intro l x V K hK
    simp only [encS]
    gi_wp2
    exact hK
  case hB => simp
  case hc => exact (box_at _ _ (by simp only [World.size_alloc])).1
  case h0 =>
    refine ⟨by simp [go_sem], ?_⟩
    exact ((((((Below.refl _ w).alloc (Nat.le_refl _) _).alloc (by simp) _).alloc (by simp; omega) _).alloc (by simp; omega) _).alloc (by simp; omega) _).alloc (by simp; omega) _
  case body =>
    rintro l pre ⟨s, hs, hsW⟩ V ⟨⟨c0, c1, c2, c3, c4, c5, ⟨f3, f3b, f3c⟩, c6, f4, hno⟩, hbel⟩ _
    have hsb := size_bd hs
    have htop : topN s ≤ 60 := by unfold topN; omega
    have HN := Lib.hid hno
    have w1 : IntKind.i64.wrap ((topN s : Int) + (s : Int)) = (topN s : Int) + (s : Int) := IntWalk.i64_in _ (by omega)
    have w2 : IntKind.i64.wrap ((topN s : Int) + (s : Int) - 1) = (topN s : Int) + (s : Int) - 1 := IntWalk.i64_in _ (by omega)
    have MK := mark_any s V hs
    have TB := fun w => topBit_any s w
    clear hno
    rcases fit_or n r m s with hf | ⟨hf, hc⟩
    · have HF := Lib.hid hf
      obtain ⟨f1, f2, f3', f4', f5⟩ := hf
      gi_wp2_with (refine ⟨trivial, ?_⟩; gi_at_call 29; refine (CallsIn.inRound l (callsIn_wide.2 MK)).mono ?_; rintro e w1 ⟨rfl, rfl⟩)
      refine quiet_round rfl (by kernel_rfl) (by kernel_rfl) (by kernel_rfl) ?_
      repeat (gi_big_quiet_step (fail))
      refine BigFrame.wpQuietIn_want (fun _ _ _ _ => trivial) rfl ?_
      intro K hK
      gi_big_quiet_op
      refine ⟨_, fun _ => callsIn_wide.2 (quiet_eq (TB _)), hK _ ?_⟩
      clear hK K
      repeat (gi_big_quiet_step (fail))
      refine wpQuietIn_nil ?_
      rintro _ ⟨nq, rfl⟩
      gi_wp2_with fail
      obtain ⟨d0, d1, d2, d3, d4, d5⟩ := four_set (V := V.drewN nq) (B := w.heap.size + 1 + 1 + 1) (C := w.heap.size + 1 + 1 + 1 + 1) (by omega) (y0 := .int .i64 (s : Int)) (y1 := .int .i64 (m - (topN s : Int) + 1)) (y2 := .int .i64 r) (y3 := .bool true) c3 c4 c5 c6
      exact ⟨(drewN_keeps V nq).trans d4, ⟨rfl, s, hs, hsW, HF.out, d0, d1, d2, d3⟩, (below_drewN hbel nq).trans (d5 _ (by omega) (by omega))⟩
    · have hno' : ∀ x ∈ pre ++ [(⟨s, hs, hsW⟩ : Siz W)], ¬ Fit n r m (sz x) := by
        intro x hx
        rcases List.mem_append.1 hx with h | h
        · exact HN.out x h
        · rw [List.mem_singleton.1 h]; exact hf
      have HN2 := Lib.hid hno'
      clear HN hno' hf
      rcases hc with h | ⟨h, h2 | ⟨h2, h3 | ⟨h3, h4 | ⟨h4, h5⟩⟩⟩⟩
      all_goals
        gi_wp2_with (refine ⟨trivial, ?_⟩; gi_at_call 29; refine (CallsIn.inRound l (callsIn_wide.2 MK)).mono ?_; rintro e w1 ⟨rfl, rfl⟩)
        refine quiet_round rfl (by kernel_rfl) (by kernel_rfl) (by kernel_rfl) ?_
        repeat (gi_big_quiet_step (fail))
        refine BigFrame.wpQuietIn_want (fun _ _ _ _ => trivial) rfl ?_
        intro K hK
        gi_big_quiet_op
        refine ⟨_, fun _ => callsIn_wide.2 (quiet_eq (TB _)), hK _ ?_⟩
        clear hK K
        repeat (gi_big_quiet_step (fail))
        refine wpQuietIn_nil ?_
        rintro _ ⟨nq, rfl⟩
        gi_wp2_with fail
        exact ⟨drewN_keeps V nq, trivial, ⟨c0, c1, c2, c3, c4, c5, ⟨f3, f3b, f3c⟩, c6, f4, HN2.out⟩, below_drewN hbel nq⟩
  case done =>
    rintro D ys V hD hS ⟨⟨c0, c1, c2, c3, c4, c5, ⟨f3, f3b, f3c⟩, c6, f4, hno⟩, hbel⟩ hK
    have HN := Lib.hid hno
    clear hno
    have HS := Lib.hid hS
    clear hS
    gi_wp2
    obtain ⟨d0, d1, d2, d3, d4, d5⟩ := four_set (V := V) (B := w.heap.size + 1 + 1 + 1) (C := w.heap.size + 1 + 1 + 1 + 1) (by omega) (y0 := .int .i64 0) (y1 := .int .i64 0) (y2 := .int .i64 0) (y3 := .bool false) c3 c4 c5 c6
    have hK2 := d4.same D _ hK rfl
    have d6 := d5 w.heap.size (by omega) (by omega)
    refine ⟨by simp, .inl ⟨_, _, rfl, run_takeDeferred hK2, ?_⟩⟩
    have kp : ∀ {p : Addr} {v : Value}, World.cell? _ p = some v → (World.putObj _ D (.deferred none)).cell? p = some v := fun h => cell_kept h (grownBy_putObj' _ D (.deferred none)) (fun r e => by cases e; exact ⟨_, hK2, rfl⟩)
    have e0 := kp d0
    have e1 := kp d1
    have e2 := kp d2
    have e3 := kp d3
    refine ⟨.tuple #[.agg #[.int .i64 0, .int .i64 0, .int .i64 0], .bool false], ?_, .inr ⟨fun s h1 h2 hf => ?_, rfl⟩, (hbel.trans d6).trans (belowK_b (w := w) (Nat.le_refl _) _ D _ _ (by simp at hD; omega) hK2 rfl rfl)⟩
    · simp [results, Tryd.f22, go_sem, e0, e1, e2, e3]
    · have hm : s ∈ ys.map sz := by rw [HS.out]; exact (halves_mem hW).2 ⟨h1, h2⟩
      obtain ⟨x, hx, e⟩ := List.mem_map.1 hm
      exact HN.out x hx (by rw [e]; exact hf)
  case stop =>
    rintro D c ys V hD hS ⟨⟨rfl, s, hs, hsW, hf, d0, d1, d2, d3⟩, hbel⟩ hK
    gi_wp2
    refine ⟨by simp, .inl ⟨_, _, rfl, run_takeDeferred hK, ?_⟩⟩
    have kp : ∀ {p : Addr} {v : Value}, V.cell? p = some v → (V.putObj D (.deferred none)).cell? p = some v := fun h => cell_kept h (grownBy_putObj' _ D (.deferred none)) (fun r e => by cases e; exact ⟨_, hK, rfl⟩)
    have e0 := kp d0
    have e1 := kp d1
    have e2 := kp d2
    have e3 := kp d3
    refine ⟨.tuple #[.agg #[.int .i64 (s : Int), .int .i64 (m - (topN s : Int) + 1), .int .i64 r], .bool true], ?_, .inl ⟨s, hs, hsW, hf, rfl⟩, hbel.trans (belowK_b (w := w) (Nat.le_refl _) V D _ _ (by simp at hD; omega) hK rfl rfl)⟩
    simp [results, Tryd.f22, go_sem, e0, e1, e2, e3]
end Go.Proofs.YtmkeopglgfddjaaDoor
