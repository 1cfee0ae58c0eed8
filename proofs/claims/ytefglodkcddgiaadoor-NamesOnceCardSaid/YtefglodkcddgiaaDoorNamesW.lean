/-
  What the laws are told of all names of a kind, by the program (all) and by the document (All); slices.Equal at two slices of the same rows. Conditions: none but those that each lemma states.
-/
import Derived.Test.YtefglodkcddgiaaDoorNamesV
import Derived.Maps.OwnIn
import Derived.Maps.AppendAt
namespace Go.Proofs.YtefglodkcddgiaaDoor
open Go.RowKit Go.Shelf
attribute [local go_sem] Oper.semAt_some

theorem infoRow : (Tryd.prog.info? 39).map (fun i => (i.zero, i.size, i.bytes)) = some (some (.agg #[.string ⟨#[]⟩, .int .i64 0]), 2, 24) := by kernel_rfl
theorem rowsC_snoc (T : List NRow) (x : NRow) : rowsC (T ++ [x]) = rowsC T ++ [.string ⟨x.1.toArray⟩, .int .i64 (x.2 : Int)] := by
  unfold rowsC; rw [List.flatMap_append]; simp
theorem cell_two_new (w : World) (x y : Value) (t : TypeId) : ∀ j u, [x, y][j]? = some u → (w.alloc (.cells #[x, y] t)).cell? ((⟨w.heap.size, 0, none⟩ : Addr).add j) = some u := by
  intro j u hj
  have h := World.alloc_heap_new w (.cells #[x, y] t)
  match j, hj with
  | 0, hj => simp at hj; subst hj; simp [Addr.add]
  | 1, hj => simp at hj; subst hj; simp [Addr.add]
  | _ + 2, hj => simp at hj
theorem tabs_grown {A B : World} {row : Option Nat} (h : A.grownBy B row) (hr : ∀ r, row = some r → ∃ c t z, A.heap[r]? = some (.cells c t z) ∧ isTab t = false) : KeepsTabs A B := by
  intro b c t z ht hb
  by_cases e : some b = row
  · obtain ⟨c', t', z', h1, h2⟩ := hr b e.symm
    rw [hb] at h1
    injection h1 with h1
    injection h1 with _ h3 _
    subst h3
    rw [ht] at h2; cases h2
  · exact (h.block b (Array.getElem?_eq_some_iff.1 hb).1 e).trans hb
theorem KeepsTabs.trans {A B C : World} (h : KeepsTabs A B) (k : KeepsTabs B C) : KeepsTabs A C := fun b c t z ht hb => k b c t z ht (h b c t z ht hb)
theorem own_tab {W : World} {base size N : Nat} {t : TypeId} {v : Value} {xs : List Value} (h : W.ownsRow base t size v N xs) (ht : isTab t = false) : ∀ r, v.ownBlock = some r → ∃ c t z, W.heap[r]? = some (.cells c t z) ∧ isTab t = false := by
  intro r hr
  rcases h.2 with ⟨h1, _⟩ | ⟨g, cap, cur, h1, h2, h3, _⟩
  · rw [h1] at hr; cases hr
  · rw [h1] at hr; cases hr; exact ⟨_, _, _, h3, ht⟩
theorem slice_of_own {W : World} {base : Nat} {v : Value} {T : List NRow} (h : W.ownsRow base 39 2 v T.length (rowsC T)) : SliceOf W v T := by
  rcases h.2 with ⟨h1, h2⟩ | ⟨g, cap, cur, h1, h2, h3, h4, h5, h6, h7⟩
  · exact .inl ⟨h1, List.length_eq_zero_iff.1 h2⟩
  · refine .inr ⟨g, cap, h1, (Array.getElem?_eq_some_iff.1 h3).1, fun k x hx => ?_⟩
    obtain ⟨a, b⟩ := rowsC_at T k x hx
    have hk : k < T.length := by
      rcases Nat.lt_or_ge k T.length with g | g
      · exact g
      · rw [List.getElem?_eq_none g] at hx; cases hx
    have key : ∀ j, j < T.length * 2 → W.cell? ⟨g, j, none⟩ = (rowsC T)[j]? := by
      intro j hj
      rw [← h7, List.getElem?_take, if_pos hj]
      unfold World.cell?
      simp only [h3]
      simp
    exact ⟨(key _ (by omega)).trans a, (key _ (by omega)).trans b⟩
theorem not_nil (g : Nat) (w : World) : (binOp BinOp.eql 54 (Value.func (Fn.func g) #[] #[]) Value.nilFunc).run Tryd.prog w = .ok (.bool false) w := by
  kernel_rfl

set_option maxRecDepth 100000 in
set_option maxHeartbeats 4000000 in
theorem all_any (k : Int) (w : World) :
    Calls Tryd.prog 20 #[.int .i64 k] w fun e w' => ∃ v, e = .returned v ∧ SliceOf w' v (tbl k) ∧ Below w.heap.size w w' := by
  obtain ⟨i0, hi, hz0, hz1, hz2⟩ := info_parts infoRow
  obtain ⟨g, hg⟩ := gen_any k
  have GA := Lib.hid hg.all
  have GT := Lib.hid hg.tells
  have GE := Lib.hid hg.enters
  have hTl := tbl_len k
  generalize tbl k = T at *
  clear hg
  refine (callsIn_wide (n := 7)).1 ?_
  refine callsIn_of_wp_marks Tryd.func20 rfl trivial ?_ rfl
  simp only [Tryd.ntmps20, List.size_toArray, List.length_cons, List.length_nil, Nat.reduceAdd, Nat.reduceSub, Array.replicate_succ, Array.replicate_zero, List.push_toArray, List.append_toArray, List.nil_append, List.cons_append]
  have NN := not_nil g
  gi_wp2_with fail
  refine ⟨trivial, ?_⟩
  refine (callsIn_wide.2 (GA.out _)).mono ?_
  rintro e w1 ⟨rfl, rfl⟩
  gi_wp2_with fail
  have bO := Boxed.new w 37 (.slice none 0 0)
  have hB0 : Below w.heap.size w (w.alloc (.cells #[.slice none 0 0] 37)) := (Below.refl _ w).alloc (Nat.le_refl _) _
  have hown : Own (fun (s : List NRow) V => ∃ v, Boxed V w.heap.size 37 v ∧ V.ownsRow w.heap.size 39 2 v s.length (rowsC s) ∧ True) :=
    holdsRow_own w.heap.size w.heap.size 37 39 2 (fun s : List NRow => s.length) (fun s => rowsC s) (fun _ _ => True)
  refine' wpIn_rangeFunc_ownF rfl (by decide) (gf := g) (lb := #[]) rfl trivial GE.out
    (GT.out _ w.heap.size _ (by simp)) Kt.trans (kt_b (by simp)) (Below.refl _ _) (fun _ => rfl)
    (fun pre V => (∃ v, Boxed V w.heap.size 37 v ∧ V.ownsRow w.heap.size 39 2 v pre.length (rowsC pre) ∧ True) ∧ Below w.heap.size w V)
    (fun _ _ _ => False)
    (OwnFrom.and (Own.from (fun s A C row hs hg hr => hown s A C row hs hg hr) _) (ownFrom_below (Nat.le_refl _) (by simp)))
    (fun _ _ _ _ _ hs _ _ => hs)
    ?h0 _ ?assign ?body ?done ?stop
  case assign =>
    intro l x V K hK
    simp only [encR]
    gi_wp2
    exact hK
  case h0 => exact ⟨⟨_, bO, World.ownsRow_nil _ _ _ _, trivial⟩, hB0⟩
  case body =>
    rintro l pre x V ⟨⟨v, hv, hrow, _⟩, hbel⟩ hlt
    have hc := hv.cell
    have hz : w.heap.size ≤ V.heap.size := hbel.size
    have hcap : pre.length + 1 ≤ 66 := by omega
    have htab := own_tab hrow rfl
    have HTB := Lib.hid htab
    have HV := Lib.hid hv
    clear htab
    gi_wp2_with (gi_at_builtin; refine wpListIn_append_own _ rfl _ _ 37 rfl w.heap.size 39 i0 (.agg #[.string ⟨#[]⟩, .int .i64 0]) 2 24 Tryd.underlying37 hi hz0 hz1 hz2 rfl (by decide) _ _ _ rfl (hrow.alloc _) ⟨V.heap.size, 0, none⟩ 1 1 [.string ⟨x.1.toArray⟩, .int .i64 (x.2 : Int)] rfl rfl (cell_two_new _ _ _ _) (by simp [Value.oneCell']) (by unfold maxLen; omega) (by omega) (by simp; omega) ?_; intro v' w1 hown' hgrow _; obtain ⟨g', cap', rfl⟩ := ownsRow_succ hown'; obtain ⟨hv1, hv2, hr2, hk2, hb2⟩ := hv.appended (by decide) hrow hz (by omega) hown' hgrow; have hc1 := hv1.cell; have hf1 := hv1.frozen)
    have k1 : KeepsTabs V w1 := (tabs_below ((Below.refl V.heap.size V).alloc (Nat.le_refl _) _)).trans (tabs_grown hgrow (fun r hr => by
      obtain ⟨c, t, z, h1, h2⟩ := HTB.out r hr
      exact ⟨c, t, z, (Below.heap_alloc _ _ _ (Array.getElem?_eq_some_iff.1 h1).1).trans h1, h2⟩))
    have k2 := k1.trans (tabs_set (o := 0) hv1 rfl (.slice (some ⟨g', 0, none⟩) (pre.length + 1) cap'))
    refine ⟨hk2, ⟨hb2, k2⟩, ⟨_, hv2, ?_, trivial⟩, hbel.trans hb2⟩
    rw [List.length_append, rowsC_snoc]
    exact hr2
  case done =>
    rintro D ys V hD rfl ⟨⟨v, hv, hrow, _⟩, hbel⟩ hK
    have hc := hv.cell
    gi_wp2
    refine ⟨by simp, .inl ⟨_, _, rfl, run_takeDeferred hK, ?_⟩⟩
    exact ⟨v, by simp [results, Tryd.f20, go_sem], v, rfl, slice_of_own (ownsRow_putObj hrow _ hK rfl), hbel.trans (belowK_b (w := w) (Nat.le_refl _) V D _ _ (by simp at hD; omega) hK rfl rfl)⟩
  case stop =>
    rintro D c pre V hD _ h _
    exact h.elim
end Go.Proofs.YtefglodkcddgiaaDoor
