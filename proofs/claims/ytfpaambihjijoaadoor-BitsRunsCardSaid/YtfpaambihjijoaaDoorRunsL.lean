/-
  What the laws are told of the runs: a slice of all of them, in their order. Where the table of math/bits lies as its text lays it.
-/
import Derived.Test.YtfpaambihjijoaaDoorRunsC
import Derived.Maps.OwnIn
import Derived.Maps.AppendAt
import Derived.RangeFuncBox
namespace Go.Proofs.YtfpaambihjijoaaDoor
open Go.RowKit Go.Shelf BM
attribute [local go_sem] Oper.semAt_some

theorem cell_two_new (w : World) (x y : Value) (t : TypeId) : ∀ j u, [x, y][j]? = some u → (w.alloc (.cells #[x, y] t)).cell? ((⟨w.heap.size, 0, none⟩ : Addr).add j) = some u := by
  intro j u hj
  have h := World.alloc_heap_new w (.cells #[x, y] t)
  match j, hj with
  | 0, hj => simp at hj; subst hj; simp [Addr.add]
  | 1, hj => simp at hj; subst hj; simp [Addr.add]
  | _ + 2, hj => simp at hj
def flatR (l : List (Nat × Nat)) : List Value := l.flatMap fun (p : Nat × Nat) => [.int .i64 (p.1 : Int), .int .i64 (p.2 : Int)]
theorem flatR_snoc (l : List (Nat × Nat)) (p : Nat × Nat) : flatR (l ++ [p]) = flatR l ++ [.int .i64 (p.1 : Int), .int .i64 (p.2 : Int)] := by
  unfold flatR; rw [List.flatMap_append]; simp
theorem infoRun : (Tryd.prog.info? 32).map (fun i => (i.zero, i.size, i.bytes)) = some (some (.agg #[.int .i64 0, .int .i64 0]), 2, 16) := by kernel_rfl
/-- an append to a box's own slice, and the store, touch nothing but what is mine -/
theorem only_app {W w1 : World} {n₀ Bl : Nat} {t e : TypeId} {v : Value} {k g' cap' m : Nat} {xs : List Value} {tmp : Obj} (hv : Boxed W Bl t v) (hrow : W.ownsRow n₀ e 2 v k xs) (hgrow : (W.alloc tmp).grownBy w1 v.ownBlock)
    (hown : (Value.slice (some ⟨g', 0, none⟩) m cap').ownBlock = v.ownBlock ∨ (Value.slice (some ⟨g', 0, none⟩) m cap').ownBlock = some (W.alloc tmp).heap.size)
    (hv2 : Boxed (w1.setCell ⟨Bl, 0, none⟩ (.slice (some ⟨g', 0, none⟩) m cap')) Bl t (.slice (some ⟨g', 0, none⟩) m cap')) :
    Only Bl W (w1.setCell ⟨Bl, 0, none⟩ (.slice (some ⟨g', 0, none⟩) m cap')) := by
  have hs := hgrow.size
  rw [World.size_alloc] at hs
  have mine : ∀ b, v.ownBlock = some b → Mine Bl W b := by
    intro b hb
    rcases hrow.2 with ⟨rfl, _⟩ | ⟨g, cap, _, rfl, _⟩
    · simp [Value.ownBlock] at hb
    · simp [Value.ownBlock] at hb
      exact .inr ⟨⟨g, 0, none⟩, k, cap, hv.cell, hb⟩
  refine ⟨by simp; omega, ?_, ?_, fun _ => ⟨_, hv2.cell⟩⟩
  · intro p hp hm
    have hB : p.block ≠ Bl := fun h => hm (.inl h)
    have hr : some p.block ≠ v.ownBlock := fun h => hm (mine _ h.symm)
    rw [World.cell?_setCell_far _ _ _ _ (fun h => hB h.symm)]
    exact (World.cell?_of_block (hgrow.block p.block (by simp; omega) hr)).trans (World.cell?_of_block (Below.heap_alloc _ _ _ hp))
  · intro b hb hm
    rcases hm with rfl | ⟨a, len, cap, hc, rfl⟩
    · exact .inl rfl
    · rw [hv2.cell] at hc
      injection hc with hc
      injection hc with h1 h2 h3
      injection h1 with h1
      subst h1
      rcases hown with h | h
      · exact mine _ (by rw [← h]; rfl)
      · simp [Value.ownBlock] at h
        exfalso
        have : g' < W.heap.size := hb
        omega
theorem not_nil (f b c : Nat) (w : World) : (binOp BinOp.eql 50 (Value.func (Fn.func f) #[] #[.pointer (some ⟨b, 0, none⟩), .pointer (some ⟨c, 0, none⟩)]) Value.nilFunc).run Tryd.prog w = .ok (.bool false) w := by
  kernel_rfl
set_option maxRecDepth 100000 in
set_option maxHeartbeats 2000000 in
theorem told_runs (v : Nat) (n : Int) (w : World) (hv : v < 18446744073709551616) (hT : Tab w) (hTB : 0 < w.heap.size) :
    Calls Tryd.prog 9 #[.int .u64 (v : Int), .int .i64 n] w fun e w' =>
      ∃ s, e = .returned s ∧ w'.ownsRow w.heap.size 32 2 s (runsC (v % 2 ^ wid n)).length (flatR (runsC (v % 2 ^ wid n))) ∧ Below w.heap.size w w' := by
  obtain ⟨i0, hi, hz0, hz1, hz2⟩ := info_parts infoRun
  have RA := Lib.hid (runs_any v n w hv)
  have hx : v % 2 ^ wid n < 18446744073709551616 := Nat.lt_of_le_of_lt (Nat.mod_le _ _) hv
  obtain ⟨x, hX⟩ : ∃ x, v % 2 ^ wid n = x := ⟨_, rfl⟩
  rw [hX] at RA hx ⊢
  have HX := Lib.hid hx
  have HT := Lib.hid hT
  clear hv hX hx hT
  refine (callsIn_wide (n := 7)).1 ?_
  refine callsIn_of_wp_marks Tryd.func9 rfl trivial ?_ rfl
  simp only [Tryd.ntmps9, List.size_toArray, List.length_cons, List.length_nil, Nat.reduceAdd, Nat.reduceSub, Array.replicate_succ, Array.replicate_zero, List.push_toArray, List.append_toArray, List.nil_append, List.cons_append]
  gi_wp2_with fail
  refine ⟨trivial, ?_⟩
  refine (callsIn_wide.2 RA.out).mono ?_
  rintro e w1 ⟨rfl, b1, z1, cg, cx⟩
  have NN := not_nil 28 (w.heap.size + 1) w.heap.size
  have Z1 := Lib.hid z1
  clear z1
  gi_wp2
  have z1 := Z1.out
  have bO := Boxed.new w1 30 (.slice none 0 0)
  obtain ⟨w2, hw2⟩ : ∃ w2, w1.alloc (.cells #[.slice none 0 0] 30) = w2 := ⟨_, rfl⟩
  have z2 : w2.heap.size = w1.heap.size + 1 := by rw [← hw2]; simp
  have b12 : Below w1.heap.size w1 w2 := by rw [← hw2]; exact (Below.refl _ _).alloc (Nat.le_refl _) _
  have b2 : Below w.heap.size w w2 := Below.thn b1 b1.size b12
  rw [hw2] at bO ⊢
  have cO := bO.cell
  have hR : Rooted w1.heap.size w2 := ⟨by omega, _, cO, fun a len cap e => by cases e⟩
  have al : ∀ b, b < w1.heap.size → Alone w1.heap.size w2 b := fun b hb => ⟨by omega, by omega, _, cO, fun a len cap e => by cases e⟩
  have hTO : TabOff w1.heap.size w2 := ⟨HT.out.keep hTB b2, al _ (by omega)⟩
  have cg2 := (b12.cell (p := ⟨w.heap.size + 1, 0, none⟩) (by show w.heap.size + 1 < w1.heap.size; omega)).trans cg
  have cx2 := (b12.cell (p := ⟨w.heap.size, 0, none⟩) (by show w.heap.size < w1.heap.size; omega)).trans cx
  have TL := Lib.hid (runs1_tells 6 w1.heap.size (w.heap.size + 1) w.heap.size x w2 (by decide) hR hTO (al _ (by omega)) (al _ (by omega)) HX.out cg2 cx2)
  have Z2 := Lib.hid z2
  clear cg cx cg2 cx2 hw2 z1 z2
  refine' range_tells (Fr := Only w1.heap.size) Only.trans (fun W l o o' _ h ho ho' => Only.put h ho ho') (gf := 28) (lb := #[.pointer (some ⟨w.heap.size + 1, 0, none⟩), .pointer (some ⟨w.heap.size, 0, none⟩)]) rfl (enters_of Tryd.func28 (by kernel_rfl) rfl)
    TL.out (Below.refl _ _) (fun _ => rfl)
    (fun pre V => (∃ s, Boxed V w1.heap.size 30 s ∧ V.ownsRow w.heap.size 32 2 s pre.length (flatR pre) ∧ True) ∧ Below w.heap.size w V)
    (OwnFrom.and (Own.from (holdsRow_own w.heap.size w1.heap.size 30 32 2 (fun s : List (Nat × Nat) => s.length) (fun s => flatR s) (fun _ _ => True)) _) (ownFrom_below (Nat.le_refl _) (by have := Z1.out; have := Z2.out; omega)))
    ⟨⟨_, bO, World.ownsRow_nil _ _ _ _, trivial⟩, b2⟩ _ ?assign ?body ?done
  case assign =>
    intro m l p V K hK
    simp only [encR]
    gi_wp2
    exact hK
  case body =>
    rintro m l pre ⟨p1, p2⟩ V hl ⟨⟨s, hs, hrow, _⟩, hbel⟩ hlt
    have hc := hs.cell
    have hB' := hbel.size
    have hz : w.heap.size ≤ V.heap.size := by omega
    have hz1 : w.heap.size ≤ w1.heap.size := by have := Z1.out; omega
    have HZ1 := Lib.hid hz1
    clear hTO al cO hR TL hz1
    gi_wp2_with (gi_at_builtin; refine wpListIn_append_own_at _ rfl _ _ 30 rfl w.heap.size 32 i0 (.agg #[.int .i64 0, .int .i64 0]) 2 16 Tryd.underlying30 hi hz0 hz1 hz2 rfl (by decide) _ _ _ rfl (hrow.alloc _) ⟨V.heap.size, 0, none⟩ 1 1 [.int .i64 (p1 : Int), .int .i64 (p2 : Int)] rfl rfl (cell_two_new _ _ _ _) (by simp [Value.oneCell']) (by unfold maxLen; omega) (by omega) (by simp; omega) ?_; intro v' w3 hown' hgrow _ hob; obtain ⟨g', cap', rfl⟩ := ownsRow_succ hown'; obtain ⟨hv1, hv2, hr2, hk2, hb2⟩ := hs.appended (by decide) hrow hz HZ1.out hown' hgrow; have hc1 := hv1.cell; have hf1 := hv1.frozen)
    refine ⟨hk2, only_app hs hrow hgrow hob hv2, ?_, hbel.trans hb2⟩
    first
      | exact ⟨_, hv2, by rw [List.length_append, flatR_snoc]; exact hr2, trivial⟩
      | exact ⟨_, hv2, by rw [List.length_append, flatR_snoc]; exact hr2⟩
  case done =>
    rintro D xs V hD rfl ⟨⟨s, hs, hrow, _⟩, hbel⟩ hK
    have hc := hs.cell
    have HD := Lib.hid hD
    clear hD
    gi_wp2
    refine ⟨by simp, .inl ⟨_, _, rfl, run_takeDeferred hK, ?_⟩⟩
    exact ⟨_, results_tmp rfl _ _ _, s, rfl, ownsRow_putObj hrow _ hK rfl, hbel.trans (belowK_b (w := w) (Nat.le_refl _) V D _ _ (by have := Z1.out; have := Z2.out; have := HD.out; omega) hK rfl rfl)⟩
end Go.Proofs.YtfpaambihjijoaaDoor
