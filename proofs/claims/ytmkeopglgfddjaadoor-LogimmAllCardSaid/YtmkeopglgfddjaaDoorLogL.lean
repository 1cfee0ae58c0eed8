/-
  All, and what the laws are told of it: the fields that have a value, rising, with their values. No conditions beyond those that each lemma states.
-/
import Derived.Test.YtmkeopglgfddjaaDoorLogB
import Derived.Maps.OwnIn
import Derived.Maps.AppendAt
namespace Go.Proofs.YtmkeopglgfddjaaDoor
open Go.RowKit Go.Shelf BM
attribute [local go_sem] Oper.semAt_some

/-- a field's value, and its error -/
noncomputable def outV (f : Nat) (W : Int) : Int := Classical.choose (decOut_ex (pN (f : Int)) (pR (f : Int)) (pM (f : Int)) W)
noncomputable def outE (f : Nat) (W : Int) : Int := Classical.choose (Classical.choose_spec (decOut_ex (pN (f : Int)) (pR (f : Int)) (pM (f : Int)) W))
theorem out_spec (f : Nat) (W : Int) : ValOut (f : Int) W (outV f W) (outE f W) := Classical.choose_spec (Classical.choose_spec (decOut_ex (pN (f : Int)) (pR (f : Int)) (pM (f : Int)) W))
/-- the fields below k that have a value -/
noncomputable def upto (W : Int) (k : Nat) : List Nat := (List.range k).filter fun f => decide (outE f W = 0)
theorem upto_yes {W : Int} {k : Nat} (h : outE k W = 0) : upto W (k + 1) = upto W k ++ [k] := by
  unfold upto; rw [List.range_succ, List.filter_append]; simp [h]
theorem upto_no {W : Int} {k : Nat} (h : outE k W ≠ 0) : upto W (k + 1) = upto W k := by
  unfold upto; rw [List.range_succ, List.filter_append]; simp [h]
theorem upto_len (W : Int) (k : Nat) : (upto W k).length ≤ k := by
  unfold upto; exact Nat.le_trans (List.length_filter_le _ _) (by simp)
theorem upto_prefix (W : Int) {j k : Nat} (h : j ≤ k) : upto W j <+: upto W k := by
  unfold upto
  rw [show k = j + (k - j) by omega, List.range_add, List.filter_append]
  exact List.prefix_append _ _
theorem bad_none {W : Int} (h : ¬ WI W) (k : Nat) : upto W k = [] := by
  unfold upto
  rw [List.filter_eq_nil_iff]
  intro f _
  rcases out_spec f W with ⟨hW, _⟩ | ⟨hW, _⟩ | ⟨_, _, he⟩
  · exact absurd hW h
  · exact absurd hW h
  · rw [he]; decide

def fv (x : Fin 8192) : Nat := x.1
noncomputable def encV (W : Int) (x : Fin 8192) : Array Value := #[.int .i64 (x.1 : Int), .int .u64 (outV x.1 W)]

set_option maxHeartbeats 400000 in
theorem all_any (W : Int) (w : World) :
    Calls Tryd.prog 20 #[.int .i64 W] w fun e w' => e = .returned (.func (.func 30) #[] #[.pointer (some ⟨w.heap.size, 0, none⟩)]) ∧ w' = w.alloc (.cells #[.int .i64 W] 3) := by
  go_enter Tryd.func20, Tryd.ntmps20
  go_wp2
  go_ret
  exact ⟨rfl, rfl⟩
theorem below_grown {W W' : World} (h : Below W.heap.size W W') : W.grownBy W' none := ⟨h.os, h.tape, h.output, h.size, fun k hk _ => h.block k hk⟩

set_option maxRecDepth 100000 in
set_option maxHeartbeats 2000000 in
theorem all_stops (n B n₀ : Nat) (W : Int) (w : World) (hBn : B < n₀) (hn : n₀ ≤ w.heap.size) (hc : w.cell? ⟨B, 0, none⟩ = some (.int .i64 W)) :
    SeqStopsK Fence.wide n Tryd.prog 30 #[.pointer (some ⟨B, 0, none⟩)] (encV W) (Below n₀) (fun xs => xs.map fv = upto W 8192) (fun pre => pre.map fv <+: upto W 8192) 8192 w := fun l J Jx V hV hJ hJx hY h0 => by
  have hcV : V.cell? ⟨B, 0, none⟩ = some (.int .i64 W) := (hV.cell (p := ⟨B, 0, none⟩) (by show B < w.heap.size; omega)).trans hc
  refine callsIn_of_wp Tryd.func30 rfl trivial ?_ rfl
  simp only [Tryd.ntmps30, List.size_toArray, List.length_cons, List.length_nil, Nat.reduceAdd, Nat.reduceSub, Array.replicate_succ, Array.replicate_zero, List.push_toArray, List.append_toArray, List.nil_append, List.cons_append]
  by_cases hW : WI W
  · have IW : ∀ w : World, Calls Tryd.prog 21 #[.int .i64 W] w fun e w' => e = .returned (.bool true) ∧ w = w' := fun w => by
      have := isw_yes W.toNat w hW.nat.1
      rw [hW.nat.2] at this; exact this
    gi_wp2_with fail
    refine ⟨trivial, (fun h => absurd h (by decide)), ?_⟩
    refine (callsIn_wide.2 (IW _)).mono ?_
    rintro e w1 ⟨rfl, rfl⟩
    gi_wp2
    gi_loopw [9] (fun p wr => ∃ (pre : List (Fin 8192)) (k : Nat), p = .int .i64 (k : Int) ∧ k ≤ 8192 ∧ Hid (pre.map fv = upto W k) ∧ J pre wr ∧ wr.cell? ⟨B, 0, none⟩ = some (.int .i64 W) ∧ V.heap.size ≤ wr.heap.size)
      (fun p _ => 8192 - (intOf p).toNat)
    case atStart => exact ⟨[], 0, rfl, by decide, Lib.hid rfl, h0, hcV, Nat.le_refl _⟩
    case round =>
      obtain ⟨pre, k, rfl, hk, hp, hJs, hcr, hzr⟩ := hrel
      by_cases hlt : (k : Int) < 8192
      · have hsp := out_spec k W
        have VO := Lib.hid (value_out hsp wr)
        have w9 : IntKind.i64.wrap ((k : Int) + 1) = ((k + 1 : Nat) : Int) := by rw [IntWalk.i64_in _ (by omega)]; omega
        have hnV := hV.size
        gi_wp2_with fail
        refine ⟨trivial, (fun h => absurd h (by decide)), ?_⟩
        refine (callsIn_wide.2 VO.out).mono ?_
        rintro e W2 ⟨rfl, hb⟩
        have hJ2 : J pre W2 := hJ pre wr W2 none hJs (below_grown hb) (fun r e => by cases e)
        have hc2 : W2.cell? ⟨B, 0, none⟩ = some (.int .i64 W) := (hb.cell (p := ⟨B, 0, none⟩) (by show B < wr.heap.size; omega)).trans hcr
        have hz2 : V.heap.size ≤ W2.heap.size := Nat.le_trans hzr hb.size
        by_cases he : outE k W = 0
        · have hl : pre.length < 8192 := by
            have h1 := congrArg List.length hp.out
            rw [List.length_map] at h1
            have := upto_len W k
            omega
          obtain ⟨fn, tmps, assign, body, hy1, hR⟩ := hY pre ⟨k, by omega⟩ W2 hJ2 hl
          dsimp only [encV] at hy1
          have HU := Lib.hid (upto_yes he)
          rw [he]
          clear he
          have PU := Lib.hid (upto_prefix W (show k + 1 ≤ 8192 by omega))
          gi_wp2
          refine ⟨fun h => absurd h (by decide), ?_⟩
          refine hR.mono ?_
          rintro e W3 (⟨rfl, hJ3, hk3⟩ | ⟨rfl, hJx3⟩)
          · have hc3 : W3.cell? ⟨B, 0, none⟩ = some (.int .i64 W) := (hk3.cell (p := ⟨B, 0, none⟩) hBn).trans hc2
            have hz3 : V.heap.size ≤ W3.heap.size := Nat.le_trans hz2 hk3.size
            gi_wp2
            go_roundw
            case rel => exact ⟨pre ++ [⟨k, by omega⟩], k + 1, by first | rfl | rw [← w9], by omega, Lib.hid (by rw [HU.out, List.map_append, hp.out]; rfl), hJ3, hc3, hz3⟩
            case measure => simp [intOf]; omega
          · gi_wp2
            refine bodyPost_ret (results_none rfl _ _ _) rfl ?_
            exact ⟨⟨_, rfl⟩, .inr ⟨pre ++ [⟨k, by omega⟩], by rw [List.map_append, hp.out]; have := PU.out; rw [HU.out] at this; exact this, hJx3⟩⟩
        · have he' : (outE k W == 0) = false := by simp [he]
          have HU := Lib.hid (upto_no he)
          clear he
          gi_wp2
          refine ⟨fun _ h => (by cases h), ?_⟩
          gi_wp2
          go_roundw
          case rel => exact ⟨pre, k + 1, by first | rfl | rw [← w9], by omega, Lib.hid (by rw [HU.out, hp.out]), hJ2, hc2, hz2⟩
          case measure => simp [intOf]; omega
      · have A1 := Lib.hid (show k = 8192 by omega)
        gi_wp2
        go_end0
        exact ⟨⟨_, rfl⟩, .inl ⟨pre, by rw [hp.out, A1.out], hJs⟩⟩
  · have IW : ∀ w : World, Calls Tryd.prog 21 #[.int .i64 W] w fun e w' => e = .returned (.bool false) ∧ w = w' := fun w => isw_no W w (fun g => hW (.inl g)) (fun g => hW (.inr g))
    have BN := Lib.hid (bad_none hW 8192)
    gi_wp2_with fail
    refine ⟨trivial, (fun h => absurd h (by decide)), ?_⟩
    refine (callsIn_wide.2 (IW _)).mono ?_
    rintro e w1 ⟨rfl, rfl⟩
    gi_wp2
    refine bodyPost_ret (results_none rfl _ _ _) rfl ?_
    exact ⟨⟨_, rfl⟩, .inl ⟨[], by rw [BN.out]; rfl, h0⟩⟩

theorem cell_two_new (w : World) (x y : Value) (t : TypeId) : ∀ j u, [x, y][j]? = some u → (w.alloc (.cells #[x, y] t)).cell? ((⟨w.heap.size, 0, none⟩ : Addr).add j) = some u := by
  intro j u hj
  have h := World.alloc_heap_new w (.cells #[x, y] t)
  match j, hj with
  | 0, hj => simp at hj; subst hj; simp [Addr.add]
  | 1, hj => simp at hj; subst hj; simp [Addr.add]
  | _ + 2, hj => simp at hj
noncomputable def flat (W : Int) (l : List Nat) : List Value := l.flatMap fun (f : Nat) => [.int .i64 (f : Int), .int .u64 (outV f W)]
theorem flat_snoc (W : Int) (l : List Nat) (f : Nat) : flat W (l ++ [f]) = flat W l ++ [.int .i64 (f : Int), .int .u64 (outV f W)] := by
  unfold flat; rw [List.flatMap_append]; simp
theorem infoPair : (Tryd.prog.info? 40).map (fun i => (i.zero, i.size, i.bytes)) = some (some (.agg #[.int .i64 0, .int .u64 0]), 2, 16) := by kernel_rfl
theorem boxed_own {X Y : World} {B : Nat} {t : TypeId} {v : Value} {row : Option Nat} (hv : Boxed X B t v) (hg : X.grownBy Y row) (hrow : ∀ r, row = some r → ∃ o : Obj, X.heap[r]? = some o ∧ o.isCells = false) : Boxed Y B t v :=
  hv.kept hg (fun e' => by
    obtain ⟨o, ho, hc⟩ := hrow B e'.symm
    rw [show X.heap[B]? = _ from hv] at ho; cases ho; cases hc)
theorem not_nil (g b : Nat) (w : World) : (binOp BinOp.eql 37 (Value.func (Fn.func g) #[] #[.pointer (some ⟨b, 0, none⟩)]) Value.nilFunc).run Tryd.prog w = .ok (.bool false) w := by
  kernel_rfl
set_option maxRecDepth 100000 in
set_option maxHeartbeats 2000000 in
theorem told_any (B : Nat) (W M : Int) (w : World) (hM : 0 ≤ M) (hM2 : M ≤ 9999) (hB : B < w.heap.size) (hc : w.cell? ⟨B, 0, none⟩ = some (.int .i64 W)) :
    Calls Tryd.prog 19 #[.func (.func 30) #[] #[.pointer (some ⟨B, 0, none⟩)], .int .i64 M] w fun e w' =>
      ∃ v, e = .returned v ∧ w'.ownsRow w.heap.size 40 2 v ((upto W 8192).take M.toNat).length (flat W ((upto W 8192).take M.toNat)) ∧ Below w.heap.size w w' := by
  obtain ⟨i0, hi, hz0, hz1, hz2⟩ := info_parts infoPair
  refine (callsIn_wide (n := 7)).1 ?_
  refine callsIn_of_wp_marks Tryd.func19 rfl trivial ?_ rfl
  simp only [Tryd.ntmps19, List.size_toArray, List.length_cons, List.length_nil, Nat.reduceAdd, Nat.reduceSub, Array.replicate_succ, Array.replicate_zero, List.push_toArray, List.append_toArray, List.nil_append, List.cons_append]
  have NN := not_nil 30 B
  gi_wp2
  have bM := Boxed.new w 3 (.int .i64 M)
  have bO := Boxed.new (w.alloc (.cells #[.int .i64 M] 3)) 34 (.slice none 0 0)
  rw [World.size_alloc] at bO
  have hB0 : Below w.heap.size w ((w.alloc (.cells #[.int .i64 M] 3)).alloc (.cells #[.slice none 0 0] 34)) := ((Below.refl _ w).alloc (Nat.le_refl _) _).alloc (by simp) _
  have hc2 := (hB0.cell (p := ⟨B, 0, none⟩) hB).trans hc
  have bM2 := bM.alloc (.cells #[.slice none 0 0] 34)
  have hown : Own (fun (s : List (Fin 8192)) V => ∃ v, Boxed V (w.heap.size + 1) 34 v ∧ V.ownsRow w.heap.size 40 2 v s.length (flat W (s.map fv)) ∧ True) :=
    holdsRow_own w.heap.size (w.heap.size + 1) 34 40 2 (fun s : List (Fin 8192) => s.length) (fun s => flat W (s.map fv)) (fun _ _ => True)
  refine' wpIn_rangeFunc_ownF rfl (by decide) (gf := 30) (lb := #[.pointer (some ⟨B, 0, none⟩)]) rfl trivial (enters_of Tryd.func30 (by kernel_rfl) rfl)
    (all_stops _ B w.heap.size W _ hB (by simp; omega) hc2) belowK_t (belowK_b (by simp; omega)) (Below.refl _ _) (fun _ => rfl)
    (fun pre V => ((∃ v, Boxed V (w.heap.size + 1) 34 v ∧ V.ownsRow w.heap.size 40 2 v pre.length (flat W (pre.map fv)) ∧ True) ∧ Boxed V w.heap.size 3 (.int .i64 M) ∧ pre.length ≤ M.toNat) ∧ Below w.heap.size w V)
    (fun c pre V => (c = .exit 0 ∧ ∃ l x, pre = l ++ [x] ∧ (∃ v, Boxed V (w.heap.size + 1) 34 v ∧ V.ownsRow w.heap.size 40 2 v l.length (flat W (l.map fv)) ∧ True) ∧ l.length = M.toNat) ∧ Below w.heap.size w V)
    (OwnFrom.and (Own.from (fun s A C row hs hg hr => ⟨hown s A C row hs.1 hg hr, boxed_own hs.2.1 hg hr, hs.2.2⟩) _) (ownFrom_below (Nat.le_refl _) (by simp; omega)))
    (fun c => OwnFrom.and (Own.from (fun s A C row hs hg hr => by
      obtain ⟨rfl, l, x, rfl, a3, a4⟩ := hs
      exact ⟨rfl, l, x, rfl, hown l A C row a3 hg hr, a4⟩) _) (ownFrom_below (Nat.le_refl _) (by simp; omega)))
    ?h0 _ ?assign ?body ?done ?stop
  case assign =>
    intro l x V K hK
    simp only [encV]
    gi_wp2
    exact hK
  case h0 => exact ⟨⟨⟨_, bO, World.ownsRow_nil _ _ _ _, trivial⟩, bM2, Nat.zero_le _⟩, hB0⟩
  case body =>
    rintro l pre x V ⟨⟨⟨v, hv, hrow, _⟩, hvM, hle⟩, hbel⟩ hlt
    have hc := hv.cell
    have cM := hvM.cell
    have hlen : v = .slice none 0 0 ∨ ∃ g cap, v = .slice (some ⟨g, 0, none⟩) pre.length cap := by
      rcases hrow.2 with ⟨h, _⟩ | ⟨g, cap, _, h, _⟩
      · exact .inl h
      · exact .inr ⟨g, cap, h⟩
    have hk0 : v = .slice none 0 0 → pre.length = 0 := by
      intro h
      rcases hrow.2 with ⟨_, h0⟩ | ⟨g, cap, _, h2, _⟩
      · exact h0
      · rw [h] at h2; cases h2
    have LV : ∀ V' : World, Sem.run Tryd.prog (Builtin.len_ #[34] 3 #[v]) V' = .ok (.int .i64 (pre.length : Int)) V' := by
      intro V'
      rcases hlen with h | ⟨g, cap, h⟩
      · rw [hk0 h, h]; simp [Builtin.len_, go_sem]
      · rw [h]; simp [Builtin.len_, go_sem]
    by_cases hfull : pre.length = M.toNat
    · have hge : M ≤ (pre.length : Int) := by omega
      clear hlen hk0
      gi_wp2
      exact ⟨KeepsOthers.refl _, ⟨rfl, pre, x, rfl, ⟨v, hv, hrow, trivial⟩, hfull⟩, hbel⟩
    · have hlt2 : (pre.length : Int) < M := by omega
      have hB' := hbel.size
      have hz : w.heap.size ≤ V.heap.size := by omega
      have hle2 : pre.length + 1 ≤ M.toNat := by omega
      have hcap : pre.length + 1 ≤ 9999 := by omega
      have HL := Lib.hid hle2
      clear hlen hk0 hfull hle hle2
      gi_wp2_with (gi_at_builtin; refine wpListIn_append_own _ rfl _ _ 34 rfl w.heap.size 40 i0 (.agg #[.int .i64 0, .int .u64 0]) 2 16 Tryd.underlying34 hi hz0 hz1 hz2 rfl (by decide) _ _ _ rfl (hrow.alloc _) ⟨V.heap.size, 0, none⟩ 1 1 [.int .i64 (x.1 : Int), .int .u64 (outV x.1 W)] rfl rfl (cell_two_new _ _ _ _) (by simp [Value.oneCell']) (by unfold maxLen; omega) (by omega) (by simp; omega) ?_; intro v' w1 hown' hgrow _; obtain ⟨g', cap', rfl⟩ := ownsRow_succ hown'; obtain ⟨hv1, hv2, hr2, hk2, hb2⟩ := hv.appended (by decide) hrow hz (by omega) hown' hgrow; have hc1 := hv1.cell; have hf1 := hv1.frozen)
      have m1 : Boxed w1 w.heap.size 3 (.int .i64 M) := (hvM.alloc _).kept hgrow (hvM.not_row (by decide) hrow)
      have m2 := m1.kept (grownBy_setCell' w1 (w.heap.size + 1) (.slice (some ⟨g', 0, none⟩) (pre.length + 1) cap')) (fun e => by simp at e)
      refine ⟨hk2, hb2, ⟨⟨_, hv2, ?_, trivial⟩, m2, by rw [List.length_append]; exact HL.out⟩, hbel.trans hb2⟩
      rw [List.length_append, List.map_append, List.map_cons, List.map_nil, flat_snoc]
      exact hr2
  case done =>
    rintro D ys V hD hS ⟨⟨⟨v, hv, hrow, _⟩, hvM, hle⟩, hbel⟩ hK
    have hc := hv.cell
    have hy : ys.length = (upto W 8192).length := by rw [← hS, List.length_map]
    have ht : (upto W 8192).take M.toNat = ys.map fv := by rw [← hS, List.take_of_length_le (by rw [List.length_map]; exact hle)]
    have HT := Lib.hid ht
    clear ht hS hy
    gi_wp2
    refine ⟨by simp, .inl ⟨_, _, rfl, run_takeDeferred hK, ?_⟩⟩
    exact ⟨_, results_tmp rfl _ _ _, v, rfl, by rw [HT.out, List.length_map]; exact ownsRow_putObj hrow _ hK rfl, hbel.trans (belowK_b (w := w) (Nat.le_refl _) V D _ _ (by simp at hD; omega) hK rfl rfl)⟩
  case stop =>
    rintro D c ys V hD hS ⟨⟨rfl, pre, x, rfl, ⟨v, hv, hrow, _⟩, hfull⟩, hbel⟩ hK
    have hc := hv.cell
    have ht : (upto W 8192).take M.toNat = pre.map fv := by
      obtain ⟨tl, htl⟩ := hS
      rw [← htl, List.map_append, List.append_assoc, List.take_append_of_le_length (by rw [List.length_map, hfull]; exact Nat.le_refl _), List.take_of_length_le (by rw [List.length_map, hfull]; exact Nat.le_refl _)]
    have HT := Lib.hid ht
    clear ht hS hfull
    gi_wp2
    refine ⟨by simp, .inl ⟨_, _, rfl, run_takeDeferred hK, ?_⟩⟩
    exact ⟨_, results_tmp rfl _ _ _, v, rfl, by rw [HT.out, List.length_map]; exact ownsRow_putObj hrow _ hK rfl, hbel.trans (belowK_b (w := w) (Nat.le_refl _) V D _ _ (by simp at hD; omega) hK rfl rfl)⟩
end Go.Proofs.YtmkeopglgfddjaaDoor
