/-
  The iterator over holes: what it tells, for any body of a loop that leaves the blocks below a mark alone; what Check returns. No conditions beyond those that each lemma states.
-/
import Derived.Test.YtjkhgljlipljdaaDoorFixA
import Derived.Test.YtjkhgljlipljdaaDoorTellsS
import Derived.RangeFuncCalls
import Derived.RangeFuncLeaves
import Derived.Shelf.Abstract
import Derived.Shelf.RegionOpen
import Derived.OwnWalkIn
import Derived.TacticsInMore
import Derived.LoopNIn
import Derived.LoopIn
namespace Go.Proofs.YtjkhgljlipljdaaDoor
open Go.RowKit Go.Shelf
set_option linter.unusedVariables false
set_option linter.unusedSimpArgs false
attribute [local go_sem] Oper.semAt_some

def encH (x : Nat × Nat) : Array Value := #[.agg #[.int .i64 (x.1 : Int), .int .i64 (x.2 : Int), .int .i64 0, .string ⟨#[]⟩, .string ⟨#[]⟩]]
theorem enters_holes : ∀ args w, (callFunc 35 args).run Tryd.prog w = .ok (.enter 35 args) w := enters_of Tryd.func35 (by kernel_rfl) rfl
theorem take_pre (n : Nat) : holesL.take n <+: holesL := List.take_prefix _ _
theorem heap_lt {W : World} {b : Nat} {o : Obj} (h : W.heap[b]? = some o) : b < W.heap.size := (Array.getElem?_eq_some_iff.1 h).1
set_option maxRecDepth 100000 in
set_option maxHeartbeats 8000000 in
theorem holes_tells (n n₀ : Nat) (w : World) (hn : n₀ ≤ w.heap.size) :
    TellsS (Below n₀) n Tryd.prog 35 #[] encH (fun xs => xs = holesL) (fun pre => pre <+: holesL) 15 w := by
  intro l J Jx V hV hJ hJx hY h0
  have SZ := Lib.hid (fun k W => sizes_any k W)
  have YH := Lib.hid hY
  clear hY
  refine callsIn_of_wp Tryd.func35 rfl trivial ?_ rfl
  simp only [Tryd.ntmps35, List.size_toArray, List.length_cons, List.length_nil, Nat.reduceAdd, Nat.reduceSub, Array.replicate_succ, Array.replicate_zero, List.push_toArray, List.append_toArray, List.nil_append, List.cons_append]
  gi_wp2_with fail
  gi_loopw [2] (fun v wr => ∃ k : Nat, 1 ≤ k ∧ k ≤ 13 ∧ v = .int .i64 (k : Int) ∧ J (holesL.take (idx k 0)) wr ∧ Below n₀ V wr)
    (fun v _ => 14 - (intOf v).toNat)
  case atStart => exact ⟨1, by decide, by decide, rfl, h0, Below.refl _ _⟩
  case round =>
    obtain ⟨k, hk1, hk2, rfl, hJs, hBr⟩ := hrel
    by_cases hlt' : k < 13
    · have hlt : (k : Int) ≤ 12 := by omega
      have w9 : IntKind.i64.wrap ((k : Int) + 1) = ((k + 1 : Nat) : Int) := by rw [IntWalk.i64_in _ (by omega)]; omega
      gi_wp2_with fail
      refine ⟨trivial, (fun h => absurd h (by decide)), ?_⟩
      refine (callsIn_wide.2 (SZ.out k _)).mono ?_
      rintro e w1 ⟨rfl, rfl⟩
      gi_wp2_with fail
      gi_loopw [10] (fun v wr => ∃ s : Nat, s ≤ nS k ∧ v = .int .i64 (s : Int) ∧ J (holesL.take (idx k s)) wr ∧ Below n₀ V wr)
        (fun v _ => 5 - (intOf v).toNat)
      case atStart => exact ⟨0, Nat.zero_le _, rfl, hJs, hBr⟩
      case round =>
        obtain ⟨s, hs, rfl, hJ2, hB2⟩ := hrel
        by_cases hst : s < nS k
        · have hst' : (s : Int) < (nS k : Int) := by omega
          have h4 : s < 4 := by unfold nS at hst; split at hst <;> omega
          have w8 : IntKind.i64.wrap ((s : Int) + 1) = ((s + 1 : Nat) : Int) := by rw [IntWalk.i64_in _ (by omega)]; omega
          have hl15 := idx_lt k hlt' s h4 hk1 hst
          obtain ⟨fn, tmps, assign, body, hy1, hR⟩ := YH.out (n - 1) (holesL.take (idx k s)) (k, s) _ hJ2 (by rw [List.length_take]; omega)
          rw [idx_take hlt' hk1 hst] at hR
          dsimp only [encH] at hy1
          gi_wp2
          refine ⟨fun h => absurd h (by decide), ?_⟩
          refine hR.mono ?_
          rintro e W3 (⟨rfl, hJ4, hk4, hf4⟩ | ⟨rfl, hJx4, hk4⟩)
          · gi_wp2_with fail
            go_roundw
            case rel => exact ⟨s + 1, by omega, by first | rfl | rw [← w8], hJ4, hB2.trans hf4⟩
            case measure => simp [intOf]; omega
          · gi_wp2_with fail
            refine bodyPost_ret (results_none rfl _ _ _) rfl ?_
            exact ⟨⟨_, rfl⟩, .inr ⟨_, take_pre _, hJx4⟩⟩
        · have hst' : ¬ (s : Int) < (nS k : Int) := by omega
          obtain rfl : s = nS k := by omega
          rw [idx_end k hlt' hk1] at hJ2
          gi_wp2_with fail
          go_roundw
          case rel => exact ⟨k + 1, by omega, by omega, by first | rfl | rw [← w9], hJ2, hB2⟩
          case measure => simp [intOf]; omega
    · have hlt : ¬ (k : Int) ≤ 12 := by omega
      obtain rfl : k = 13 := by omega
      gi_wp2_with fail
      refine bodyPost_end (results_none rfl _ _ _) rfl ?_
      exact ⟨⟨_, rfl⟩, .inl hJs⟩

theorem cells_kept {X Y : World} {b : Nat} {c : Array Value} {t : TypeId} {z : Nat × Nat} {row : Option Nat} (h : X.heap[b]? = some (.cells c t z)) (hg : X.grownBy Y row) (hr : ∀ r, row = some r → ∃ o : Obj, X.heap[r]? = some o ∧ o.isCells = false) : Y.heap[b]? = some (.cells c t z) :=
  (hg.block b (heap_lt h) (fun e => by
    obtain ⟨o, ho, hc⟩ := hr b e.symm
    rw [h] at ho; cases ho; cases hc)).trans h
theorem below_put {n : Nat} {W : World} {l : Nat} {o' : Obj} (h : n ≤ l) : Below n W (W.putObj l o') :=
  { os := rfl, tape := rfl, output := rfl, size := by rw [World.putObj_size]; exact Nat.le_refl _, block := fun j hj => World.putObj_heap_other (by omega) }
theorem cell_put {W : World} {b l : Nat} {j : Nat} {o' : Obj} (h : b ≠ l) : (W.putObj l o').cell? ⟨b, j, none⟩ = W.cell? ⟨b, j, none⟩ := by
  unfold World.cell?
  simp only [World.putObj_heap_other (show b ≠ l from h)]
set_option maxRecDepth 100000 in
set_option maxHeartbeats 8000000 in
theorem check_any (h : Hl) (w : World) :
    Calls Tryd.prog 15 #[hlV h] w fun e w' => e = .returned (.int .i64 (chkI h.k h.s)) ∧ Below w.heap.size w w' := by
  obtain ⟨k, s, a, p, m⟩ := h
  unfold hlV
  simp only
  have HT := Lib.hid (fun n n₀ W h => holes_tells n n₀ W h)
  have HO := Lib.hid (fun W => holes_any W)
  refine (callsIn_wide (n := 7)).1 ?_
  refine callsIn_of_wp_marks Tryd.func15 rfl trivial ?_ rfl
  simp only [Tryd.ntmps15, List.size_toArray, List.length_cons, List.length_nil, Nat.reduceAdd, Nat.reduceSub, Array.replicate_succ, Array.replicate_zero, List.push_toArray, List.append_toArray, List.nil_append, List.cons_append]
  gi_wp2_with fail
  refine ⟨trivial, ?_⟩
  refine (callsIn_wide.2 (HO.out _)).mono ?_
  rintro e w1 ⟨rfl, rfl⟩
  gi_wp2_with fail
  obtain ⟨W0, hW0⟩ : ∃ W0, ((w.alloc (.cells #[.int .i64 k, .int .i64 s, .int .i64 0, .string ⟨#[]⟩, .string ⟨#[]⟩] 25)).alloc (.cells #[.int .i64 0] 29)) = W0 := ⟨_, rfl⟩
  have hB0 : Below w.heap.size w W0 := by rw [← hW0]; exact below2 w _ _
  have hz0 : W0.heap.size = w.heap.size + 2 := by rw [← hW0]; simp
  have h1 : W0.heap[w.heap.size]? = some (.cells #[.int .i64 k, .int .i64 s, .int .i64 0, .string ⟨#[]⟩, .string ⟨#[]⟩] 25 (0, 0)) := by
    rw [← hW0]; exact (Below.heap_alloc _ _ _ (by simp)).trans (World.alloc_heap_new w _)
  have h2 : W0.heap[w.heap.size + 1]? = some (.cells #[.int .i64 0] 29 (0, 0)) := by
    rw [← hW0]
    have := World.alloc_heap_new (w.alloc (.cells #[.int .i64 k, .int .i64 s, .int .i64 0, .string ⟨#[]⟩, .string ⟨#[]⟩] 25)) (.cells #[.int .i64 0] 29)
    rwa [World.size_alloc] at this
  rw [hW0]
  clear hW0
  refine' range_tellsS (Fr := Below w.heap.size) Below.trans (fun W l o o' hl h ho _ => below_put (by omega)) (gf := 35) (lb := #[]) rfl enters_holes
    (HT.out _ w.heap.size _ hB0.size) (Below.refl _ _) (fun _ => rfl)
    (fun pre V => (V.heap[w.heap.size]? = some (.cells #[.int .i64 k, .int .i64 s, .int .i64 0, .string ⟨#[]⟩, .string ⟨#[]⟩] 25 (0, 0)) ∧ V.heap[w.heap.size + 1]? = some (.cells #[.int .i64 0] 29 (0, 0)) ∧ ∀ x ∈ pre, ¬ ((x.1 : Int) = k ∧ (x.2 : Int) = s)) ∧ Below w.heap.size w V)
    (fun c pre V => (c = .ret ∧ V.heap[w.heap.size + 1]? = some (.cells #[.int .i64 0] 29 (0, 0)) ∧ ∃ x ∈ pre, (x.1 : Int) = k ∧ (x.2 : Int) = s) ∧ Below w.heap.size w V)
    (OwnFrom.and (Own.from (fun s A C row hs hg hr => ⟨cells_kept hs.1 hg hr, cells_kept hs.2.1 hg hr, hs.2.2⟩) _) (ownFrom_below (Nat.le_refl _) (by omega)))
    (fun c => OwnFrom.and (Own.from (fun s A C row hs hg hr => ⟨hs.1, cells_kept hs.2.1 hg hr, hs.2.2⟩) _) (ownFrom_below (Nat.le_refl _) (by omega)))
    ⟨⟨h1, h2, fun x hx => by cases hx⟩, hB0⟩
    (fun A B hA hAB => hAB.mono (by omega))
    (fun x a₁ X => ∃ b, w.heap.size + 2 ≤ b ∧ a₁ = { tmps := #[.agg #[.int .i64 k, .int .i64 s, .int .i64 a, .string p, .string m], .pointer (some ⟨w.heap.size, 0, none⟩), .pointer (some ⟨w.heap.size + 1, 0, none⟩), .pointer (some ⟨b, 0, none⟩), .agg #[.int .i64 0, .string ⟨#[]⟩, .string ⟨#[]⟩], .pointer (some ⟨w.heap.size, 2, none⟩), .func (.func 35) #[] #[], .agg #[.int .i64 (x.1 : Int), .int .i64 (x.2 : Int), .int .i64 0, .string ⟨#[]⟩, .string ⟨#[]⟩], undef, undef, undef], defers := [] } ∧ X.heap[b]? = some (.cells #[.int .i64 (x.1 : Int), .int .i64 (x.2 : Int), .int .i64 0, .string ⟨#[]⟩, .string ⟨#[]⟩] 25 (0, 0)))
    ?hAs ?hassign ?hbody ?hdone ?hstop
  case hAs =>
    refine Own.from ?_ _
    rintro s A C row ⟨b, hb, hs, hc⟩ hg hr
    exact ⟨b, hb, hs, cells_kept hc hg hr⟩
  case hassign =>
    intro m l x V K hV hK
    simp only [encH]
    gi_wp2
    exact hK _ _ (below1 V _) ⟨V.heap.size, by omega, rfl, heap_alloc_new V _⟩
  case hbody =>
    rintro m2 l2 pre x a1 X hl ⟨⟨hc1, hc2, hall⟩, hbel⟩ ⟨b, hb, rfl, hbx⟩ hlt
    have p0 : X.cell? ⟨b, 0, none⟩ = some (.int .i64 (x.1 : Int)) := Lib.cell_of_heap hbx 0
    have p1 : X.cell? ⟨b, 1, none⟩ = some (.int .i64 (x.2 : Int)) := Lib.cell_of_heap hbx 1
    have p2 : X.cell? ⟨b, 2, none⟩ = some (.int .i64 0) := Lib.cell_of_heap hbx 2
    have p3 : X.cell? ⟨b, 3, none⟩ = some (.string ⟨#[]⟩) := Lib.cell_of_heap hbx 3
    have p4 : X.cell? ⟨b, 4, none⟩ = some (.string ⟨#[]⟩) := Lib.cell_of_heap hbx 4
    have q0 : X.cell? ⟨w.heap.size, 0, none⟩ = some (.int .i64 k) := Lib.cell_of_heap hc1 0
    have q1 : X.cell? ⟨w.heap.size, 1, none⟩ = some (.int .i64 s) := Lib.cell_of_heap hc1 1
    have q2 : X.cell? ⟨w.heap.size, 2, none⟩ = some (.int .i64 0) := Lib.cell_of_heap hc1 2
    have q3 : X.cell? ⟨w.heap.size, 3, none⟩ = some (.string ⟨#[]⟩) := Lib.cell_of_heap hc1 3
    have q4 : X.cell? ⟨w.heap.size, 4, none⟩ = some (.string ⟨#[]⟩) := Lib.cell_of_heap hc1 4
    have r0 : X.cell? ⟨w.heap.size + 1, 0, none⟩ = some (.int .i64 0) := Lib.cell_of_heap hc2 0
    have f0 := Lib.frozen_of_heap hc2 0
    have HC1 := Lib.hid hc1
    have HC2 := Lib.hid hc2
    have HA := Lib.hid hall
    have HB := Lib.hid hbel
    clear hc1 hc2 hall hbx
    by_cases e1 : (x.1 : Int) = k
    · by_cases e2 : (x.2 : Int) = s
      · subst e1 e2
        gi_wp2_with fail
        refine ⟨(KeepsOthers.setCell _ _ _).from _, ⟨rfl, heap_setCell_same X (w.heap.size + 1) 0 _ _ _ HC2.out, x, by simp, rfl, rfl⟩, HB.out.setCell (p := ⟨w.heap.size + 1, 0, none⟩) (by simp) _⟩
      · have e2' := not_beq e2
        subst e1
        gi_wp2_with fail
        refine ⟨KeepsFrom.refl _ _, Below.refl _ _, ⟨HC1.out, HC2.out, ?_⟩, HB.out⟩
        intro y hy
        rcases List.mem_append.1 hy with h | h
        · exact HA.out y h
        · rw [List.mem_singleton.1 h]; exact fun h => e2 h.2
    · have e1' := not_beq e1
      gi_wp2_with fail
      refine ⟨KeepsFrom.refl _ _, Below.refl _ _, ⟨HC1.out, HC2.out, ?_⟩, HB.out⟩
      intro y hy
      rcases List.mem_append.1 hy with h | h
      · exact HA.out y h
      · rw [List.mem_singleton.1 h]; exact fun h => e1 h.1
  case hdone =>
    rintro D xs V hD rfl ⟨⟨hc1, hc2, hall⟩, hbel⟩ hK
    have r0 : V.cell? ⟨w.heap.size + 1, 0, none⟩ = some (.int .i64 0) := Lib.cell_of_heap hc2 0
    have f0 := Lib.frozen_of_heap hc2 0
    have hn : holeOk k s = false := by
      cases hh : holeOk k s with
      | false => rfl
      | true => obtain ⟨x, hx, h⟩ := holes_all hh; exact absurd h (hall x hx)
    have hK2 : (V.setCell ⟨w.heap.size + 1, 0, none⟩ (.int .i64 1)).heap[D]? = some (.deferred (some [])) := by
      rw [heap_setCell_other V ⟨w.heap.size + 1, 0, none⟩ D _ (by show D ≠ w.heap.size + 1; omega)]; exact hK
    have r1 : (V.setCell ⟨w.heap.size + 1, 0, none⟩ (.int .i64 1)).cell? ⟨w.heap.size + 1, 0, none⟩ = some (.int .i64 1) := Lib.cell_of_heap (heap_setCell_same V (w.heap.size + 1) 0 _ _ _ hc2) 0
    have HB2 := Lib.hid (hbel.setCell (p := ⟨w.heap.size + 1, 0, none⟩) (show w.heap.size ≤ w.heap.size + 1 by omega) (.int .i64 1))
    have HK2 := Lib.hid hK2
    have HR1 := Lib.hid r1
    clear hK2 r1
    gi_wp2_with fail
    refine ⟨by simp, .inl ⟨_, _, rfl, run_takeDeferred HK2.out, ?_⟩⟩
    refine ⟨.int .i64 1, ?_, ?_, HB2.out.trans (below_put (by omega))⟩
    · have : ((V.setCell ⟨w.heap.size + 1, 0, none⟩ (.int .i64 1)).putObj D (.deferred none)).cell? ⟨w.heap.size + 1, 0, none⟩ = some (.int .i64 1) := by
        rw [← HR1.out]; exact cell_put (by omega)
      simp [results, Tryd.f15, go_sem, this]
    · simp [chkI, hn]
  case hstop =>
    rintro D c ys V hD hS ⟨⟨rfl, hc2, x, hx, e1, e2⟩, hbel⟩ hK
    have r0 : V.cell? ⟨w.heap.size + 1, 0, none⟩ = some (.int .i64 0) := Lib.cell_of_heap hc2 0
    gi_wp2_with fail
    refine ⟨by simp, .inl ⟨_, _, rfl, run_takeDeferred hK, ?_⟩⟩
    refine ⟨.int .i64 0, ?_, ?_, hbel.trans (below_put (by omega))⟩
    · have : (V.putObj D (.deferred none)).cell? ⟨w.heap.size + 1, 0, none⟩ = some (.int .i64 0) := by
        rw [← r0]; exact cell_put (by omega)
      simp [results, Tryd.f15, go_sem, this]
    · have hm : x ∈ holesL := by obtain ⟨r, hr⟩ := hS; rw [← hr]; exact List.mem_append_left _ hx
      have := holes_ok x hm
      rw [← e1, ← e2]
      simp [chkI, this]
end Go.Proofs.YtjkhgljlipljdaaDoor
