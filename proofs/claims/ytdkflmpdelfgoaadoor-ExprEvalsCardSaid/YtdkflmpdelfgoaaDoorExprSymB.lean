/-
  The iterator that slices.Values makes: what it tells, for any body of a loop that leaves the blocks below n₀ alone. Conditions: where its box and its row lie.
-/
import Derived.Test.YtdkflmpdelfgoaaDoorExprHexB
import Derived.Test.YtdkflmpdelfgoaaDoorTellsS
import Derived.RangeFuncCalls
import Derived.RangeFuncLeaves
import Derived.Shelf.Abstract
import Derived.Shelf.RegionOpen
import Derived.OwnWalkIn
import Derived.TacticsInMore
import Derived.LoopNIn
import Derived.LoopIn
import Derived.Test.YtdkflmpdelfgoaaDoorExprRefI
namespace Go.Proofs.YtdkflmpdelfgoaaDoor
open Go.RowKit Go.Shelf
set_option linter.unusedVariables false
set_option linter.unusedSimpArgs false
attribute [local go_sem] Oper.semAt_some

def encS (x : BA) : Array Value := #[.string x]
set_option maxRecDepth 100000 in
set_option maxHeartbeats 8000000 in
theorem values_tells (D : List BA) (g off cap bl n n₀ : Nat) (w : World) (hn : n₀ ≤ w.heap.size) (hbl : bl < n₀) (hg : g < n₀) (hlen : D.length ≤ 281474976710656)
    (hbx : w.heap[bl]? = some (.cells #[.slice (some ⟨g, off, none⟩) D.length cap] 40 (0, 0))) (hD : ∀ (k : Nat) (x : BA), D[k]? = some x → w.cell? ⟨g, off + k, none⟩ = some (.string x)) :
    TellsS (Below n₀) n Tryd.prog 63 #[.pointer (some ⟨bl, 0, none⟩)] encS (fun xs => xs = D) (fun pre => pre <+: D) D.length w := by
  intro l J Jx V hV hJ hJx hY h0
  have hbV : V.cell? ⟨bl, 0, none⟩ = some (.slice (some ⟨g, off, none⟩) D.length cap) := by
    rw [Lib.cell_of_heap ((hV.block bl (heap_lt hbx)).trans hbx)]; rfl
  have HD := Lib.hid (fun (W : World) (hW : Below n₀ V W) (k : Nat) (x : BA) (hx : D[k]? = some x) => show W.cell? ⟨g, off + k, none⟩ = some (.string x) from
    (hW.cell (p := ⟨g, off + k, none⟩) hg).trans ((hV.cell (p := ⟨g, off + k, none⟩) (by show g < _; omega)).trans (hD k x hx)))
  have YH := Lib.hid hY
  clear hY hD hbx
  refine callsIn_of_wp Tryd.func63 rfl trivial ?_ rfl
  simp only [Tryd.ntmps63, List.size_toArray, List.length_cons, List.length_nil, Nat.reduceAdd, Nat.reduceSub, Array.replicate_succ, Array.replicate_zero, List.push_toArray, List.append_toArray, List.nil_append, List.cons_append]
  gi_wp2_with fail
  gi_loopw [7] (fun v wr => ∃ (pre rest : List BA), v = .int .i64 (pre.length : Int) ∧ Hid (D = pre ++ rest) ∧ J pre wr ∧ Below n₀ V wr)
    (fun v _ => D.length + 1 - (intOf v).toNat)
  case atStart => exact ⟨[], D, rfl, Lib.hid rfl, h0, Below.refl _ _⟩
  case round =>
    obtain ⟨pre, rest, rfl, hP, hJs, hBr⟩ := hrel
    cases rest with
    | nil =>
      have hDl : D.length = pre.length := by rw [hP.out, List.append_nil]
      have hfin := (show D = pre by rw [hP.out, List.append_nil])
      have HF := Lib.hid hfin
      clear hfin
      rw [hDl]
      gi_wp2_with fail
      refine bodyPost_end (results_none rfl _ _ _) rfl ?_
      exact ⟨⟨_, rfl⟩, .inl ⟨_, HF.out.symm, hJs⟩⟩
    | cons x rest =>
      have hlt : pre.length < D.length := by rw [hP.out]; simp
      have hpl : (pre.length : Int) < (D.length : Int) := by omega
      have hp0 : (0 : Int) ≤ (pre.length : Int) := by omega
      have hc := HD.out wr hBr pre.length x (by rw [hP.out]; simp)
      have w9 : IntKind.i64.wrap ((pre.length : Int) + 1) = ((pre.length + 1 : Nat) : Int) := by rw [IntWalk.i64_in _ (by omega)]; omega
      obtain ⟨fn, tmps, assign, body, hy1, hR⟩ := YH.out (n - 1) pre x _ hJs hlt
      dsimp only [encS] at hy1
      gi_wp2
      refine ⟨fun h => absurd h (by decide), ?_⟩
      refine hR.mono ?_
      rintro e W3 (⟨rfl, hJ4, hk4, hf4⟩ | ⟨rfl, hJx4, hk4⟩)
      · gi_wp2_with fail
        go_roundw
        case rel => exact ⟨pre ++ [x], rest, by rw [List.length_append]; first | rfl | rw [← w9], Lib.hid (by rw [hP.out]; simp), hJ4, hBr.trans hf4⟩
        case measure => simp [intOf]; omega
      · gi_wp2_with fail
        refine bodyPost_ret (results_none rfl _ _ _) rfl ?_
        exact ⟨⟨_, rfl⟩, .inr ⟨_, ⟨rest, by rw [hP.out]; simp⟩, hJx4⟩⟩
end Go.Proofs.YtdkflmpdelfgoaaDoor
namespace Go.Proofs.YtdkflmpdelfgoaaDoor
open Go.RowKit Go.Shelf
set_option linter.unusedVariables false
set_option linter.unusedSimpArgs false
attribute [local go_sem] Oper.semAt_some

theorem symsL_len_take (T : List Tm) (k : Nat) : (symsL (T.take k)).length ≤ (symsL T).length := by
  have : symsL T = symsL (T.take k) ++ symsL (T.drop k) := by
    unfold symsL
    rw [← List.map_append, ← List.filter_append, List.take_append_drop]
  rw [this, List.length_append]; omega
theorem symsL_pre (T : List Tm) (k : Nat) : symsL (T.take k) <+: symsL T := ⟨symsL (T.drop k), by
    unfold symsL
    rw [← List.map_append, ← List.filter_append, List.take_append_drop]⟩
set_option maxRecDepth 100000 in
set_option maxHeartbeats 8000000 in
theorem symbols_tells (T : List Tm) (g off cap bl n n₀ : Nat) (w : World) (hn : n₀ ≤ w.heap.size) (hbl : bl < n₀) (hg : g < n₀) (hlen : T.length ≤ 281474976710656)
    (hbx : w.heap[bl]? = some (.cells #[.slice (some ⟨g, off, none⟩) T.length cap] 22 (0, 0))) (hT : ∀ (k : Nat) (x : Tm), T[k]? = some x → w.cell? ⟨g, off + k * 3, none⟩ = some (.int .i64 x.k) ∧ w.cell? ⟨g, off + k * 3 + 1, none⟩ = some (.int .i64 x.n) ∧ w.cell? ⟨g, off + k * 3 + 2, none⟩ = some (.string x.s)) :
    TellsS (Below n₀) n Tryd.prog 61 #[.pointer (some ⟨bl, 0, none⟩)] encS (fun xs => xs = symsL T) (fun pre => pre <+: symsL T) (symsL T).length w := by
  intro l J Jx V hV hJ hJx hY h0
  have hbV : V.cell? ⟨bl, 0, none⟩ = some (.slice (some ⟨g, off, none⟩) T.length cap) := by
    rw [Lib.cell_of_heap ((hV.block bl (heap_lt hbx)).trans hbx)]; rfl
  have HD := Lib.hid (fun (W : World) (hW : Below n₀ V W) (k : Nat) (x : Tm) (hx : T[k]? = some x) => by
    have key : ∀ j, W.cell? ⟨g, j, none⟩ = w.cell? ⟨g, j, none⟩ := fun j => (hW.cell (p := ⟨g, j, none⟩) hg).trans (hV.cell (p := ⟨g, j, none⟩) (by show g < _; omega))
    obtain ⟨a, b, c⟩ := hT k x hx
    exact (show W.cell? ⟨g, off + k * 3, none⟩ = some (.int .i64 x.k) ∧ W.cell? ⟨g, off + k * 3 + 1, none⟩ = some (.int .i64 x.n) ∧ W.cell? ⟨g, off + k * 3 + 2, none⟩ = some (.string x.s) from ⟨(key _).trans a, (key _).trans b, (key _).trans c⟩))
  have hnV : n₀ ≤ V.heap.size := Nat.le_trans hn hV.size
  have YH := Lib.hid hY
  clear hY hT hbx
  refine callsIn_of_wp Tryd.func61 rfl trivial ?_ rfl
  simp only [Tryd.ntmps61, List.size_toArray, List.length_cons, List.length_nil, Nat.reduceAdd, Nat.reduceSub, Array.replicate_succ, Array.replicate_zero, List.push_toArray, List.append_toArray, List.nil_append, List.cons_append]
  gi_wp2_with fail
  gi_loopw [7] (fun v wr => ∃ k : Nat, k ≤ T.length ∧ v = .int .i64 (k : Int) ∧ J (symsL (T.take k)) wr ∧ Below n₀ V wr)
    (fun v _ => T.length + 1 - (intOf v).toNat)
  case atStart => exact ⟨0, Nat.zero_le _, rfl, h0, Below.refl _ _⟩
  case round =>
    obtain ⟨k, hk, rfl, hJs, hBr⟩ := hrel
    by_cases hlt' : k < T.length
    · have hlt : (k : Int) < (T.length : Int) := by omega
      have hk0 : (0 : Int) ≤ (k : Int) := by omega
      obtain ⟨x, hx⟩ : ∃ x, T[k]? = some x := ⟨_, List.getElem?_eq_getElem hlt'⟩
      obtain ⟨x1, x2, x3⟩ := HD.out wr hBr k x hx
      have w9 : IntKind.i64.wrap ((k : Int) + 1) = ((k + 1 : Nat) : Int) := by rw [IntWalk.i64_in _ (by omega)]; omega
      have hSY := symsL_snoc (T.take k) x
      rw [show T.take k ++ [x] = T.take (k + 1) by rw [List.take_add_one, hx]; rfl] at hSY
      have HSY := Lib.hid hSY
      have hlenk := symsL_len_take T (k + 1)
      have HPR := Lib.hid (symsL_pre T (k + 1))
      obtain ⟨xk, xn, xs⟩ := x
      simp only at x1 x2 x3 HSY
      have hB1 : Below n₀ wr (wr.alloc (.cells #[.int .i64 xk, .int .i64 xn, .string xs] 57)) := (below1 wr _).mono (Nat.le_trans hnV hBr.size)
      have hJ1 : J (symsL (T.take k)) (wr.alloc (.cells #[.int .i64 xk, .int .i64 xn, .string xs] 57)) := hJ _ wr _ none hJs (below_grown (below1 wr _)) (fun r e => by cases e)
      by_cases h2 : xk = 2
      · subst h2
        rw [if_pos rfl] at HSY
        obtain ⟨fn, tmps, assign, body, hy1, hR⟩ := YH.out (n - 1) (symsL (T.take k)) xs _ hJ1 (by rw [HSY.out] at hlenk; simp at hlenk; omega)
        dsimp only [encS] at hy1
        gi_wp2
        refine ⟨fun h => absurd h (by decide), ?_⟩
        refine hR.mono ?_
        rintro e W3 (⟨rfl, hJ4, hk4, hf4⟩ | ⟨rfl, hJx4, hk4⟩)
        · gi_wp2_with fail
          exact ⟨⟨k + 1, by omega, by first | rfl | rw [← w9], by rw [HSY.out]; exact hJ4, (hBr.trans hB1).trans hf4⟩, by simp only [intOf]; omega⟩
        · gi_wp2_with fail
          refine bodyPost_ret (results_none rfl _ _ _) rfl ?_
          exact ⟨⟨_, rfl⟩, .inr ⟨_, HPR.out, by rw [HSY.out]; exact hJx4⟩⟩
      · have h2' : (xk == 2) = false := by rw [beq_eq_false_iff_ne]; exact h2
        rw [if_neg h2, List.append_nil] at HSY
        gi_wp2_with fail
        refine ⟨(fun f h => by cases h), ?_⟩
        gi_wp2_with fail
        exact ⟨⟨k + 1, by omega, by first | rfl | rw [← w9], by rw [HSY.out]; exact hJ1, hBr.trans hB1⟩, by simp only [intOf]; omega⟩
    · obtain rfl : k = T.length := by omega
      have HF := Lib.hid (show symsL (T.take T.length) = symsL T by rw [List.take_length])
      gi_wp2_with fail
      refine bodyPost_end (results_none rfl _ _ _) rfl ?_
      exact ⟨⟨_, rfl⟩, .inl ⟨_, HF.out, hJs⟩⟩
end Go.Proofs.YtdkflmpdelfgoaaDoor
