/-
  What each call of fixup's lowBytes returns. Conditions: a width of at most 8.
-/
import Derived.Test.YtjkhgljlipljdaaDoorEncP
import Derived.Laws.MakeOwn
import Derived.Laws.Tables

namespace Go.Proofs.YtjkhgljlipljdaaDoor
open Go.RowKit
set_option linter.unusedVariables false
set_option linter.unusedSimpArgs false
theorem infoByte : (Tryd.prog.info? 5).map (fun i => (i.zero, i.size, i.bytes)) = some (some (.int .u8 0), 1, 1) := by kernel_rfl
/-- bytes made anew: so many cells -/
theorem make_run (n : Nat) (hn : n ≤ 281474976710656) : ∃ M : Array Value, M.size = n ∧ ∀ W : World, (Instr.makeSlice 53 (.int .i64 (n : Int)) (.int .i64 (n : Int))).run Tryd.prog W = .ok (.slice (some ⟨W.heap.size, 0, none⟩) n n) (W.alloc (.cells M 5)) := by
  obtain ⟨i0, hi, h0, h1, h2⟩ := info_parts infoByte
  refine ⟨madeCells (Value.int .u8 0).cells (((n : Nat) : Int).toNat * i0.size), by rw [size_madeCells, h1]; simp, fun W => ?_⟩
  have := run_make (P := Tryd.prog) W 53 5 i0 (.int .u8 0) Tryd.underlying53 hi h0 .i64 .i64 (n : Int) (n : Int) (by omega) (by omega) (by rw [h2]; omega) (by omega)
  simpa using this
set_option maxRecDepth 20000 in
set_option maxHeartbeats 1000000 in
theorem low_any (v : Int) (n : Nat) (hn : n ≤ 8) (w : World) :
    Calls Tryd.prog 51 #[.int .i64 v, .int .i64 (n : Int)] w fun e w' => e = .returned (.slice (some ⟨w.heap.size, 0, none⟩) n n) ∧ (∃ X : Array Value, w'.heap[w.heap.size]? = some (.cells X 5 (0, 0)) ∧ X.size = n ∧ ∀ i, i < n → X[i]? = some (.int .u8 (v / 2 ^ (8 * i) % 256))) ∧ Below w.heap.size w w' := by
  obtain ⟨M, hM, hmk⟩ := make_run n (by omega)
  go_enter Tryd.func51, Tryd.ntmps51
  go_wp2_with fail
  have H0 := Lib.hid (heap_alloc_new w (.cells M 5))
  have K0 := Lib.hid (below1 w (.cells M 5))
  generalize w.alloc (.cells M 5) = W0 at *
  clear hmk
  go_loopw [11] (fun iv wr => ∃ (j : Nat) (X : Array Value), j ≤ n ∧ iv = .int .i64 (j : Int) ∧ Hid (wr.heap[w.heap.size]? = some (.cells X 5 (0, 0))) ∧ X.size = n ∧ Hid (∀ i, i < j → X[i]? = some (.int .u8 (v / 2 ^ (8 * i) % 256))) ∧ Hid (Below w.heap.size w wr)) (fun iv _ => n - (intOf iv).toNat)
  case atStart => exact ⟨0, M, by omega, rfl, H0, hM, Lib.hid (fun i hi => absurd hi (by omega)), K0⟩
  case round =>
    obtain ⟨j, X, hj, rfl, hb, hX, hv, hk⟩ := hrel
    by_cases hlt : (j : Int) < (n : Int)
    · have hj1 : j < n := by omega
      have hc := Lib.cell_of_heap hb.out j
      have hjx : j < X.size := by omega
      rw [Array.getElem?_eq_getElem hjx] at hc
      have hf := Lib.frozen_of_heap hb.out j
      have hz := heap_lt hb.out
      generalize X[j] = old at *
      go_wp2_with fail
      refine ⟨⟨j + 1, X.setIfInBounds j (.int .u8 (v / 2 ^ (8 * j) % 256)), by omega, rfl, Lib.hid (heap_setCell_same wr w.heap.size j _ _ (.int .u8 (v / 2 ^ (8 * j) % 256)) hb.out), by simp [hX], Lib.hid ?_, Lib.hid (hk.out.setCell (p := ⟨w.heap.size, j, none⟩) (Nat.le_refl _) _)⟩, ?_⟩
      · intro i hi
        rw [Array.getElem?_setIfInBounds]
        by_cases e : j = i
        · subst e; rw [if_pos rfl, if_pos hjx]
        · rw [if_neg e]; exact hv.out i (by omega)
      · simp [intOf]; omega
    · obtain rfl : j = n := by omega
      go_wp2_with fail
      go_ret
      exact ⟨rfl, ⟨X, hb.out, hX, hv.out⟩, hk.out⟩
end Go.Proofs.YtjkhgljlipljdaaDoor
