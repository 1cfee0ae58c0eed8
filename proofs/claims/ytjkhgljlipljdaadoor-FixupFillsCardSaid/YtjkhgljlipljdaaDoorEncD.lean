/-
  What each call of enc's bit, reg returns.
-/
import Derived.Test.YtjkhgljlipljdaaDoorEncC
namespace Go.Proofs.YtjkhgljlipljdaaDoor
open Go.RowKit
set_option linter.unusedVariables false
set_option linter.unusedSimpArgs false
def bitQ (b : Bool) : Pa := if b then numQ 1 1 else numQ 0 1
set_option maxHeartbeats 400000 in
theorem bit_any (b : Bool) (w : World) :
    Calls Tryd.prog 99 #[.bool b] w fun e w' => e = .returned (paV (bitQ b)) ∧ Below w.heap.size w w' := by
  have N0 := Lib.hid (fun W => num_any 0 1 W (by omega) (by omega))
  have N1 := Lib.hid (fun W => num_any 1 1 W (by omega) (by omega))
  unfold bitQ
  generalize numQ 0 1 = p0 at *
  generalize numQ 1 1 = p1 at *
  unfold paV at *
  cases b with
  | false =>
    go_enter Tryd.func99, Tryd.ntmps99
    have j0 := below1 w (.cells #[.int .u32 0, .int .i64 0, .bool false] 141)
    have HN := Lib.hid (heap_alloc_new w (.cells #[.int .u32 0, .int .i64 0, .bool false] 141))
    have K0 := Lib.hid j0
    clear j0
    go_wp2_with fail
    refine (N0.out _).mono ?_
    rintro e w1 ⟨rfl, hb⟩
    have h1' := kept_v hb HN.out
    have KB1 := Lib.hid (K0.out.trans (hb.mono K0.out.size))
    have c0 := Lib.cell_of_heap h1' 0
    have c1 := Lib.cell_of_heap h1' 1
    have c2 := Lib.cell_of_heap h1' 2
    have f0 := Lib.frozen_of_heap h1' 0
    have f1 := Lib.frozen_of_heap h1' 1
    have f2 := Lib.frozen_of_heap h1' 2
    have hz := heap_lt h1'
    clear hb h1' HN K0
    go_wp2_with fail
    refine bodyPost_ret (by simp [results, Tryd.results99, go_sem, c0, c1, c2]; try rfl) rfl ?_
    refine ⟨rfl, ?_⟩
    have hw := KB1.out
    iterate 3 (refine Below.setCell ?_ (by dsimp only; omega) _)
    exact hw
  | true =>
    go_enter Tryd.func99, Tryd.ntmps99
    have j0 := below1 w (.cells #[.int .u32 0, .int .i64 0, .bool false] 141)
    have HN := Lib.hid (heap_alloc_new w (.cells #[.int .u32 0, .int .i64 0, .bool false] 141))
    have K0 := Lib.hid j0
    clear j0
    go_wp2_with fail
    refine (N1.out _).mono ?_
    rintro e w1 ⟨rfl, hb⟩
    have h1' := kept_v hb HN.out
    have KB1 := Lib.hid (K0.out.trans (hb.mono K0.out.size))
    have c0 := Lib.cell_of_heap h1' 0
    have c1 := Lib.cell_of_heap h1' 1
    have c2 := Lib.cell_of_heap h1' 2
    have f0 := Lib.frozen_of_heap h1' 0
    have f1 := Lib.frozen_of_heap h1' 1
    have f2 := Lib.frozen_of_heap h1' 2
    have hz := heap_lt h1'
    clear hb h1' HN K0
    go_wp2_with fail
    refine bodyPost_ret (by simp [results, Tryd.results99, go_sem, c0, c1, c2]; try rfl) rfl ?_
    refine ⟨rfl, ?_⟩
    have hw := KB1.out
    iterate 3 (refine Below.setCell ?_ (by dsimp only; omega) _)
    exact hw
set_option maxHeartbeats 400000 in
theorem reg_any (n : Int) (w : World) :
    Calls Tryd.prog 102 #[.int .i64 n] w fun e w' => e = .returned (paV (numQ n 5)) ∧ Below w.heap.size w w' := by
  have N0 := Lib.hid (fun W => num_any n 5 W (by omega) (by omega))
  generalize numQ n 5 = p0 at *
  unfold paV at *
  go_enter Tryd.func102, Tryd.ntmps102
  have j0 := below1 w (.cells #[.int .u32 0, .int .i64 0, .bool false] 141)
  have HN := Lib.hid (heap_alloc_new w (.cells #[.int .u32 0, .int .i64 0, .bool false] 141))
  have K0 := Lib.hid j0
  clear j0
  go_wp2_with fail
  refine (N0.out _).mono ?_
  rintro e w1 ⟨rfl, hb⟩
  have h1' := kept_v hb HN.out
  have KB1 := Lib.hid (K0.out.trans (hb.mono K0.out.size))
  have c0 := Lib.cell_of_heap h1' 0
  have c1 := Lib.cell_of_heap h1' 1
  have c2 := Lib.cell_of_heap h1' 2
  have f0 := Lib.frozen_of_heap h1' 0
  have f1 := Lib.frozen_of_heap h1' 1
  have f2 := Lib.frozen_of_heap h1' 2
  have hz := heap_lt h1'
  clear hb h1' HN K0
  go_wp2_with fail
  refine bodyPost_ret (by simp [results, Tryd.results102, go_sem, c0, c1, c2]; try rfl) rfl ?_
  refine ⟨rfl, ?_⟩
  have hw := KB1.out
  iterate 3 (refine Below.setCell ?_ (by dsimp only; omega) _)
  exact hw
end Go.Proofs.YtjkhgljlipljdaaDoor
