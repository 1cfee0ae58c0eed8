/-
  What each call of bits.Ones and of enc's num, bit, reg, fix returns. Conditions: a width of 1 to 32 bits; the texts of digits that are used.
-/
import Derived.Test.YtjkhgljlipljdaaDoorEncB
namespace Go.Proofs.YtjkhgljlipljdaaDoor
open Go.RowKit
set_option linter.unusedVariables false
set_option linter.unusedSimpArgs false
/-- n ones, as the code makes them -/
def onesQ (n : Int) : Int := IntKind.u64.wrap (IntKind.u64.wrap (2 ^ n.toNat) - 1)
/-- a number's n lowest bits, as the code makes them -/
def lowQ (v n : Int) : Int := bits .and .u64 (IntKind.u64.wrap v) (onesQ n) % 4294967296
set_option maxHeartbeats 400000 in
theorem ones_any (n : Int) (w : World) (h1 : 0 ≤ n) (h2 : n ≤ 64) :
    Calls Tryd.prog 97 #[.int .i64 n] w fun e w' => e = .returned (.int .u64 (onesQ n)) ∧ Below w.heap.size w w' := by
  go_enter Tryd.func97, Tryd.ntmps97
  go_wp2
  go_ret
  exact ⟨rfl, Below.refl _ _⟩
def numQ (v n : Int) : Pa := ⟨lowQ v n, n, false⟩
set_option maxHeartbeats 400000 in
theorem num_any (v n : Int) (w : World) (h1 : 0 ≤ n) (h2 : n ≤ 32) :
    Calls Tryd.prog 100 #[.int .i64 v, .int .i64 n] w fun e w' => e = .returned (paV (numQ v n)) ∧ Below w.heap.size w w' := by
  unfold numQ paV lowQ
  have ON := Lib.hid (fun W => ones_any n W h1 (by omega))
  generalize onesQ n = o at *
  go_enter Tryd.func100, Tryd.ntmps100
  have j0 := below1 w (.cells #[.int .u32 0, .int .i64 0, .bool false] 141)
  have HN := Lib.hid (heap_alloc_new w (.cells #[.int .u32 0, .int .i64 0, .bool false] 141))
  have K0 := Lib.hid j0
  clear j0
  go_wp2_with fail
  refine (ON.out _).mono ?_
  rintro e w1 ⟨rfl, hb⟩
  have h1' := kept_v hb HN.out
  have KB1 := Lib.hid (K0.out.trans (hb.mono K0.out.size))
  have c0 := Lib.cell_of_heap h1' 0
  have c1 := Lib.cell_of_heap h1' 1
  have c2 := Lib.cell_of_heap h1' 2
  have f0 := Lib.frozen_of_heap h1' 0
  have f1 := Lib.frozen_of_heap h1' 1
  have f2 := Lib.frozen_of_heap h1' 2
  have hz := heap_lt h1'
  clear hb h1' HN K0
  go_wp2_with fail
  refine bodyPost_ret (by simp [results, Tryd.results100, go_sem, c0, c1, c2]; try rfl) rfl ?_
  refine ⟨rfl, ?_⟩
  have hw := KB1.out
  iterate 3 (refine Below.setCell ?_ (by dsimp only; omega) _)
  exact hw
/-- a text of digits as bits -/
def digS (t : List UInt8) : Nat → Int
  | 0 => 0
  | k + 1 => bits .or .u32 (digS t k * 2 % 4294967296) ((((t[k]?.getD 0).toNat : Int) - 48) % 256)
def digP (t : List UInt8) : Pa := ⟨digS t t.length, t.length, true⟩
set_option maxHeartbeats 1000000 in
theorem digits_any (t : List UInt8) (ht : t.length ≤ 20) (w : World) :
    Calls Tryd.prog 101 #[.string ⟨t.toArray⟩] w fun e w' => e = .returned (paV (digP t)) ∧ Below w.heap.size w w' := by
  unfold digP paV
  have F0 := Lib.hid (show digS t 0 = 0 from rfl)
  have F1 := Lib.hid (fun k => show digS t (k + 1) = bits .or .u32 (digS t k * 2 % 4294967296) ((((t[k]?.getD 0).toNat : Int) - 48) % 256) from rfl)
  generalize digS t = F at *
  go_enter Tryd.func101, Tryd.ntmps101
  go_wp2_with fail
  go_loopw [10] (fun iv wr => ∃ j : Nat, j ≤ t.length ∧ iv = .int .i64 (j : Int) ∧ Hid (wr.heap[w.heap.size]? = some (.cells #[.int .u32 0, .int .i64 0, .bool false] 141 (0, 0))) ∧ Hid (wr.heap[w.heap.size + 1]? = some (.cells #[.int .u32 (F j), .int .i64 (t.length : Int), .bool true] 141 (0, 0))) ∧ Hid (Below w.heap.size w wr)) (fun iv _ => t.length - (intOf iv).toNat)
  case atStart =>
    have a0 := below1 w (.cells #[.int .u32 0, .int .i64 0, .bool false] 141)
    have a1 := below1 (w.alloc (.cells #[.int .u32 0, .int .i64 0, .bool false] 141)) (.cells #[.int .u32 0, .int .i64 (t.length : Int), .bool true] 141)
    exact ⟨0, by omega, rfl, Lib.hid (kept_v a1 (heap_alloc_new w _)), Lib.hid (by rw [F0.out]; exact heap_alloc2_new w _ _), Lib.hid (a0.trans (a1.mono a0.size))⟩
  case round =>
    obtain ⟨j, hj, rfl, h0, h1, hk⟩ := hrel
    by_cases hlt : (j : Int) < (t.length : Int)
    · have hj1 : j < t.length := by omega
      have w9 : IntKind.i64.wrap ((j : Int) + 1) = ((j + 1 : Nat) : Int) := by rw [IntWalk.i64_in _ (by omega)]; omega
      have FJ := Lib.hid (F1.out j)
      have c0 := Lib.cell_of_heap h1.out 0
      have c1 := Lib.cell_of_heap h1.out 1
      have c2 := Lib.cell_of_heap h1.out 2
      have f0 := Lib.frozen_of_heap h1.out 0
      have hz := heap_lt h1.out
      go_wp2_with fail
      go_region
      all_goals
        go_wp2_with fail
        have ev : bits .or .u32 (F j * 2 % 4294967296) (((((⟨t.toArray⟩ : ByteArray)[j]'(show j < t.toArray.size by simpa using hj1)).toNat : Int) - 48) % 256) = F (j + 1) := by
          rw [FJ.out]
          have g : (⟨t.toArray⟩ : ByteArray)[j]'(show j < t.toArray.size by simpa using hj1) = t[j]?.getD 0 := by
            rw [List.getElem?_eq_getElem hj1]; rfl
          rw [g]
        rw [ev]
        have g1 := heap_setCell_same wr (w.heap.size + 1) 0 _ _ (.int .u32 (F (j + 1))) h1.out
        have g0 := (heap_setCell_other wr ⟨w.heap.size + 1, 0, none⟩ w.heap.size (.int .u32 (F (j + 1))) (by dsimp only; omega)).trans h0.out
        refine ⟨⟨j + 1, by omega, rfl, Lib.hid g0, Lib.hid g1, Lib.hid ((hk.out.setCell (p := ⟨w.heap.size + 1, 0, none⟩) (by dsimp only; omega) _).drew)⟩, ?_⟩
        simp [intOf]; omega
    · obtain rfl : j = t.length := by omega
      have c0 := Lib.cell_of_heap h1.out 0
      have c1 := Lib.cell_of_heap h1.out 1
      have c2 := Lib.cell_of_heap h1.out 2
      have d0 := Lib.cell_of_heap h0.out 0
      have d1 := Lib.cell_of_heap h0.out 1
      have d2 := Lib.cell_of_heap h0.out 2
      have f0 := Lib.frozen_of_heap h0.out 0
      have f1 := Lib.frozen_of_heap h0.out 1
      have f2 := Lib.frozen_of_heap h0.out 2
      have hz := heap_lt h0.out
      go_wp2_with fail
      refine bodyPost_ret (by simp [results, Tryd.results101, go_sem, d0, d1, d2]; try rfl) rfl ?_
      refine ⟨rfl, ?_⟩
      have hw := hk.out
      iterate 3 (refine Below.setCell ?_ (by dsimp only; omega) _)
      exact hw
end Go.Proofs.YtjkhgljlipljdaaDoor
