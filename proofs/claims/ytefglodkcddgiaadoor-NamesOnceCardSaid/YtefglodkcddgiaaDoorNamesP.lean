/-
  What each call of the document's Table returns: a kind's names, but registers. No conditions.
-/
import Derived.Test.YtefglodkcddgiaaDoorNamesO
import Derived.Great.BuildSlice
namespace Go.Proofs.YtefglodkcddgiaaDoor
open Go.RowKit Go.Shelf

/-- a slice of rows, as a table's names -/
def SliceOf (W : World) (v : Value) (T : List NRow) : Prop := (v = .slice none 0 0 ∧ T = []) ∨ ∃ g cap, v = .slice (some ⟨g, 0, none⟩) T.length cap ∧ g < W.heap.size ∧
  ∀ (k : Nat) (x : NRow), T[k]? = some x → W.cell? ⟨g, k * 2, none⟩ = some (.string ⟨x.1.toArray⟩) ∧ W.cell? ⟨g, k * 2 + 1, none⟩ = some (.int .i64 (x.2 : Int))
theorem SliceOf.keep {W W' : World} {v : Value} {T : List NRow} (h : SliceOf W v T) (hb : Below W.heap.size W W') : SliceOf W' v T := by
  rcases h with h | ⟨g, cap, h1, h2, h3⟩
  · exact .inl h
  · refine .inr ⟨g, cap, h1, Nat.lt_of_lt_of_le h2 hb.size, fun k x hx => ?_⟩
    obtain ⟨a, b⟩ := h3 k x hx
    exact ⟨((bcell hb).1 g _ h2).trans a, ((bcell hb).1 g _ h2).trans b⟩
theorem slice_new (w : World) (T : List NRow) (n : Nat) (t : TypeId) (hn : T.length = n) : SliceOf (w.alloc (.cells (rowsC T).toArray t)) (.slice (some ⟨w.heap.size, 0, none⟩) n n) T := by
  subst hn
  refine .inr ⟨_, _, rfl, by simp, fun k x hx => ?_⟩
  obtain ⟨a, b⟩ := rowsC_at T k x hx
  have hh := World.alloc_heap_new w (.cells (rowsC T).toArray t)
  constructor
  · unfold World.cell?; simp only [hh]; simpa using a
  · unfold World.cell?; simp only [hh]; simpa using b
/-- the names that the document's table has -/
def rtbl (k : Int) : List NRow := if k = 1 then [] else tbl k
noncomputable def rowInfo : TypeInfo := (Tryd.prog.info? 39).getD default
theorem rowInfo_is : Tryd.prog.info? 39 = some rowInfo := by kernel_rfl
theorem rowInfo_zero : rowInfo.zero = some (.agg #[.string ⟨#[]⟩, .int .i64 0]) := by kernel_rfl
theorem rowInfo_size : rowInfo.size = 2 := by kernel_rfl
set_option maxRecDepth 100000 in
set_option maxHeartbeats 4000000 in
theorem table_2 (w : World) :
    Calls Tryd.prog 31 #[.int .i64 2] w fun e w' => ∃ v, e = .returned v ∧ SliceOf w' v condT ∧ Below w.heap.size w w' := by
  go_enter Tryd.func31, Tryd.ntmps31
  go_wp2_with (refine wpList_buildSlice rfl 37 39 16 #[(0, .tmp 6), (1, .tmp 7), (2, .tmp 8), (3, .tmp 9), (4, .tmp 10), (5, .tmp 11), (6, .tmp 12), (7, .tmp 13), (8, .tmp 14), (9, .tmp 15), (10, .tmp 16), (11, .tmp 17), (12, .tmp 18), (13, .tmp 19), (14, .tmp 20), (15, .tmp 21)] rfl (rowsC condT).toArray rowInfo (.agg #[.string ⟨#[]⟩, .int .i64 0]) Tryd.underlying37 rowInfo_is rowInfo_zero (by rw [rowInfo_size]; decide) (by rw [rowInfo_size]; decide) (by kernel_rfl) ?_)
  go_ret
  exact ⟨_, rfl, slice_new w condT 16 39 rfl, (Below.refl _ _).alloc (Nat.le_refl _) _⟩
set_option maxRecDepth 100000 in
set_option maxHeartbeats 4000000 in
theorem table_3 (w : World) :
    Calls Tryd.prog 31 #[.int .i64 3] w fun e w' => ∃ v, e = .returned v ∧ SliceOf w' v modT ∧ Below w.heap.size w w' := by
  go_enter Tryd.func31, Tryd.ntmps31
  go_wp2_with (refine wpList_buildSlice rfl 37 39 12 #[(0, .tmp 25), (1, .tmp 26), (2, .tmp 27), (3, .tmp 28), (4, .tmp 29), (5, .tmp 30), (6, .tmp 31), (7, .tmp 32), (8, .tmp 33), (9, .tmp 34), (10, .tmp 35), (11, .tmp 36)] rfl (rowsC modT).toArray rowInfo (.agg #[.string ⟨#[]⟩, .int .i64 0]) Tryd.underlying37 rowInfo_is rowInfo_zero (by rw [rowInfo_size]; decide) (by rw [rowInfo_size]; decide) (by kernel_rfl) ?_)
  go_ret
  exact ⟨_, rfl, slice_new w modT 12 39 rfl, (Below.refl _ _).alloc (Nat.le_refl _) _⟩
set_option maxRecDepth 100000 in
set_option maxHeartbeats 4000000 in
theorem table_4 (w : World) :
    Calls Tryd.prog 31 #[.int .i64 4] w fun e w' => ∃ v, e = .returned v ∧ SliceOf w' v barT ∧ Below w.heap.size w w' := by
  go_enter Tryd.func31, Tryd.ntmps31
  go_wp2_with (refine wpList_buildSlice rfl 37 39 12 #[(0, .tmp 40), (1, .tmp 41), (2, .tmp 42), (3, .tmp 43), (4, .tmp 44), (5, .tmp 45), (6, .tmp 46), (7, .tmp 47), (8, .tmp 48), (9, .tmp 49), (10, .tmp 50), (11, .tmp 51)] rfl (rowsC barT).toArray rowInfo (.agg #[.string ⟨#[]⟩, .int .i64 0]) Tryd.underlying37 rowInfo_is rowInfo_zero (by rw [rowInfo_size]; decide) (by rw [rowInfo_size]; decide) (by kernel_rfl) ?_)
  go_ret
  exact ⟨_, rfl, slice_new w barT 12 39 rfl, (Below.refl _ _).alloc (Nat.le_refl _) _⟩
set_option maxRecDepth 100000 in
set_option maxHeartbeats 4000000 in
theorem table_5 (w : World) :
    Calls Tryd.prog 31 #[.int .i64 5] w fun e w' => ∃ v, e = .returned v ∧ SliceOf w' v hintT ∧ Below w.heap.size w w' := by
  go_enter Tryd.func31, Tryd.ntmps31
  go_wp2_with (refine wpList_buildSlice rfl 37 39 9 #[(0, .tmp 55), (1, .tmp 56), (2, .tmp 57), (3, .tmp 58), (4, .tmp 59), (5, .tmp 60), (6, .tmp 61), (7, .tmp 62), (8, .tmp 63)] rfl (rowsC hintT).toArray rowInfo (.agg #[.string ⟨#[]⟩, .int .i64 0]) Tryd.underlying37 rowInfo_is rowInfo_zero (by rw [rowInfo_size]; decide) (by rw [rowInfo_size]; decide) (by kernel_rfl) ?_)
  go_ret
  exact ⟨_, rfl, slice_new w hintT 9 39 rfl, (Below.refl _ _).alloc (Nat.le_refl _) _⟩
set_option maxRecDepth 100000 in
set_option maxHeartbeats 4000000 in
theorem table_7 (w : World) :
    Calls Tryd.prog 31 #[.int .i64 7] w fun e w' => ∃ v, e = .returned v ∧ SliceOf w' v prfT ∧ Below w.heap.size w w' := by
  go_enter Tryd.func31, Tryd.ntmps31
  go_wp2_with (refine wpList_buildSlice rfl 37 39 18 #[(0, .tmp 67), (1, .tmp 68), (2, .tmp 69), (3, .tmp 70), (4, .tmp 71), (5, .tmp 72), (6, .tmp 73), (7, .tmp 74), (8, .tmp 75), (9, .tmp 76), (10, .tmp 77), (11, .tmp 78), (12, .tmp 79), (13, .tmp 80), (14, .tmp 81), (15, .tmp 82), (16, .tmp 83), (17, .tmp 84)] rfl (rowsC prfT).toArray rowInfo (.agg #[.string ⟨#[]⟩, .int .i64 0]) Tryd.underlying37 rowInfo_is rowInfo_zero (by rw [rowInfo_size]; decide) (by rw [rowInfo_size]; decide) (by kernel_rfl) ?_)
  go_ret
  exact ⟨_, rfl, slice_new w prfT 18 39 rfl, (Below.refl _ _).alloc (Nat.le_refl _) _⟩
set_option maxRecDepth 100000 in
set_option maxHeartbeats 4000000 in
theorem table_8 (w : World) :
    Calls Tryd.prog 31 #[.int .i64 8] w fun e w' => ∃ v, e = .returned v ∧ SliceOf w' v fieldT ∧ Below w.heap.size w w' := by
  go_enter Tryd.func31, Tryd.ntmps31
  go_wp2_with (refine wpList_buildSlice rfl 37 39 6 #[(0, .tmp 88), (1, .tmp 89), (2, .tmp 90), (3, .tmp 91), (4, .tmp 92), (5, .tmp 93)] rfl (rowsC fieldT).toArray rowInfo (.agg #[.string ⟨#[]⟩, .int .i64 0]) Tryd.underlying37 rowInfo_is rowInfo_zero (by rw [rowInfo_size]; decide) (by rw [rowInfo_size]; decide) (by kernel_rfl) ?_)
  go_ret
  exact ⟨_, rfl, slice_new w fieldT 6 39 rfl, (Below.refl _ _).alloc (Nat.le_refl _) _⟩
set_option maxRecDepth 100000 in
set_option maxHeartbeats 4000000 in
theorem table_6 (w : World) :
    Calls Tryd.prog 31 #[.int .i64 6] w fun e w' => ∃ v, e = .returned v ∧ SliceOf w' v sysT ∧ Below w.heap.size w w' := by
  go_enter Tryd.func31, Tryd.ntmps31
  go_wp2_with (refine wpList_buildSlice rfl 37 39 39 #[(0, .tmp 97), (1, .tmp 98), (2, .tmp 99), (3, .tmp 100), (4, .tmp 101), (5, .tmp 102), (6, .tmp 103), (7, .tmp 104), (8, .tmp 105), (9, .tmp 106), (10, .tmp 107), (11, .tmp 108), (12, .tmp 109), (13, .tmp 110), (14, .tmp 111), (15, .tmp 112), (16, .tmp 113), (17, .tmp 114), (18, .tmp 115), (19, .tmp 116), (20, .tmp 117), (21, .tmp 118), (22, .tmp 119), (23, .tmp 120), (24, .tmp 121), (25, .tmp 122), (26, .tmp 123), (27, .tmp 124), (28, .tmp 125), (29, .tmp 126), (30, .tmp 127), (31, .tmp 128), (32, .tmp 129), (33, .tmp 130), (34, .tmp 131), (35, .tmp 132), (36, .tmp 133), (37, .tmp 134), (38, .tmp 135)] rfl (rowsC sysT).toArray rowInfo (.agg #[.string ⟨#[]⟩, .int .i64 0]) Tryd.underlying37 rowInfo_is rowInfo_zero (by rw [rowInfo_size]; decide) (by rw [rowInfo_size]; decide) (by kernel_rfl) ?_)
  go_ret
  exact ⟨_, rfl, slice_new w sysT 39 39 rfl, (Below.refl _ _).alloc (Nat.le_refl _) _⟩
set_option maxHeartbeats 1000000 in
theorem table_x (k : Int) (w : World) (h : k < 2 ∨ 8 < k) :
    Calls Tryd.prog 31 #[.int .i64 k] w fun e w' => ∃ v, e = .returned v ∧ SliceOf w' v [] ∧ Below w.heap.size w w' := by
  have b2 : (k == 2) = false := by rw [beq_eq_false_iff_ne]; omega
  have b3 : (k == 3) = false := by rw [beq_eq_false_iff_ne]; omega
  have b4 : (k == 4) = false := by rw [beq_eq_false_iff_ne]; omega
  have b5 : (k == 5) = false := by rw [beq_eq_false_iff_ne]; omega
  have b6 : (k == 6) = false := by rw [beq_eq_false_iff_ne]; omega
  have b7 : (k == 7) = false := by rw [beq_eq_false_iff_ne]; omega
  have b8 : (k == 8) = false := by rw [beq_eq_false_iff_ne]; omega
  clear h
  go_enter Tryd.func31, Tryd.ntmps31
  go_wp2
  go_ret
  exact ⟨_, rfl, .inl ⟨rfl, rfl⟩, Below.refl _ _⟩
theorem table_any (k : Int) (w : World) :
    Calls Tryd.prog 31 #[.int .i64 k] w fun e w' => ∃ v, e = .returned v ∧ SliceOf w' v (rtbl k) ∧ Below w.heap.size w w' := by
  by_cases h : k < 2 ∨ 8 < k
  · rw [show rtbl k = [] by
      unfold rtbl tbl
      by_cases h1 : k = 1
      · rw [if_pos h1]
      · rw [if_neg h1, if_neg h1, if_neg (by omega), if_neg (by omega), if_neg (by omega), if_neg (by omega), if_neg (by omega), if_neg (by omega), if_neg (by omega)]]
    exact table_x k w h
  · rcases (show k = 2 ∨ k = 3 ∨ k = 4 ∨ k = 5 ∨ k = 6 ∨ k = 7 ∨ k = 8 by omega) with rfl | rfl | rfl | rfl | rfl | rfl | rfl
    · exact table_2 w
    · exact table_3 w
    · exact table_4 w
    · exact table_5 w
    · exact table_6 w
    · exact table_7 w
    · exact table_8 w
end Go.Proofs.YtefglodkcddgiaaDoor
