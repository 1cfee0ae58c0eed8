/-
  The iterators over the tables of names, each with its table. No conditions.
-/
import Derived.Test.YtefglodkcddgiaaDoorNamesG
import Derived.Laws.Tables
namespace Go.Proofs.YtefglodkcddgiaaDoor
open Go.RowKit Go.Shelf
attribute [local go_sem] Oper.semAt_some

theorem modify_end {α : Type} (f : α → α) (x : α) : ∀ l : List α, (l ++ [x]).modify l.length f = l ++ [f x]
  | [] => rfl
  | y :: l => by simp [modify_end f x l]
theorem setRow_alloc (V : World) (old new : Array Value) (t : TypeId) : (V.alloc (.cells old t)).setRow V.heap.size new = V.alloc (.cells new t) := by
  have hh : ((V.alloc (.cells old t)).setRow V.heap.size new).heap = (V.alloc (.cells new t)).heap := by
    simp only [World.setRow, World.alloc]
    apply Array.ext'
    simp only [Array.toList_modify, Array.toList_push]
    rw [← Array.length_toList, modify_end]
  cases V
  simp only [World.setRow, World.alloc] at hh ⊢
  rw [hh]
set_option maxRecDepth 100000 in
set_option maxHeartbeats 8000000 in
theorem fields_tells : Tells 48 fieldT := fun n n₀ w hn => fun l J Jx V hV hJ hJx hY h0 => by
  have hJ1 : J [] (V.alloc (.cells (rowsC fieldT).toArray 83)) := hJ _ V _ none h0 (below_grown ((Below.refl _ V).alloc (Nat.le_refl _) _)) (fun r e => by cases e)
  have HTh := Lib.hid (fun cap => callsIn_wide.1 (through_in 0 _ l V.heap.size cap n₀ V.heap.size 83 fieldT J Jx _ (by decide) rfl (World.alloc_heap_new V _) hJ hJ1 hY))
  clear hY hJ1 h0 hJ hJx hV hn
  refine callsIn_wide.2 ?_
  go_enter Tryd.func48, Tryd.ntmps48
  go_wp2_with (refine wpList_store_row rfl 83 (.tmp 2) (.tmp 9) rfl V.heap.size (rowsC fieldT).toArray rfl rfl 83 _ (World.alloc_heap_new V _) (by kernel_rfl) (by kernel_rfl) (by kernel_rfl) ?_; rw [setRow_alloc])
  refine (HTh.out _).mono ?_
  rintro e W1 ⟨⟨v, rfl⟩, hR⟩
  go_wp2_with fail
  go_end0
  rcases hR with hR | ⟨pre, h1, h2⟩
  · exact ⟨⟨_, rfl⟩, .inl ⟨_, rfl, hR⟩⟩
  · exact ⟨⟨_, rfl⟩, .inr ⟨pre, h1, h2⟩⟩
set_option maxRecDepth 100000 in
set_option maxHeartbeats 8000000 in
theorem hints_tells : Tells 45 hintT := fun n n₀ w hn => fun l J Jx V hV hJ hJx hY h0 => by
  have hJ1 : J [] (V.alloc (.cells (rowsC hintT).toArray 80)) := hJ _ V _ none h0 (below_grown ((Below.refl _ V).alloc (Nat.le_refl _) _)) (fun r e => by cases e)
  have HTh := Lib.hid (fun cap => callsIn_wide.1 (through_in 0 _ l V.heap.size cap n₀ V.heap.size 80 hintT J Jx _ (by decide) rfl (World.alloc_heap_new V _) hJ hJ1 hY))
  clear hY hJ1 h0 hJ hJx hV hn
  refine callsIn_wide.2 ?_
  go_enter Tryd.func45, Tryd.ntmps45
  go_wp2_with (refine wpList_store_row rfl 80 (.tmp 2) (.tmp 12) rfl V.heap.size (rowsC hintT).toArray rfl rfl 80 _ (World.alloc_heap_new V _) (by kernel_rfl) (by kernel_rfl) (by kernel_rfl) ?_; rw [setRow_alloc])
  refine (HTh.out _).mono ?_
  rintro e W1 ⟨⟨v, rfl⟩, hR⟩
  go_wp2_with fail
  go_end0
  rcases hR with hR | ⟨pre, h1, h2⟩
  · exact ⟨⟨_, rfl⟩, .inl ⟨_, rfl, hR⟩⟩
  · exact ⟨⟨_, rfl⟩, .inr ⟨pre, h1, h2⟩⟩
set_option maxRecDepth 100000 in
set_option maxHeartbeats 8000000 in
theorem mods_tells : Tells 43 modT := fun n n₀ w hn => fun l J Jx V hV hJ hJx hY h0 => by
  have hJ1 : J [] (V.alloc (.cells (rowsC modT).toArray 79)) := hJ _ V _ none h0 (below_grown ((Below.refl _ V).alloc (Nat.le_refl _) _)) (fun r e => by cases e)
  have HTh := Lib.hid (fun cap => callsIn_wide.1 (through_in 0 _ l V.heap.size cap n₀ V.heap.size 79 modT J Jx _ (by decide) rfl (World.alloc_heap_new V _) hJ hJ1 hY))
  clear hY hJ1 h0 hJ hJx hV hn
  refine callsIn_wide.2 ?_
  go_enter Tryd.func43, Tryd.ntmps43
  go_wp2_with (refine wpList_store_row rfl 79 (.tmp 2) (.tmp 15) rfl V.heap.size (rowsC modT).toArray rfl rfl 79 _ (World.alloc_heap_new V _) (by kernel_rfl) (by kernel_rfl) (by kernel_rfl) ?_; rw [setRow_alloc])
  refine (HTh.out _).mono ?_
  rintro e W1 ⟨⟨v, rfl⟩, hR⟩
  go_wp2_with fail
  go_end0
  rcases hR with hR | ⟨pre, h1, h2⟩
  · exact ⟨⟨_, rfl⟩, .inl ⟨_, rfl, hR⟩⟩
  · exact ⟨⟨_, rfl⟩, .inr ⟨pre, h1, h2⟩⟩
set_option maxRecDepth 100000 in
set_option maxHeartbeats 8000000 in
theorem barriers_tells : Tells 44 barT := fun n n₀ w hn => fun l J Jx V hV hJ hJx hY h0 => by
  have hJ1 : J [] (V.alloc (.cells (rowsC barT).toArray 79)) := hJ _ V _ none h0 (below_grown ((Below.refl _ V).alloc (Nat.le_refl _) _)) (fun r e => by cases e)
  have HTh := Lib.hid (fun cap => callsIn_wide.1 (through_in 0 _ l V.heap.size cap n₀ V.heap.size 79 barT J Jx _ (by decide) rfl (World.alloc_heap_new V _) hJ hJ1 hY))
  clear hY hJ1 h0 hJ hJx hV hn
  refine callsIn_wide.2 ?_
  go_enter Tryd.func44, Tryd.ntmps44
  go_wp2_with (refine wpList_store_row rfl 79 (.tmp 2) (.tmp 15) rfl V.heap.size (rowsC barT).toArray rfl rfl 79 _ (World.alloc_heap_new V _) (by kernel_rfl) (by kernel_rfl) (by kernel_rfl) ?_; rw [setRow_alloc])
  refine (HTh.out _).mono ?_
  rintro e W1 ⟨⟨v, rfl⟩, hR⟩
  go_wp2_with fail
  go_end0
  rcases hR with hR | ⟨pre, h1, h2⟩
  · exact ⟨⟨_, rfl⟩, .inl ⟨_, rfl, hR⟩⟩
  · exact ⟨⟨_, rfl⟩, .inr ⟨pre, h1, h2⟩⟩
end Go.Proofs.YtefglodkcddgiaaDoor
