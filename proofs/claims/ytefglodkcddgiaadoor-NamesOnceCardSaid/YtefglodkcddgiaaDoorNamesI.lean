/-
  The iterators over the tables of names, each with its table. No conditions.
-/
import Derived.Test.YtefglodkcddgiaaDoorNamesH
namespace Go.Proofs.YtefglodkcddgiaaDoor
open Go.RowKit Go.Shelf
attribute [local go_sem] Oper.semAt_some

set_option maxRecDepth 100000 in
set_option maxHeartbeats 8000000 in
theorem conditions_tells : Tells 42 condT := fun n n₀ w hn => fun l J Jx V hV hJ hJx hY h0 => by
  have hJ1 : J [] (V.alloc (.cells (rowsC condT).toArray 76)) := hJ _ V _ none h0 (below_grown ((Below.refl _ V).alloc (Nat.le_refl _) _)) (fun r e => by cases e)
  have HTh := Lib.hid (fun cap => callsIn_wide.1 (through_in 0 _ l V.heap.size cap n₀ V.heap.size 76 condT J Jx _ (by decide) rfl (World.alloc_heap_new V _) hJ hJ1 hY))
  clear hY hJ1 h0 hJ hJx hV hn
  refine callsIn_wide.2 ?_
  go_enter Tryd.func42, Tryd.ntmps42
  go_wp2_with (refine wpList_store_row rfl 76 (.tmp 2) (.tmp 19) rfl V.heap.size (rowsC condT).toArray rfl rfl 76 _ (World.alloc_heap_new V _) (by kernel_rfl) (by kernel_rfl) (by kernel_rfl) ?_; rw [setRow_alloc])
  refine (HTh.out _).mono ?_
  rintro e W1 ⟨⟨v, rfl⟩, hR⟩
  go_wp2_with fail
  go_end0
  rcases hR with hR | ⟨pre, h1, h2⟩
  · exact ⟨⟨_, rfl⟩, .inl ⟨_, rfl, hR⟩⟩
  · exact ⟨⟨_, rfl⟩, .inr ⟨pre, h1, h2⟩⟩
set_option maxRecDepth 100000 in
set_option maxHeartbeats 8000000 in
theorem fetches_tells : Tells 47 prfT := fun n n₀ w hn => fun l J Jx V hV hJ hJx hY h0 => by
  have hJ1 : J [] (V.alloc (.cells (rowsC prfT).toArray 82)) := hJ _ V _ none h0 (below_grown ((Below.refl _ V).alloc (Nat.le_refl _) _)) (fun r e => by cases e)
  have HTh := Lib.hid (fun cap => callsIn_wide.1 (through_in 0 _ l V.heap.size cap n₀ V.heap.size 82 prfT J Jx _ (by decide) rfl (World.alloc_heap_new V _) hJ hJ1 hY))
  clear hY hJ1 h0 hJ hJx hV hn
  refine callsIn_wide.2 ?_
  go_enter Tryd.func47, Tryd.ntmps47
  go_wp2_with (refine wpList_store_row rfl 82 (.tmp 2) (.tmp 21) rfl V.heap.size (rowsC prfT).toArray rfl rfl 82 _ (World.alloc_heap_new V _) (by kernel_rfl) (by kernel_rfl) (by kernel_rfl) ?_; rw [setRow_alloc])
  refine (HTh.out _).mono ?_
  rintro e W1 ⟨⟨v, rfl⟩, hR⟩
  go_wp2_with fail
  go_end0
  rcases hR with hR | ⟨pre, h1, h2⟩
  · exact ⟨⟨_, rfl⟩, .inl ⟨_, rfl, hR⟩⟩
  · exact ⟨⟨_, rfl⟩, .inr ⟨pre, h1, h2⟩⟩
end Go.Proofs.YtefglodkcddgiaaDoor
