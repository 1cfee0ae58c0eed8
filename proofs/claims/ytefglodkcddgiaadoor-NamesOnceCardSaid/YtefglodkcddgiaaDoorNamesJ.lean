/-
  The iterators over the tables of names, each with its table. No conditions.
-/
import Derived.Test.YtefglodkcddgiaaDoorNamesI
namespace Go.Proofs.YtefglodkcddgiaaDoor
open Go.RowKit Go.Shelf
attribute [local go_sem] Oper.semAt_some

set_option maxRecDepth 100000 in
set_option maxHeartbeats 8000000 in
theorem systems_tells : Tells 46 sysT := fun n n₀ w hn => fun l J Jx V hV hJ hJx hY h0 => by
  have hJ1 : J [] (V.alloc (.cells (rowsC sysT).toArray 81)) := hJ _ V _ none h0 (below_grown ((Below.refl _ V).alloc (Nat.le_refl _) _)) (fun r e => by cases e)
  have HTh := Lib.hid (fun cap => callsIn_wide.1 (through_in 0 _ l V.heap.size cap n₀ V.heap.size 81 sysT J Jx _ (by decide) rfl (World.alloc_heap_new V _) hJ hJ1 hY))
  clear hY hJ1 h0 hJ hJx hV hn
  refine callsIn_wide.2 ?_
  go_enter Tryd.func46, Tryd.ntmps46
  go_wp2_with (refine wpList_store_row rfl 81 (.tmp 2) (.tmp 42) rfl V.heap.size (rowsC sysT).toArray rfl rfl 81 _ (World.alloc_heap_new V _) (by kernel_rfl) (by kernel_rfl) (by kernel_rfl) ?_; rw [setRow_alloc])
  refine (HTh.out _).mono ?_
  rintro e W1 ⟨⟨v, rfl⟩, hR⟩
  go_wp2_with fail
  go_end0
  rcases hR with hR | ⟨pre, h1, h2⟩
  · exact ⟨⟨_, rfl⟩, .inl ⟨_, rfl, hR⟩⟩
  · exact ⟨⟨_, rfl⟩, .inr ⟨pre, h1, h2⟩⟩
end Go.Proofs.YtefglodkcddgiaaDoor
