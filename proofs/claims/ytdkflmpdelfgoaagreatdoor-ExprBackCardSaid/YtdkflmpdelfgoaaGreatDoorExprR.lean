/-
  live: what each call returns. Conditions: what the variables hold (GoodE).
-/
import Derived.Test.YtdkflmpdelfgoaaGreatDoorExprQ
import Derived.Test.YtdkflmpdelfgoaaGreatDoorExprJ
namespace Go.Proofs.YtdkflmpdelfgoaaGreatDoor
open Go.RowKit Go.Shelf
set_option linter.unusedVariables false
attribute [local go_sem] Oper.semAt_some

def liveL : List Tm := [⟨2, 0, ⟨#[97]⟩⟩, ⟨1, 2, E0⟩, ⟨1, 3, E0⟩, ⟨5, 0, E0⟩, ⟨8, 0, E0⟩, ⟨2, 0, ⟨#[98]⟩⟩, ⟨9, 0, E0⟩]
theorem live_eval : evalT liveL = ((6, ⟨#[97]⟩, ⟨#[98]⟩), 0) := by decide +kernel
theorem live_print : printV (6, ⟨#[97]⟩, ⟨#[98]⟩) = (⟨#[97, 45, 98, 43, 54]⟩, 0) := by
  have h : pvOk (6, ⟨#[97]⟩, ⟨#[98]⟩) = true := by decide +kernel
  unfold printV
  rw [if_pos h]
  have h6 : Lib.itoa 6 = [54] := by decide +kernel
  unfold vtB
  simp only [h6]
  decide +kernel
abbrev liveC : Array Value := #[.int .i64 2, .int .i64 0, .string ⟨#[97]⟩, .int .i64 1, .int .i64 2, .string ⟨#[]⟩, .int .i64 1, .int .i64 3, .string ⟨#[]⟩, .int .i64 5, .int .i64 0, .string ⟨#[]⟩, .int .i64 8, .int .i64 0, .string ⟨#[]⟩, .int .i64 2, .int .i64 0, .string ⟨#[98]⟩, .int .i64 9, .int .i64 0, .string ⟨#[]⟩]
theorem live_row (w : World) : TriO tmF (w.alloc (.cells liveC 42)) (.slice (some ⟨w.heap.size, 0, none⟩) 7 7) liveL := by
  refine .inr ⟨w.heap.size, 0, 7, rfl, Nat.le_refl _, by decide, by simp, fun k x hx => ?_⟩
  have c : ∀ j, (w.alloc (.cells liveC 42)).cell? ⟨w.heap.size, j, none⟩ = liveC[j]? := fun j => World.cell?_alloc_new _ _ _ _
  rw [c, c, c]
  match k, hx with
  | 0, hx => cases hx; exact ⟨rfl, rfl, rfl⟩
  | 1, hx => cases hx; exact ⟨rfl, rfl, rfl⟩
  | 2, hx => cases hx; exact ⟨rfl, rfl, rfl⟩
  | 3, hx => cases hx; exact ⟨rfl, rfl, rfl⟩
  | 4, hx => cases hx; exact ⟨rfl, rfl, rfl⟩
  | 5, hx => cases hx; exact ⟨rfl, rfl, rfl⟩
  | 6, hx => cases hx; exact ⟨rfl, rfl, rfl⟩
  | n + 7, hx => simp [liveL] at hx
set_option maxRecDepth 100000 in
set_option maxHeartbeats 8000000 in
theorem live_any (w : World) (hG : GoodE w) :
    Calls Tryz.prog 5 #[] w fun e w' => e = .returned (.bool true) ∧ Below w.heap.size w w' := by
  have EV := Lib.hid (eval_any _ liveL _ (hG.thn (below1 w (.cells liveC 42))) (live_row w) (by decide) (by decide))
  rw [live_eval] at EV
  have PR := Lib.hid (fun V (hb : Below w.heap.size w V) => print_any (6, ⟨#[97]⟩, ⟨#[98]⟩) V (hG.thn hb) (by decide) (by decide) (by decide) (by decide))
  rw [live_print] at PR
  have HB := Lib.hid (below1 w (.cells liveC 42))
  unfold RV vlV at EV
  unfold PV vlV at PR
  simp only at EV PR
  clear hG
  go_enter Tryz.func5, Tryz.ntmps5
  go_wp2_with fail
  refine EV.out.mono ?_
  rintro e w1 ⟨rfl, hb1⟩
  have HB1 := Lib.hid (Below.thn HB.out HB.out.size hb1)
  clear hb1 EV
  go_wp2_with fail
  refine (PR.out _ (HB1.out.alloc HB1.out.size _)).mono ?_
  rintro e w2 ⟨rfl, hb2⟩
  have HB2 := Lib.hid (Below.thn (HB1.out.alloc HB1.out.size _) (by have := HB1.out.size; simp; omega) hb2)
  obtain ⟨z0, z1, z2⟩ := val_cells (block_kept hb2 (heap_alloc_new w1 _))
  clear hb2
  go_wp2_with fail
  trace_state
  go_ret
  exact ⟨rfl, HB2.out⟩
end Go.Proofs.YtdkflmpdelfgoaaGreatDoor
