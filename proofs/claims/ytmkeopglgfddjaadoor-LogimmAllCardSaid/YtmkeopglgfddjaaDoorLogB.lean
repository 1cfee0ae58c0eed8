/-
  begun: the parts of two values, as the laws ask them first: true. Where the table of math/bits lies as its text lays it.
-/
import Derived.Test.YtmkeopglgfddjaaDoorLogDoor
namespace Go.Proofs.YtmkeopglgfddjaaDoor
open Go.RowKit Go.Shelf BM

theorem pat255 : PatOut 255 64 64 8 0 0 := by
  refine .inl ⟨.inr rfl, ⟨64, 8, 0, ⟨⟨?_, by decide, by decide, by decide, by decide⟩, by decide +kernel⟩, rfl, rfl, rfl⟩, rfl⟩
  exact .inr (.inr (.inr (.inr (.inr rfl))))
theorem dec035 : DecOut 0 3 5 32 3758096391 0 := by
  refine .inl ⟨.inl rfl, ⟨32, .inr (.inr (.inr (.inr (.inl rfl)))), by decide, ⟨by decide, by decide, by decide, by decide, by decide⟩, ?_⟩, rfl⟩
  have h : valN 32 6 3 32 = 3758096391 := by decide +kernel
  show 3758096391 = (((valN 32 6 3 32) : Nat) : Int)
  rw [h]; rfl
set_option maxRecDepth 100000 in
set_option maxHeartbeats 1000000 in
theorem begun_any (w : World) (hT : Tab w) (hTB : 0 < w.heap.size) :
    Calls Tryd.prog 12 #[] w fun e w' => e = .returned (.bool true) ∧ Below w.heap.size w w' := by
  have EN := encode_out pat255 (by decide) (by decide) w hT hTB
  rw [show encA 64 0 = 1 from rfl, show encC 64 8 0 = 7 from rfl] at EN
  have DE := fun w => decode_out dec035 w
  have E1 := Lib.hid EN
  clear EN hT
  go_enter Tryd.func12, Tryd.ntmps12
  go_wp2_with (first | (go_at_call 13; refine E1.out.mono ?_; rintro e w1 ⟨rfl, h1⟩) | (go_at_call 8; refine (DE _).mono ?_; rintro e w2 ⟨rfl, h2⟩))
  go_ret
  exact ⟨rfl, Below.thn h1 h1.size h2⟩
end Go.Proofs.YtmkeopglgfddjaaDoor
