/-
  What each call of the document's own Get and Put returns, and that the examples of the document hold ('live'); nothing that lay in memory has changed.
-/
import Derived.Test.YtfpaambihjijoaaDoorBitsB
import Derived.Test.YtfpaambihjijoaaDoorBitsC
namespace Go.Proofs.YtfpaambihjijoaaDoor
open Go.RowKit BM

theorem live_put : putI 0 4 3 5 = 80 := by decide
theorem live_sign : sgn (255 : Int).toNat (8 : Int).toNat = -1 := by decide
theorem live_turn : turnI 1 4 (rot 1 4) = 8 := by decide
set_option maxHeartbeats 400000 in
theorem live_any (w : World) :
    Calls Tryd.prog 5 #[] w fun e w' => e = .returned (.bool true) ∧ Below w.heap.size w w' := by
  have P := put_yes 0 4 3 5 w (by decide) (by decide) (by decide) (by decide) (by decide) (by decide) (by decide) (by decide) (by decide) (by decide)
  rw [live_put] at P
  have S := fun w => sign_yes 255 8 w (by decide) (by decide) (by decide)
  rw [live_sign] at S
  have T := fun w => turn_yes 1 4 1 w (by decide) (by decide) (by decide) (by decide) (by decide)
  rw [live_turn] at T
  have P' := Lib.hid P
  have S' := Lib.hid S
  have T' := Lib.hid T
  clear P S T
  go_enter Tryd.func5, Tryd.ntmps5
  go_wp2_with (first | (go_at_call 18; refine P'.out.mono ?_; rintro e w1 ⟨rfl, hb⟩) | (go_at_call 14; refine (S'.out _).mono ?_; rintro e w2 ⟨rfl, rfl⟩) | (go_at_call 19; refine (T'.out _).mono ?_; rintro e w3 ⟨rfl, hb3⟩))
  go_ret
  exact ⟨rfl, Below.thn hb hb.size hb3⟩
end Go.Proofs.YtfpaambihjijoaaDoor
