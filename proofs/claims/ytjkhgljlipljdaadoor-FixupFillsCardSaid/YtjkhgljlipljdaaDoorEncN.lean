/-
  What each call of bits.Fits, enc.Sets returns at the classes of near holes.
-/
import Derived.Test.YtjkhgljlipljdaaDoorEncL
namespace Go.Proofs.YtjkhgljlipljdaaDoor
open Go.RowKit
set_option linter.unusedVariables false
set_option linter.unusedSimpArgs false
set_option maxHeartbeats 1000000 in
theorem isWidth_any (n : Int) (h1 : 1 ≤ n) (h2 : n ≤ 64) (w : World) :
    Calls Tryd.prog 81 #[.int .i64 n] w fun e w' => e = .returned (.bool true) ∧ Below w.heap.size w w' := by
  go_enter Tryd.func81, Tryd.ntmps81
  go_wp2_with fail
  go_ret
  exact ⟨by simp, Below.refl _ _⟩
/-- whether a number has room in so many bits with a sign -/
def sfitB (v n : Int) : Bool := v / 2 ^ (n.toNat - 1) == 0 || v / 2 ^ (n.toNat - 1) == -1
set_option maxHeartbeats 1000000 in
theorem sfits_any (v n : Int) (h1 : 1 ≤ n) (h2 : n ≤ 64) (w : World) :
    Calls Tryd.prog 68 #[.int .i64 v, .int .i64 n, .bool true] w fun e w' => e = .returned (.bool (sfitB v n)) ∧ Below w.heap.size w w' := by
  have IW := Lib.hid (fun W => isWidth_any n h1 h2 W)
  unfold sfitB
  go_enter Tryd.func68, Tryd.ntmps68
  go_wp2_with fail
  refine (IW.out _).mono ?_
  rintro e w1 ⟨rfl, hb⟩
  have HB1 := Lib.hid hb
  clear hb
  go_wp2_with fail
  · go_ret
    exact ⟨by simp [*], HB1.out⟩
  · go_ret
    exact ⟨rfl, HB1.out⟩
end Go.Proofs.YtjkhgljlipljdaaDoor
