/-
  What each call of enc.Sets returns at the classes of near holes.
-/
import Derived.Test.YtjkhgljlipljdaaDoorEncM
import Derived.Test.YtjkhgljlipljdaaDoorEncN
namespace Go.Proofs.YtjkhgljlipljdaaDoor
open Go.RowKit
set_option linter.unusedVariables false
set_option linter.unusedSimpArgs false
/-- a word with another distance -/
def setN (x op a : Int) : Int := bits .or .u32 (bits .andNot .u32 x (mkN op)) (bits .and .u32 ((wdN op a : Nat) : Int) (mkN op))
set_option maxHeartbeats 1000000 in
theorem sets_any (x op a : Int) (h : brOp op) (hf : sfitB a (wiN op) = true) (w : World) (hG : GI w) :
    Calls Tryd.prog 49 #[.int .u32 x, .int .i64 op, .int .i64 a] w fun e w' => e = .returned (.tuple #[.int .u32 (setN x op a), .int .i64 0]) ∧ Below w.heap.size w w' := by
  have RE := Lib.hid (fun W hb => tells_reach op h W (hG.keep hb))
  have DI := Lib.hid (fun W => distanceBits_any op h W)
  have CN := Lib.hid (fun W => count_any op h W)
  have FI : Hid (∀ W, Calls Tryd.prog 68 #[.int .i64 a, .int .i64 (wiN op), .bool true] W fun e w' => e = .returned (.bool true) ∧ Below W.heap.size W w') := Lib.hid (fun W => by
    have g := sfits_any a (wiN op) (by rcases h with rfl | rfl | rfl | rfl | rfl <;> decide) (by rcases h with rfl | rfl | rfl | rfl | rfl <;> decide) W
    rw [hf] at g; exact g)
  have WO := Lib.hid (fun W => wordOf_any op a h W)
  unfold setN
  generalize wiN op = n at *
  generalize mkN op = m at *
  generalize ((wdN op a : Nat) : Int) = wd at *
  unfold inV at *
  clear h hf hG
  go_enter Tryd.func49, Tryd.ntmps49
  go_wp2_with fail
  refine (RE.out _ (Below.refl _ _)).mono ?_
  rintro e w1 ⟨⟨u, v, rfl⟩, hb⟩
  have HB1 := Lib.hid hb
  clear hb RE
  go_wp2_with fail
  refine (DI.out _).mono ?_
  rintro e w2 ⟨rfl, hb⟩
  have HB2 := Lib.hid (HB1.out.trans (hb.mono HB1.out.size))
  clear hb DI HB1
  go_wp2_with fail
  refine (CN.out _).mono ?_
  rintro e w3 ⟨rfl, hb⟩
  have HB3 := Lib.hid (HB2.out.trans (hb.mono HB2.out.size))
  clear hb CN HB2
  go_wp2_with fail
  refine (FI.out _).mono ?_
  rintro e w4 ⟨rfl, hb⟩
  have HB4 := Lib.hid (HB3.out.trans (hb.mono HB3.out.size))
  clear hb FI HB3
  go_wp2_with fail
  refine (WO.out _).mono ?_
  rintro e w5 ⟨rfl, hb⟩
  have HB5 := Lib.hid (HB4.out.trans (hb.mono HB4.out.size))
  clear hb WO HB4
  go_wp2_with fail
  go_ret2
  exact ⟨rfl, HB5.out⟩
end Go.Proofs.YtjkhgljlipljdaaDoor
