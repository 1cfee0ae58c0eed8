/-
  What TrailingZeros64 returns, and what the iterator over the places of ones tells, for any loop body that leaves what lay there as it was.
-/
import Derived.Test.YtfpaambihjijoaaDoorRunsMath
import Derived.Test.YtfpaambihjijoaaDoorBitsE
import Derived.Test.YtfpaambihjijoaaDoorBitsCount
import Derived.Shelf.Spec.TrailingZeros
import Derived.RangeFuncNested
import Derived.RangeFuncBound
import Derived.RangeFuncCalls
import Derived.RangeFuncLeaves
import Derived.Shelf.Abstract
import Derived.Shelf.RegionOpen
import Derived.OwnWalkIn
import Derived.TacticsInMore
import Derived.LoopNIn
import Derived.LoopIn
namespace Go.Proofs.YtfpaambihjijoaaDoor
open Go.RowKit Go.Shelf BM
attribute [local go_sem] Oper.semAt_some

def encK (k : Fin 64) : Array Value := #[.int .i64 (k.1 : Int)]
theorem less_one {y : Nat} (h0 : y ≠ 0) (hy : y < 18446744073709551616) : bits .and .u64 (y : Int) ((y : Int) - 1) = ((y &&& (y - 1) : Nat) : Int) := by
  rw [show (y : Int) - 1 = ((y - 1 : Nat) : Int) by omega]
  exact u64_and_nat y (y - 1) hy (by omega)
set_option maxRecDepth 100000 in
set_option maxHeartbeats 1000000 in
/-- the places of the ones, one after the other -/
theorem places_stops {Kp : World → World → Prop} {T : World → Prop} (hT1 : ∀ W, T W → Tab W) (hT2 : ∀ A B, T A → Kp A B → T B) (n B x : Nat) (w : World) (hx : x < 18446744073709551616) (hB : B < w.heap.size) (hc : w.cell? ⟨B, 0, none⟩ = some (.int .u64 x)) (hT : ∀ W, Below w.heap.size w W → T W) :
    SeqStopsK Fence.wide n Tryd.prog 31 #[.pointer (some ⟨B, 0, none⟩)] encK Kp (fun xs => xs.map (·.1) = posOf x) (fun _ => True) 64 w := fun l J Jx W hW hJ hJx hY h0 => by
  have hcW : W.cell? ⟨B, 0, none⟩ = some (.int .u64 x) := (hW.cell (p := ⟨B, 0, none⟩) hB).trans hc
  have hTW : T W := hT W hW
  refine callsIn_of_wp Tryd.func31 rfl trivial ?_ rfl
  simp only [Tryd.ntmps31, List.size_toArray, List.length_cons, List.length_nil, Nat.reduceAdd, Nat.reduceSub, Array.replicate_succ, Array.replicate_zero, List.push_toArray, List.append_toArray, List.nil_append, List.cons_append]
  gi_wp2
  gi_loopw [3] (fun p wr => ∃ (pre : List (Fin 64)) (y : Nat), p = .int .u64 y ∧ y < 18446744073709551616 ∧ posOf x = pre.map (·.1) ++ posOf y ∧ pre.length ≤ 64 ∧ J pre wr ∧ T wr)
    (fun p _ => (intOf p).toNat)
  case atStart => exact ⟨[], x, rfl, hx, rfl, by simp, h0, hTW⟩
  case round =>
    obtain ⟨pre, y, rfl, hy, hp, hlen, hJs, hbel⟩ := hrel
    by_cases hz : y = 0
    · subst hz
      gi_wp2
      go_end0
      exact ⟨⟨_, rfl⟩, .inl ⟨pre, by rw [hp, pos_zero]; simp, hJs⟩⟩
    · have e64 : 2 ^ 64 = 18446744073709551616 := by decide
      obtain ⟨hq, hk⟩ := pos_ctz hz (by omega)
      have hl : (posOf x).length ≤ 64 := by unfold posOf; exact Nat.le_trans (List.length_filter_le _ _) (by simp)
      rw [hp, hq, List.length_append, List.length_cons, List.length_map] at hl
      obtain ⟨fn, tmps, assign, body, hy1, hR⟩ := hY pre ⟨Lib.ctz 64 y, hk⟩ wr hJs (by omega)
      dsimp only [encK] at hy1
      have hne : ((y : Int) != 0) = true := by rw [bne_iff_ne]; omega
      have TW : Tab wr := hT1 wr hbel
      have tz := tz_any (y : Int) wr (by omega) (by omega) TW
      rw [Int.toNat_natCast] at tz
      have TZ := Lib.hid tz
      have P := Lib.hid hp
      have Q := Lib.hid hq
      clear tz hp hq e64 TW
      gi_wp2_with fail
      refine ⟨trivial, (fun h => absurd h (by decide)), ?_⟩
      refine (callsIn_wide.2 TZ.out).mono ?_
      rintro e w' ⟨rfl, rfl⟩
      gi_wp2
      refine ⟨fun h => absurd h (by decide), ?_⟩
      refine hR.mono ?_
      rintro e W3 (⟨rfl, hJ3, hk3⟩ | ⟨rfl, hJx3⟩)
      · have lo := Lib.hid (less_one hz hy)
        have lt := Lib.hid (left_lt hz)
        gi_wp2
        go_roundw
        case rel => exact ⟨pre ++ [⟨Lib.ctz 64 y, hk⟩], y &&& (y - 1), by rw [lo.out], by have := lt.out; omega, by rw [P.out, Q.out]; simp, by simp; omega, hJ3, hT2 _ _ hbel hk3⟩
        case measure => rw [lo.out]; have := lt.out; simp [intOf]; omega
      · gi_wp2
        refine bodyPost_ret (results_none rfl _ _ _) rfl ?_
        exact ⟨⟨_, rfl⟩, .inr ⟨pre ++ [⟨Lib.ctz 64 y, hk⟩], trivial, hJx3⟩⟩
end Go.Proofs.YtfpaambihjijoaaDoor
