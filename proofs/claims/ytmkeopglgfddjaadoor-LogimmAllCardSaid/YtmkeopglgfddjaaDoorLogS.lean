/-
  The iterator over the sizes of elements, from a width down: what it tells, for any loop body. No conditions beyond those that each lemma states.
-/
import Derived.Test.YtmkeopglgfddjaaDoorLogV
import Derived.RangeFuncNested
import Derived.RangeFuncBound
import Derived.RangeFuncCalls
import Derived.RangeFuncLeaves
import Derived.Shelf.Abstract
import Derived.Shelf.RegionOpen
import Derived.OwnWalkIn
import Derived.TacticsInMore
import Derived.LoopNIn
import Derived.LoopIn
namespace Go.Proofs.YtmkeopglgfddjaaDoor
open Go.RowKit Go.Shelf BM
attribute [local go_sem] Oper.semAt_some

/-- a size and its halves, down to 2 -/
def halvesF : Nat → Nat → List Nat
  | 0, _ => []
  | f + 1, s => if s < 2 then [] else s :: halvesF f (s / 2)
def halves (s : Nat) : List Nat := halvesF 7 s
theorem halves_step {s : Nat} (h : IsSize s) : halves s = s :: halves (s / 2) := by
  rcases h with rfl | rfl | rfl | rfl | rfl | rfl <;> decide
theorem half_size {s : Nat} (h : IsSize s) : IsSize (s / 2) ∨ s / 2 = 1 := by
  unfold IsSize at *; omega
theorem halves_mem {s W : Nat} (hW : IsW W) : s ∈ halves W ↔ IsSize s ∧ s ≤ W := by
  unfold IsSize
  rcases hW with rfl | rfl
  · rw [show halves 32 = [32, 16, 8, 4, 2] by decide]; simp; omega
  · rw [show halves 64 = [64, 32, 16, 8, 4, 2] by decide]; simp; omega
theorem halves_len {W : Nat} (hW : IsW W) : (halves W).length ≤ 6 := by
  rcases hW with rfl | rfl <;> decide

/-- a size within a width -/
abbrev Siz (W : Nat) := { s : Nat // IsSize s ∧ s ≤ W }
def sz {W : Nat} (x : Siz W) : Nat := x.1
def encS {W : Nat} (x : Siz W) : Array Value := #[.int .i64 (x.1 : Int)]

set_option maxHeartbeats 400000 in
theorem sizes_any (W : Nat) (w : World) :
    Calls Tryd.prog 31 #[.int .i64 (W : Int)] w fun e w' => e = .returned (.func (.func 36) #[] #[.pointer (some ⟨w.heap.size, 0, none⟩)]) ∧ w' = w.alloc (.cells #[.int .i64 (W : Int)] 3) := by
  go_enter Tryd.func31, Tryd.ntmps31
  go_wp2
  go_ret
  exact ⟨rfl, rfl⟩

set_option maxRecDepth 100000 in
set_option maxHeartbeats 1000000 in
theorem sizes_stops {Kp : World → World → Prop} (n B W : Nat) (w : World) (hW : IsW W) (hB : B < w.heap.size) (hc : w.cell? ⟨B, 0, none⟩ = some (.int .i64 (W : Int))) :
    SeqStopsK Fence.wide n Tryd.prog 36 #[.pointer (some ⟨B, 0, none⟩)] (encS (W := W)) Kp (fun xs => xs.map sz = halves W) (fun pre => pre.map sz <+: halves W) 6 w := fun l J Jx V hV hJ hJx hY h0 => by
  have hcV : V.cell? ⟨B, 0, none⟩ = some (.int .i64 (W : Int)) := (hV.cell (p := ⟨B, 0, none⟩) hB).trans hc
  have hlen := halves_len hW
  refine callsIn_of_wp Tryd.func36 rfl trivial ?_ rfl
  simp only [Tryd.ntmps36, List.size_toArray, List.length_cons, List.length_nil, Nat.reduceAdd, Nat.reduceSub, Array.replicate_succ, Array.replicate_zero, List.push_toArray, List.append_toArray, List.nil_append, List.cons_append]
  gi_wp2
  gi_loopw [3] (fun p wr => ∃ (pre : List (Siz W)) (s : Nat), p = .int .i64 (s : Int) ∧ s ≤ W ∧ (IsSize s ∨ s = 1) ∧ halves W = pre.map sz ++ halves s ∧ J pre wr)
    (fun p _ => (intOf p).toNat)
  case atStart => exact ⟨[], W, rfl, Nat.le_refl _, .inl (by unfold IsSize; unfold IsW at hW; omega), rfl, h0⟩
  case round =>
    obtain ⟨pre, s, rfl, hsW, hs, hp, hJs⟩ := hrel
    by_cases hz : s = 1
    · subst hz
      have e1 : halves 1 = [] := by decide
      rw [e1, List.append_nil] at hp
      have P := Lib.hid hp
      clear hp
      gi_wp2
      go_end0
      exact ⟨⟨_, rfl⟩, .inl ⟨pre, P.out.symm, hJs⟩⟩
    · have hs' : IsSize s := by rcases hs with h | h; · exact h
                                · exact absurd h hz
      have hb := size_bd hs'
      have hl2 : pre.length < 6 := by
        rw [hp, halves_step hs', List.length_append, List.length_map, List.length_cons] at hlen; omega
      have P := Lib.hid hp
      have HS := Lib.hid hs'
      obtain ⟨fn, tmps, assign, body, hy1, hR⟩ := hY pre ⟨s, HS.out, hsW⟩ wr hJs hl2
      dsimp only [encS] at hy1
      have h2 : (2 : Int) ≤ (s : Int) := by omega
      have HZ := Lib.hid hz
      clear hp hs hs' hz
      gi_wp2
      refine ⟨fun h => absurd h (by decide), ?_⟩
      refine hR.mono ?_
      rintro e W3 (⟨rfl, hJ3, hk3⟩ | ⟨rfl, hJx3⟩)
      · have T1 : Int.tdiv (s : Int) 2 = ((s / 2 : Nat) : Int) := by rw [Int.tdiv_eq_ediv_of_nonneg (by omega)]; rfl
        have s3 : IntKind.i64.wrap ((s / 2 : Nat) : Int) = ((s / 2 : Nat) : Int) := IntWalk.i64_in _ (by omega)
        gi_wp2
        go_roundw
        case rel => exact ⟨pre ++ [⟨s, HS.out, hsW⟩], s / 2, by first | rfl | simp, by omega, half_size HS.out, by rw [P.out, halves_step HS.out]; simp [sz], hJ3⟩
        case measure => simp [intOf]; omega
      · gi_wp2
        refine bodyPost_ret (results_none rfl _ _ _) rfl ?_
        exact ⟨⟨_, rfl⟩, .inr ⟨pre ++ [⟨s, HS.out, hsW⟩], ⟨halves (s / 2), by rw [P.out, halves_step HS.out]; simp [sz]⟩, hJx3⟩⟩
end Go.Proofs.YtmkeopglgfddjaaDoor
