/-
  The iterators over the tables of names: what each call of through does for any body of a loop that leaves tables' blocks alone. No conditions beyond those that each lemma states.
-/
import Derived.Test.YtefglodkcddgiaaDoorNamesF
import Derived.RangeFuncNested
import Derived.RangeFuncBound
import Derived.RangeFuncCalls
import Derived.RangeFuncLeaves
import Derived.Shelf.Abstract
import Derived.Shelf.RegionOpen
import Derived.OwnWalkIn
import Derived.TacticsInMore
import Derived.LoopNIn
import Derived.LoopIn
namespace Go.Proofs.YtefglodkcddgiaaDoor
open Go.RowKit Go.Shelf
attribute [local go_sem] Oper.semAt_some

theorem room_of_none {F : Fence} (hd : F.depth = none) (k : Nat) : F.room k := fun d h => by rw [hd] at h; cases h
theorem round_any {F : Fence} (hd : F.depth = none) {m m' : Nat} {P : Program} {l : Nat} {f : FuncId} {tmps : Array Value} {assign body : Code} {w : World} {R : Ending → World → Prop}
    (h : RoundIn F m P l f tmps assign body w R) : RoundIn F m' P l f tmps assign body w R := ⟨h.1, fun c cs _ => h.2 c cs (room_of_none hd _)⟩
theorem yield_any {F : Fence} (hd : F.depth = none) {m : Nat} (m' : Nat) {P : Program} {l : Nat} {args : Array Value} {W : World} {R : Ending → World → Prop} (h : YieldAt F m P l args W R) : YieldAt F m' P l args W R := by
  obtain ⟨fn, tmps, assign, body, hy, hR⟩ := h
  exact ⟨fn, tmps, assign, body, hy, round_any hd hR⟩
theorem below_grown {W W' : World} (h : Below W.heap.size W W') : W.grownBy W' none := ⟨h.os, h.tape, h.output, h.size, fun k hk _ => h.block k hk⟩

/-- the types of the arrays in which the tables lie -/
def isTab (t : TypeId) : Bool := [76, 79, 80, 81, 82, 83].contains t
/-- a table's block stays as it is -/
def KeepsTabs (A B : World) : Prop := ∀ (b : Nat) c t z, isTab t = true → A.heap[b]? = some (.cells c t z) → B.heap[b]? = some (.cells c t z)
def Kt (n : Nat) (A B : World) : Prop := Below n A B ∧ KeepsTabs A B
theorem Kt.trans {n : Nat} {A B C : World} (h : Kt n A B) (k : Kt n B C) : Kt n A C := ⟨h.1.trans k.1, fun b c t z ht hb => k.2 b c t z ht (h.2 b c t z ht hb)⟩
theorem tabs_refl (A : World) : KeepsTabs A A := fun _ _ _ _ _ h => h
theorem tabs_below {A B : World} (h : Below A.heap.size A B) : KeepsTabs A B := fun b _ _ _ _ hb => (h.block b (Array.getElem?_eq_some_iff.1 hb).1).trans hb
theorem tabs_set {A : World} {b : Nat} {o : Nat} {c : Array Value} {t : TypeId} {z : Nat × Nat} (h : A.heap[b]? = some (.cells c t z)) (ht : isTab t = false) (v : Value) : KeepsTabs A (A.setCell ⟨b, o, none⟩ v) := by
  intro b' c' t' z' ht' hb'
  by_cases e : b' = b
  · subst e
    rw [h] at hb'
    injection hb' with hb'
    injection hb' with _ h2 _
    subst h2
    rw [ht] at ht'; cases ht'
  · rw [show (A.setCell ⟨b, o, none⟩ v).heap[b']? = A.heap[b']? from ?_]
    · exact hb'
    · exact Below.heap_setCell _ _ _ _ e
theorem tabs_put {A : World} {l : Nat} {o o' : Obj} (h : A.heap[l]? = some o) (ho : o.isCells = false) : KeepsTabs A (A.putObj l o') := by
  intro b c t z _ hb
  by_cases e : b = l
  · subst e; rw [h] at hb; injection hb with hb; subst hb; cases ho
  · exact (World.putObj_heap_other e).trans hb
theorem kt_b {n : Nat} {w0 : World} (hn : n ≤ w0.heap.size) : ∀ (W : World) (l : Nat) (o o' : Obj), w0.heap.size ≤ l → W.heap[l]? = some o → o.isCells = false → o.isWalk = false → Kt n W (W.putObj l o') :=
  fun W l o o' hl ho hc hw => ⟨belowK_b (w := w0) hn W l o o' hl ho hc hw, tabs_put ho hc⟩

def encR (x : NRow) : Array Value := #[.string ⟨x.1.toArray⟩, .int .i64 (x.2 : Int)]
/-- the cells of a table -/
def rowsC (T : List NRow) : List Value := T.flatMap fun x => [.string ⟨x.1.toArray⟩, .int .i64 (x.2 : Int)]
theorem rowsC_at : ∀ (T : List NRow) (k : Nat) (x : NRow), T[k]? = some x → (rowsC T)[k * 2]? = some (.string ⟨x.1.toArray⟩) ∧ (rowsC T)[k * 2 + 1]? = some (.int .i64 (x.2 : Int))
  | [], k, x, h => by simp at h
  | y :: T, 0, x, h => by simp at h; subst h; exact ⟨rfl, rfl⟩
  | y :: T, k + 1, x, h => by
    have := rowsC_at T k x (by simpa using h)
    rw [show (k + 1) * 2 = k * 2 + 1 + 1 by omega]
    exact this
theorem rowsC_len : ∀ T : List NRow, (rowsC T).length = 2 * T.length
  | [] => rfl
  | _ :: T => by have := rowsC_len T; simp only [rowsC, List.flatMap_cons, List.length_append, List.length_cons, List.length_nil] at *; omega

set_option maxRecDepth 100000 in
set_option maxHeartbeats 2000000 in
theorem through_in (n m l Bt cap n₀ B0 : Nat) (tt : TypeId) (T : List NRow) (J Jx : List NRow → World → Prop) (W : World) (hT : T.length ≤ 100) (htt : isTab tt = true)
    (hbt : W.heap[Bt]? = some (.cells (rowsC T).toArray tt (0, 0))) (hJ : AbidesFrom B0 J) (h0 : J [] W)
    (hY : ∀ pre x W1, J pre W1 → pre.length < T.length → YieldAt Fence.wide m Tryd.prog l (encR x) W1 fun e W' =>
      (e = .returned (.bool true) ∧ J (pre ++ [x]) W' ∧ Kt n₀ W1 W') ∨ (e = .returned (.bool false) ∧ Jx (pre ++ [x]) W')) :
    CallsIn Fence.wide n Tryd.prog 56 #[.slice (some ⟨Bt, 0, none⟩) T.length cap, .func (.yield l) #[] #[]] W fun e W' => (∃ v, e = .returned v) ∧ (J T W' ∨ ∃ pre, pre <+: T ∧ Jx pre W') := by
  refine callsIn_of_wp Tryd.func56 rfl trivial ?_ rfl
  simp only [Tryd.ntmps56, List.size_toArray, List.length_cons, List.length_nil, Nat.reduceAdd, Nat.reduceSub, Array.replicate_succ, Array.replicate_zero, List.push_toArray, List.append_toArray, List.nil_append, List.cons_append]
  gi_wp2
  gi_loopw [8] (fun p wr => ∃ k : Nat, p = .int .i64 (k : Int) ∧ k ≤ T.length ∧ J (T.take k) wr ∧ wr.heap[Bt]? = some (.cells (rowsC T).toArray tt (0, 0)))
    (fun p _ => T.length - (intOf p).toNat)
  case atStart => exact ⟨0, rfl, Nat.zero_le _, h0, hbt⟩
  case round =>
    obtain ⟨k, rfl, hk, hJs, hbr⟩ := hrel
    by_cases hlt : k < T.length
    · obtain ⟨x, hx⟩ : ∃ x, T[k]? = some x := ⟨_, List.getElem?_eq_getElem hlt⟩
      obtain ⟨c1, c2⟩ := rowsC_at T k x hx
      have hcell : ∀ (j : Nat) v, (rowsC T)[j]? = some v → wr.cell? ⟨Bt, j, none⟩ = some v := fun j v hj => by
        unfold World.cell?
        simp only [hbr]
        simpa using hj
      have d1 := hcell _ _ c1
      have d2 := hcell _ _ c2
      have hJ2 : J (T.take k) (wr.alloc (.cells #[.string ⟨x.1.toArray⟩, .int .i64 (x.2 : Int)] 75)) := hJ _ wr _ none hJs (below_grown ((Below.refl _ wr).alloc (Nat.le_refl _) _)) (fun r e => by cases e)
      have hl : (T.take k).length < T.length := by rw [List.length_take]; omega
      have w9 : IntKind.i64.wrap ((k : Int) + 1) = ((k + 1 : Nat) : Int) := by rw [IntWalk.i64_in _ (by omega)]; omega
      have hT1 : T.take (k + 1) = T.take k ++ [x] := by
        have := List.take_add_one (l := T) (i := k); rw [hx] at this; exact this
      obtain ⟨fn, tmps, assign, body, hy1, hR⟩ := yield_any (F := Fence.wide) rfl (n - 1) (hY (T.take k) x _ hJ2 hl)
      dsimp only [encR] at hy1
      have HT := Lib.hid hT1
      clear hT1 hcell c1 c2
      gi_wp2
      refine ⟨fun h => absurd h (by decide), ?_⟩
      refine hR.mono ?_
      rintro e W3 (⟨rfl, hJ3, hk3⟩ | ⟨rfl, hJx3⟩)
      · have hb3 := hk3.2 Bt _ _ _ htt ((Below.heap_alloc _ _ _ (Array.getElem?_eq_some_iff.1 hbr).1).trans hbr)
        gi_wp2
        go_roundw
        case rel => exact ⟨k + 1, by first | rfl | rw [← w9], by omega, by rw [HT.out]; exact hJ3, hb3⟩
        case measure => simp [intOf]; omega
      · gi_wp2
        refine bodyPost_ret (results_none rfl _ _ _) rfl ?_
        exact ⟨⟨_, rfl⟩, .inr ⟨_, by rw [← HT.out]; exact List.take_prefix _ _, hJx3⟩⟩
    · have hk2 := Lib.hid (show k = T.length by omega)
      have hge : ¬ (k : Int) < T.length := by omega
      gi_wp2
      go_end0
      exact ⟨⟨_, rfl⟩, .inl (by rw [hk2.out, List.take_length] at hJs; exact hJs)⟩

/-- what an iterator over a kind's names does -/
def Tells (g : Nat) (T : List NRow) : Prop := ∀ (n n₀ : Nat) (w : World), n₀ ≤ w.heap.size →
  SeqStopsK Fence.wide n Tryd.prog g #[] encR (Kt n₀) (fun xs => xs = T) (fun pre => pre <+: T) T.length w
theorem none_tells : Tells 49 [] := fun n n₀ w hn => fun l J Jx V hV hJ hJx hY h0 => by
  refine callsIn_of_wp Tryd.func49 rfl trivial ?_ rfl
  simp only [Tryd.ntmps49, List.size_toArray, List.length_cons, List.length_nil, Nat.reduceAdd, Nat.reduceSub, Array.replicate_succ, Array.replicate_zero, List.push_toArray, List.append_toArray, List.nil_append, List.cons_append]
  gi_wp2
  go_end0
  exact ⟨⟨_, rfl⟩, .inl ⟨[], rfl, h0⟩⟩
end Go.Proofs.YtefglodkcddgiaaDoor
