/-
  What each call of the program's summed returns. Conditions: how the symbols lie.
-/
import Derived.Test.YtjkhgljlipljdaaDoorFixH
namespace Go.Proofs.YtjkhgljlipljdaaDoor
open Go.RowKit
set_option linter.unusedVariables false
set_option linter.unusedSimpArgs false

def sm0 : Sm := ⟨0, pt0, pt0⟩
def sumO (a : Int) (x y : Option Pt) : Option Sm := match x, y with
  | some P, some M => some (reck ⟨a, P, M⟩)
  | _, _ => none
def sumF (o : Option Sm) : Sm := o.getD sm0
def sumE (o : Option Sm) : Int := if o.isSome = true then 0 else 4
def spV (sec off : Int) (sv : Value) : Value := .agg #[.int .i64 sec, .int .i64 off, sv]
theorem kept_v {w w1 : World} {b : Nat} {o : Obj} (hb : Below w.heap.size w w1) (g : w.heap[b]? = some o) : w1.heap[b]? = some o := (hb.block _ (heap_lt g)).trans g
set_option maxHeartbeats 4000000 in
theorem summed_none (spv sv : Value) (a : Int) (p m : BA) (w : World) (y : Option Pt)
    (F1 : Hid (∀ W, Below w.heap.size w W → Calls Tryd.prog 39 #[spv, .string p] W fun e w' => e = .returned (.tuple #[ptV pt0, .int .i64 4]) ∧ Below W.heap.size W w'))
    (F2 : Hid (∀ W, Below w.heap.size w W → Calls Tryd.prog 39 #[spv, .string m] W fun e w' => e = .returned (.tuple #[ptV (foundP y), .int .i64 (foundE y)]) ∧ Below W.heap.size W w')) :
    Calls Tryd.prog 38 #[.agg #[.int .i64 a, .string p, .string m], .func (.func 39) #[spv] #[]] w fun e w' =>
      e = .returned (.tuple #[smV sm0, .int .i64 4]) ∧ Below w.heap.size w w' := by
  have HB0 := Lib.hid (below2 w (.cells #[.int .i64 a, .string p, .string m] 23) (.cells #[.int .i64 0, .bool false, .int .i64 0, .int .i64 0, .int .i64 0, .bool false, .int .i64 0, .int .i64 0, .int .i64 0] 82))
  unfold ptV at F1
  try unfold pt0 at F1
  try unfold pt0 at F2
  unfold smV
  try unfold sm0 pt0
  simp only at *
  go_enter Tryd.func38, Tryd.ntmps38
  go_wp2_with fail
  refine (F1.out _ HB0.out).mono ?_
  rintro e w1 ⟨rfl, hb1⟩
  obtain ⟨g1, g2, hbw, hz⟩ := kept2 hb1
  have k1 := below1 w1 (.cells #[.bool false, .int .i64 0, .int .i64 0, .int .i64 0] 80)
  have G1 := Lib.hid ((k1.block _ (heap_lt g1)).trans g1)
  have G2 := Lib.hid ((k1.block _ (heap_lt g2)).trans g2)
  have G3 := Lib.hid (heap_alloc_new w1 (.cells #[.bool false, .int .i64 0, .int .i64 0, .int .i64 0] 80))
  have HB := Lib.hid (Below.thn hbw hbw.size k1)
  go_upto_region 2 with fail
  generalize (w1.alloc (.cells #[.bool false, .int .i64 0, .int .i64 0, .int .i64 0] 80)) = Vw1 at *
  obtain ⟨f0, d0, d1, d2, d3, d4, d5, d6, d7, d8⟩ := nine G2.out
  clear hb1 g1 g2 hbw hz k1
  go_wp2_with fail
  try simp only [Exit.inBlock, Exit.then]
  refine bodyPost_ret (by simp [results, Tryd.results38, go_sem, d0, d1, d2, d3, d4, d5, d6, d7, d8]; try rfl) rfl ?_
  refine ⟨rfl, ?_⟩
  have hw := HB.out
  iterate 9 (refine Below.setCell ?_ (by dsimp only; omega) _)
  exact hw
set_option maxHeartbeats 4000000 in
theorem summed_some (spv sv : Value) (a : Int) (p m : BA) (w : World) (P : Pt)
    (F1 : Hid (∀ W, Below w.heap.size w W → Calls Tryd.prog 39 #[spv, .string p] W fun e w' => e = .returned (.tuple #[ptV P, .int .i64 0]) ∧ Below W.heap.size W w'))
    (F2 : Hid (∀ W, Below w.heap.size w W → Calls Tryd.prog 39 #[spv, .string m] W fun e w' => e = .returned (.tuple #[ptV pt0, .int .i64 4]) ∧ Below W.heap.size W w')) :
    Calls Tryd.prog 38 #[.agg #[.int .i64 a, .string p, .string m], .func (.func 39) #[spv] #[]] w fun e w' =>
      e = .returned (.tuple #[smV sm0, .int .i64 4]) ∧ Below w.heap.size w w' := by
  have HB0 := Lib.hid (below2 w (.cells #[.int .i64 a, .string p, .string m] 23) (.cells #[.int .i64 0, .bool false, .int .i64 0, .int .i64 0, .int .i64 0, .bool false, .int .i64 0, .int .i64 0, .int .i64 0] 82))
  unfold ptV at F1 F2
  try unfold pt0 at F1
  try unfold pt0 at F2
  unfold smV
  try unfold sm0 pt0
  simp only at *
  go_enter Tryd.func38, Tryd.ntmps38
  go_wp2_with fail
  refine (F1.out _ HB0.out).mono ?_
  rintro e w1 ⟨rfl, hb1⟩
  obtain ⟨g1, g2, hbw, hz⟩ := kept2 hb1
  have k1 := below1 w1 (.cells #[.bool P.is, .int .i64 P.sec, .int .i64 P.val, .int .i64 P.num] 80)
  have G1 := Lib.hid ((k1.block _ (heap_lt g1)).trans g1)
  have G2 := Lib.hid ((k1.block _ (heap_lt g2)).trans g2)
  have G3 := Lib.hid (heap_alloc_new w1 (.cells #[.bool P.is, .int .i64 P.sec, .int .i64 P.val, .int .i64 P.num] 80))
  have HB := Lib.hid (Below.thn hbw hbw.size k1)
  go_upto_region 2 with fail
  generalize (w1.alloc (.cells #[.bool P.is, .int .i64 P.sec, .int .i64 P.val, .int .i64 P.num] 80)) = Vw1 at *
  obtain ⟨_, c0, c1, c2⟩ := three G1.out
  have HBA := Lib.hid HB.out
  clear hb1 g1 g2 hbw hz k1
  go_wp2_with fail
  refine (F2.out _ HBA.out).mono ?_
  rintro e w2 ⟨rfl, hb2⟩
  have g1 := kept_v hb2 G1.out
  have g2 := kept_v hb2 G2.out
  have g3 := kept_v hb2 G3.out
  have hbw := Below.thn HBA.out HBA.out.size hb2
  clear c0 c1 c2
  have k1 := below1 w2 (.cells #[.bool false, .int .i64 0, .int .i64 0, .int .i64 0] 80)
  have G1 := Lib.hid ((k1.block _ (heap_lt g1)).trans g1)
  have G2 := Lib.hid ((k1.block _ (heap_lt g2)).trans g2)
  have G4 := Lib.hid (heap_alloc_new w2 (.cells #[.bool false, .int .i64 0, .int .i64 0, .int .i64 0] 80))
  have HB := Lib.hid (Below.thn hbw hbw.size k1)
  have G3 := Lib.hid ((k1.block _ (heap_lt g3)).trans g3)
  go_upto_region 5 with fail
  generalize (w2.alloc (.cells #[.bool false, .int .i64 0, .int .i64 0, .int .i64 0] 80)) = Vw2 at *
  obtain ⟨f0, d0, d1, d2, d3, d4, d5, d6, d7, d8⟩ := nine G2.out
  clear hb2 g1 g2 g3 hbw k1
  go_wp2_with fail
  try simp only [Exit.inBlock, Exit.then]
  refine bodyPost_ret (by simp [results, Tryd.results38, go_sem, d0, d1, d2, d3, d4, d5, d6, d7, d8]; try rfl) rfl ?_
  refine ⟨rfl, ?_⟩
  have hw := HB.out
  iterate 9 (refine Below.setCell ?_ (by dsimp only; omega) _)
  exact hw
set_option maxHeartbeats 4000000 in
theorem summed_both (spv sv : Value) (a : Int) (p m : BA) (w : World) (P M : Pt)
    (F1 : Hid (∀ W, Below w.heap.size w W → Calls Tryd.prog 39 #[spv, .string p] W fun e w' => e = .returned (.tuple #[ptV P, .int .i64 0]) ∧ Below W.heap.size W w'))
    (F2 : Hid (∀ W, Below w.heap.size w W → Calls Tryd.prog 39 #[spv, .string m] W fun e w' => e = .returned (.tuple #[ptV M, .int .i64 0]) ∧ Below W.heap.size W w')) :
    Calls Tryd.prog 38 #[.agg #[.int .i64 a, .string p, .string m], .func (.func 39) #[spv] #[]] w fun e w' =>
      e = .returned (.tuple #[smV (reck ⟨a, P, M⟩), .int .i64 0]) ∧ Below w.heap.size w w' := by
  have HB0 := Lib.hid (below2 w (.cells #[.int .i64 a, .string p, .string m] 23) (.cells #[.int .i64 0, .bool false, .int .i64 0, .int .i64 0, .int .i64 0, .bool false, .int .i64 0, .int .i64 0, .int .i64 0] 82))
  have RK := Lib.hid (fun W => reckoned_any ⟨a, P, M⟩ W)
  generalize reck ⟨a, P, M⟩ = R at *
  unfold smV at RK
  unfold ptV at F1 F2
  try unfold pt0 at F1
  try unfold pt0 at F2
  unfold smV
  try unfold sm0 pt0
  simp only at *
  go_enter Tryd.func38, Tryd.ntmps38
  go_wp2_with fail
  refine (F1.out _ HB0.out).mono ?_
  rintro e w1 ⟨rfl, hb1⟩
  obtain ⟨g1, g2, hbw, hz⟩ := kept2 hb1
  have k1 := below1 w1 (.cells #[.bool P.is, .int .i64 P.sec, .int .i64 P.val, .int .i64 P.num] 80)
  have G1 := Lib.hid ((k1.block _ (heap_lt g1)).trans g1)
  have G2 := Lib.hid ((k1.block _ (heap_lt g2)).trans g2)
  have G3 := Lib.hid (heap_alloc_new w1 (.cells #[.bool P.is, .int .i64 P.sec, .int .i64 P.val, .int .i64 P.num] 80))
  have HB := Lib.hid (Below.thn hbw hbw.size k1)
  go_upto_region 2 with fail
  generalize (w1.alloc (.cells #[.bool P.is, .int .i64 P.sec, .int .i64 P.val, .int .i64 P.num] 80)) = Vw1 at *
  obtain ⟨_, c0, c1, c2⟩ := three G1.out
  have HBA := Lib.hid HB.out
  clear hb1 g1 g2 hbw hz k1
  go_wp2_with fail
  refine (F2.out _ HBA.out).mono ?_
  rintro e w2 ⟨rfl, hb2⟩
  have g1 := kept_v hb2 G1.out
  have g2 := kept_v hb2 G2.out
  have g3 := kept_v hb2 G3.out
  have hbw := Below.thn HBA.out HBA.out.size hb2
  clear c0 c1 c2
  have k1 := below1 w2 (.cells #[.bool M.is, .int .i64 M.sec, .int .i64 M.val, .int .i64 M.num] 80)
  have G1 := Lib.hid ((k1.block _ (heap_lt g1)).trans g1)
  have G2 := Lib.hid ((k1.block _ (heap_lt g2)).trans g2)
  have G4 := Lib.hid (heap_alloc_new w2 (.cells #[.bool M.is, .int .i64 M.sec, .int .i64 M.val, .int .i64 M.num] 80))
  have HB := Lib.hid (Below.thn hbw hbw.size k1)
  have G3 := Lib.hid ((k1.block _ (heap_lt g3)).trans g3)
  go_upto_region 5 with fail
  generalize (w2.alloc (.cells #[.bool M.is, .int .i64 M.sec, .int .i64 M.val, .int .i64 M.num] 80)) = Vw2 at *
  obtain ⟨f0, d0, d1, d2, d3, d4, d5, d6, d7, d8⟩ := nine G2.out
  obtain ⟨_, c0, c1, c2⟩ := three G1.out
  obtain ⟨_, p0, p1, p2, p3⟩ := four G3.out
  obtain ⟨_, m0, m1, m2, m3⟩ := four G4.out
  clear hb2 g1 g2 g3 hbw k1
  go_wp2_with fail
  refine (RK.out _).mono ?_
  rintro e w3 ⟨rfl, hb3⟩
  have g2 := kept_v hb3 G2.out
  have HB := Lib.hid (Below.thn HB.out HB.out.size hb3)
  clear f0 d0 d1 d2 d3 d4 d5 d6 d7 d8
  obtain ⟨f0, d0, d1, d2, d3, d4, d5, d6, d7, d8⟩ := nine g2
  clear hb3 g2
  go_wp2_with fail
  try simp only [Exit.inBlock, Exit.then]
  refine bodyPost_ret (by simp [results, Tryd.results38, go_sem, d0, d1, d2, d3, d4, d5, d6, d7, d8]; try rfl) rfl ?_
  refine ⟨rfl, ?_⟩
  have hw := HB.out
  iterate 9 (refine Below.setCell ?_ (by dsimp only; omega) _)
  exact hw
theorem summed_any (sec off : Int) (sv : Value) (L : List Sy) (a : Int) (p m : BA) (w : World) (hS : SymsO w sv L) :
    Calls Tryd.prog 38 #[.agg #[.int .i64 a, .string p, .string m], .func (.func 39) #[spV sec off sv] #[]] w fun e w' =>
      e = .returned (.tuple #[smV (sumF (sumO a (findP sec off L p) (findP sec off L m))), .int .i64 (sumE (sumO a (findP sec off L p) (findP sec off L m)))]) ∧ Below w.heap.size w w' := by
  have F1 := Lib.hid (fun W (hb : Below w.heap.size w W) => find_any sec off sv L p W (hS.keep hb))
  have F2 := Lib.hid (fun W (hb : Below w.heap.size w W) => find_any sec off sv L m W (hS.keep hb))
  generalize findP sec off L p = x at *
  generalize findP sec off L m = y at *
  cases x with
  | none =>
    have e0 : sumO a none y = none := by cases y <;> rfl
    rw [e0]
    exact summed_none (spV sec off sv) sv a p m w y F1 F2
  | some P =>
    cases y with
    | none => exact summed_some (spV sec off sv) sv a p m w P F1 F2
    | some M => exact summed_both (spV sec off sv) sv a p m w P M F1 F2
end Go.Proofs.YtjkhgljlipljdaaDoor
