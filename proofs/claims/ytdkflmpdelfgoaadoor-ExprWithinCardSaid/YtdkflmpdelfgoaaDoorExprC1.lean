/-
  caught, and Parse's deferred call: what each call returns. Conditions: none.
-/
import Derived.Test.YtdkflmpdelfgoaaDoorExprZ
import Derived.Recover
namespace Go.Proofs.YtdkflmpdelfgoaaDoor
open Go.RowKit Go.Shelf
set_option linter.unusedVariables false
set_option linter.unusedSimpArgs false
attribute [local go_sem] Oper.semAt_some

theorem assert_fault (x : Int) (V : World) : (Instr.typeAssert (.iface 114 (.agg #[.int .i64 x])) 20 114 true).run Tryd.prog V = .ok (.tuple #[.agg #[.int .i64 x], .bool true]) V := by
  show _ = _
  kernel_rfl
set_option maxRecDepth 100000 in
set_option maxHeartbeats 4000000 in
theorem caught_any (x : Int) (w : World) :
    Calls Tryd.prog 53 #[.iface 114 (.agg #[.int .i64 x])] w fun e w' => e = .returned (.int .i64 x) ∧ Below w.heap.size w w' := by
  have TA := assert_fault x
  go_enter Tryd.func53, Tryd.ntmps53
  go_wp2_with fail
  go_ret
  exact ⟨rfl, below1 w _⟩
/-- the three results' boxes -/
def Res3 (B : Nat) (v : Value) (n x : Int) (W : World) : Prop := W.heap[B]? = some (.cells #[v] 22 (0, 0)) ∧ W.heap[B + 1]? = some (.cells #[.int .i64 n] 3 (0, 0)) ∧ W.heap[B + 2]? = some (.cells #[.int .i64 x] 27 (0, 0))
theorem one_set {W : World} {B : Nat} {T : TypeId} {z : Nat × Nat} {a : Value} (h : W.heap[B]? = some (.cells #[a] T z)) (x : Value) : (W.setCell ⟨B, 0, none⟩ x).heap[B]? = some (.cells #[x] T z) := by
  simp only [World.setCell, Array.getElem?_modify, if_true, h, Option.map_some]; rfl
theorem cell1 {W : World} {B : Nat} {T : TypeId} {z : Nat × Nat} {a : Value} (h : W.heap[B]? = some (.cells #[a] T z)) : W.cell? ⟨B, 0, none⟩ = some a := by rw [Lib.cell_of_heap h]; rfl
theorem Res3.set {B : Nat} {v : Value} {n x : Int} {W : World} (h : Res3 B v n x W) (v' : Value) (n' x' : Int) : Res3 B v' n' x' (((W.setCell ⟨B, 0, none⟩ v').setCell ⟨B + 1, 0, none⟩ (.int .i64 n')).setCell ⟨B + 2, 0, none⟩ (.int .i64 x')) :=
  ⟨set_far (set_far (one_set h.1 _) (by omega)) (by omega), set_far (one_set (set_far h.2.1 (by omega)) _) (by omega), one_set (set_far (set_far h.2.2 (by omega)) (by omega)) _⟩
theorem Res3.thn {B : Nat} {v : Value} {n x : Int} {W W' : World} (h : Res3 B v n x W) {b : Nat} (hb : Below b W W') (hB : B + 2 < b) : Res3 B v n x W' :=
  ⟨(hb.block _ (by omega)).trans h.1, (hb.block _ (by omega)).trans h.2.1, (hb.block _ (by omega)).trans h.2.2⟩
set_option maxRecDepth 100000 in
set_option maxHeartbeats 4000000 in
theorem catch_panicking (B : Nat) (x : Int) (older : List PanicEntry) (w : World) (v : Value) (n y : Int) (h : Res3 B v n y w) :
    CallsD Tryd.prog 52 #[.pointer (some ⟨B, 0, none⟩), .pointer (some ⟨B + 1, 0, none⟩), .pointer (some ⟨B + 2, 0, none⟩)] (.panicking ({ v := .iface 114 (.agg #[.int .i64 x]), recovered := false } :: older)) w fun e u' w' =>
      e = .returned (.tuple #[]) ∧ u' = .panicking ({ v := .iface 114 (.agg #[.int .i64 x]), recovered := true } :: older) ∧ Res3 B (.slice none 0 0) 0 x w' ∧ Below B w w' := by
  have CG := Lib.hid (fun V => caught_any x V)
  have H := Lib.hid h
  clear h
  refine callsD_of_wpS Tryd.func52 rfl fun c₀ cs hu => ?_
  apply wpS_seq
  apply wpS_region
  simp [wpOpsS, go_sem, recoverD, hu, Tryd.ntmps52, Exit.thenS]
  refine (show Code.wpS _ _ _ ⟨#[.pointer (some ⟨B, 0, none⟩), .pointer (some ⟨B + 1, 0, none⟩), .pointer (some ⟨B + 2, 0, none⟩), .iface 114 (.agg #[.int .i64 x]), .iface 114 (.agg #[.int .i64 x]), undef, undef, undef, undef], []⟩ _ _ from ?_)
  refine wpS_of_wp ?_
  go_wp2_with fail
  refine (CG.out _).mono ?_
  rintro e w1 ⟨rfl, hb⟩
  have H1 := Lib.hid (H.out.thn hb (heap_lt H.out.2.2))
  have HB := Lib.hid (show Below B w w1 from hb.mono (by have := heap_lt H.out.2.2; omega))
  have c0 := cell1 H1.out.1
  have c1 := cell1 H1.out.2.1
  have c2 := cell1 H1.out.2.2
  have f0 := fz_of H1.out.1
  have f1 := fz_of H1.out.2.1
  have f2 := fz_of H1.out.2.2
  clear hb
  go_wp2_with fail
  simp [bodyPostS, results, Tryd.results52]
  exact ⟨H1.out.set _ _ _, ((HB.out.setCell (p := ⟨B, 0, none⟩) (Nat.le_refl _) _).setCell (p := ⟨B + 1, 0, none⟩) (by show B ≤ B + 1; omega) _).setCell (p := ⟨B + 2, 0, none⟩) (by show B ≤ B + 2; omega) _⟩
theorem catch_idle (a b c : Addr) (w : World) :
    CallsD Tryd.prog 52 #[.pointer (some a), .pointer (some b), .pointer (some c)] .returning w fun e u' w' => e = .returned (.tuple #[]) ∧ u' = .returning ∧ w' = w := by
  refine callsD_of_wpS Tryd.func52 rfl fun c₀ cs hu => ?_
  apply wpS_seq
  apply wpS_region
  simp [wpOpsS, go_sem, recoverD, hu, Tryd.ntmps52, Exit.thenS]
  refine (show Code.wpS _ _ _ ⟨#[.pointer (some a), .pointer (some b), .pointer (some c), .nilIface, .nilIface, undef, undef, undef, undef], []⟩ _ _ from ?_)
  refine wpS_of_wp ?_
  go_wp2_with fail
  cases c₀
  simp_all [bodyPostS, results, Tryd.results52]
end Go.Proofs.YtdkflmpdelfgoaaDoor
