/-
  A value that came in, opened: the lengths of its texts are among its weights. No program but its types.
-/
import Derived.Test.YtdkflmpdelfgoaaGreatDoorExprDoorZ
import Derived.Lib.SmallJoins
import Derived.ChangeMaps5
import Derived.SizedLaws
namespace Go.Proofs.YtdkflmpdelfgoaaGreatDoor
open Go.ChangeShapes Go.WideShapes Go.ChangeAt Go.RowKit
set_option linter.unusedVariables false
set_option linter.unusedSimpArgs false

theorem val_weights {H : Type} {n : Int} {p m : ByteArray} : p.data.toList.length ∈ (DataW.agg [.lit (.int .i64 n), .lit (.string p.data.toList), .lit (.string m.data.toList)] : DataW H).weights Tryz.prog 36 ∧ m.data.toList.length ∈ (DataW.agg [.lit (.int .i64 n), .lit (.string p.data.toList), .lit (.string m.data.toList)] : DataW H).weights Tryz.prog 36 := by
  constructor <;> simp [DataW.weights, Tryz.underlying36, DataW.weightsEach]
theorem val_sized {H : Type} {ts : List TypeId} {ds : List (DataW H)} (hsz : (DataW.weightsEach Tryz.prog ts ds).all (· ≤ reachBytes) = true) {j : Nat} {n : Int} {p m : ByteArray} (ht : ts[j]? = some 36) (hd : ds[j]? = some (.agg [.lit (.int .i64 n), .lit (.string p.data.toList), .lit (.string m.data.toList)])) : p.size ≤ 281474976710656 ∧ m.size ≤ 281474976710656 := by
  have h2 := reachBytes_lt
  have key : ∀ x, x ∈ DataW.weightsEach Tryz.prog ts ds → x ≤ 281474976710656 := fun x hx => by
    have := of_decide_eq_true (List.all_eq_true.1 hsz x hx)
    omega
  obtain ⟨a, b⟩ := val_weights (H := H) (n := n) (p := p) (m := m)
  exact ⟨key _ (DataW.weights_mem_each ht hd _ a), key _ (DataW.weights_mem_each ht hd _ b)⟩
theorem i64_wf {n : Int} (h : (Lit.int .i64 n).wf = true) : -9223372036854775808 ≤ n ∧ n ≤ 9223372036854775807 := by
  simp only [Lit.wf, IntKind.min, IntKind.max, IntKind.signed, IntKind.bits, Bool.and_eq_true, decide_eq_true_eq, if_true] at h
  omega
end Go.Proofs.YtdkflmpdelfgoaaGreatDoor
