/-
  What each call of the program's unquoted and Unquote returns. Conditions: what the variables of the library hold (Good), and the sizes that each lemma states.
-/
import Derived.Test.YtdkflmpdelfgoaaDoorLexK
namespace Go.Proofs.YtdkflmpdelfgoaaDoor
open Go.RowKit

def UOut (o : Option (Bs × Nat)) (e : Ending) : Prop := (∃ (b : Bs) (n : Nat), o = some (b, n) ∧ e = .returned (.tuple #[.string ⟨b.toArray⟩, .int .i64 (n : Int), .bool true])) ∨ (o = none ∧ e = .returned (.tuple #[.string ⟨#[]⟩, .int .i64 0, .bool false]))
theorem quotesB_of {t : Bs} : quotesB (34 :: t) = (unq t).map fun x => (x.1, x.2 + 1) := by simp [quotesB]
theorem map_map {o : Option (Bs × Nat)} {b c : Bs} {k n : Nat} : (o.map fun x => (c ++ x.1, n + x.2)).map (fun x => (b ++ x.1, k + x.2)) = o.map fun x => ((b ++ c) ++ x.1, (k + n) + x.2) := by
  cases o with
  | none => rfl
  | some x => simp [Nat.add_assoc]
theorem below_grown {W W' : World} (h : Below W.heap.size W W') : W.grownBy W' none := ⟨h.os, h.tape, h.output, h.size, fun k hk _ => h.block k hk⟩
theorem bld_keep {B b : Nat} {l : Bs} {w w' : World} (h : Bld B b l w) (hb : Below w.heap.size w w') : Bld B b l w' := by
  have key : ∀ p, Lib.BuilderAtF 72 5 B b p (Lib.byteCells l) w → Lib.BuilderAtF 72 5 B b p (Lib.byteCells l) w' := by
    rintro p ⟨hB, v, hbk, hown, hne⟩
    exact ⟨hB, v, (hb.block b (heap_lt hbk)).trans hbk, hown.kept (row := none) (below_grown hb) (by cases hv : v.ownBlock <;> simp), hne⟩
  exact h.elim (fun x => .inl (key _ x)) (fun x => .inr (key _ x))
end Go.Proofs.YtdkflmpdelfgoaaDoor
