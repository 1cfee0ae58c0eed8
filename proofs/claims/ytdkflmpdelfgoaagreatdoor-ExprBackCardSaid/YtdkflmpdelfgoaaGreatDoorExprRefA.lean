/-
  The document's clear, one, Neg, Add: what each call returns. Conditions: none.
-/
import Derived.Test.YtdkflmpdelfgoaaGreatDoorExprS
import Derived.Test.YtdkflmpdelfgoaaGreatDoorExprQ
namespace Go.Proofs.YtdkflmpdelfgoaaGreatDoor
open Go.RowKit Go.Shelf
set_option linter.unusedVariables false
attribute [local go_sem] Oper.semAt_some

def clearV (v : V3) : V3 := if v.2.1 = v.2.2 then (v.1, E0, E0) else v
def oneV (a b : BA) : BA × Bool := if a = E0 then (b, true) else (a, decide (b = E0))
/-- the document's sum, of values that are clear already: which symbols are taken out -/
def crossV (a b : V3) : V3 × V3 :=
  let p := if a.2.1 = b.2.2 then (((a.1, E0, a.2.2), (b.1, b.2.1, E0)) : V3 × V3) else (a, b)
  if p.1.2.2 = p.2.2.1 then ((p.1.1, p.1.2.1, E0), (p.2.1, E0, p.2.2.2)) else p
def docAdd (x y : V3) : V3 × Int :=
  let c := crossV (clearV x) (clearV y)
  if (oneV c.1.2.1 c.2.2.1).2 && (oneV c.1.2.2 c.2.2.2).2 then ((wrap64 (c.1.1 + c.2.1), (oneV c.1.2.1 c.2.2.1).1, (oneV c.1.2.2 c.2.2.2).1), 0) else (Z3, 91)
theorem docAdd_eq (x y : V3) : docAdd x y = sumR x y := by
  obtain ⟨a, ap, am⟩ := x
  obtain ⟨b, bp, bm⟩ := y
  have ex : ∀ {x y : BA}, x ≠ y → ¬ (y = x) := fun h e => h e.symm
  by_cases h4 : ap = E0
  · subst h4
    by_cases h5 : bp = E0
    · subst h5
      by_cases h1 : am = E0 <;> by_cases h2 : bm = E0 <;> by_cases h3 : am = bm <;> simp_all [docAdd, sumR, sumV, crossV, clearV, oneV, stF, clr, hasE, e_app, app_e]
    · have g5 := ex h5
      by_cases h1 : am = E0 <;> by_cases h2 : bm = E0 <;> by_cases h3 : am = bm <;> by_cases h6 : am = bp <;> by_cases h7 : bm = bp <;> simp_all [docAdd, sumR, sumV, crossV, clearV, oneV, stF, clr, hasE, e_app, app_e]
  · have g4 := ex h4
    by_cases h5 : bp = E0
    · subst h5
      by_cases h1 : am = E0 <;> by_cases h2 : bm = E0 <;> by_cases h3 : am = bm <;> by_cases h6 : am = ap <;> by_cases h7 : bm = ap <;> simp_all [docAdd, sumR, sumV, crossV, clearV, oneV, stF, clr, hasE, e_app, app_e]
    · have g5 := ex h5
      by_cases h3 : am = bm <;> by_cases h6 : am = ap <;> by_cases h7 : bm = ap <;> by_cases h8 : am = bp <;> by_cases h9 : bm = bp <;> by_cases h1 : am = E0 <;> by_cases h2 : bm = E0 <;> simp_all [docAdd, sumR, sumV, crossV, clearV, oneV, stF, clr, hasE, e_app, app_e]
theorem set_at1 {W : World} {B : Nat} {T : TypeId} {z : Nat × Nat} {a b c : Value} (h : W.heap[B]? = some (.cells #[a, b, c] T z)) (x : Value) : (W.setCell ⟨B, 1, none⟩ x).heap[B]? = some (.cells #[a, x, c] T z) := by
  simp only [World.setCell, Array.getElem?_modify, if_true, h, Option.map_some]; rfl
theorem set_at2 {W : World} {B : Nat} {T : TypeId} {z : Nat × Nat} {a b c : Value} (h : W.heap[B]? = some (.cells #[a, b, c] T z)) (x : Value) : (W.setCell ⟨B, 2, none⟩ x).heap[B]? = some (.cells #[a, b, x] T z) := by
  simp only [World.setCell, Array.getElem?_modify, if_true, h, Option.map_some]; rfl
/-- the boxes of the two values and of the result -/
def Box3 (w : World) (x y z : V3) (W : World) : Prop := W.heap[w.heap.size]? = some (.cells #[.int .i64 x.1, .string x.2.1, .string x.2.2] 36 (0, 0)) ∧ W.heap[w.heap.size + 1]? = some (.cells #[.int .i64 y.1, .string y.2.1, .string y.2.2] 36 (0, 0)) ∧ W.heap[w.heap.size + 1 + 1]? = some (.cells #[.int .i64 z.1, .string z.2.1, .string z.2.2] 36 (0, 0)) ∧ Below w.heap.size w W
theorem Box3.thn {w W W' : World} {x y z : V3} (h : Box3 w x y z W) (hb : Below W.heap.size W W') : Box3 w x y z W' :=
  ⟨block_kept hb h.1, block_kept hb h.2.1, block_kept hb h.2.2.1, Below.thn h.2.2.2 h.2.2.2.size hb⟩
theorem box3_new (w : World) (x y z : V3) : Box3 w x y z (((w.alloc (.cells #[.int .i64 x.1, .string x.2.1, .string x.2.2] 36)).alloc (.cells #[.int .i64 y.1, .string y.2.1, .string y.2.2] 36)).alloc (.cells #[.int .i64 z.1, .string z.2.1, .string z.2.2] 36)) := by
  obtain ⟨n1, n2, n3, n4⟩ := two_new w (.cells #[.int .i64 x.1, .string x.2.1, .string x.2.2] 36) (.cells #[.int .i64 y.1, .string y.2.1, .string y.2.2] 36)
  generalize (w.alloc (.cells #[.int .i64 x.1, .string x.2.1, .string x.2.2] 36)).alloc (.cells #[.int .i64 y.1, .string y.2.1, .string y.2.2] 36) = W at *
  have hn := heap_alloc_new W (.cells #[.int .i64 z.1, .string z.2.1, .string z.2.2] 36)
  rw [n4] at hn
  exact ⟨block_kept (below1 W _) n1, block_kept (below1 W _) n2, hn, n3.alloc (by omega) _⟩
theorem Box3.set0 {w W : World} {x y z : V3} (h : Box3 w x y z W) (u : V3) : Box3 w u y z (((W.setCell ⟨w.heap.size, 0, none⟩ (.int .i64 u.1)).setCell ⟨w.heap.size, 1, none⟩ (.string u.2.1)).setCell ⟨w.heap.size, 2, none⟩ (.string u.2.2)) :=
  ⟨val_set h.1 _ _ _, set_far (set_far (set_far h.2.1 (by omega)) (by omega)) (by omega), set_far (set_far (set_far h.2.2.1 (by omega)) (by omega)) (by omega), below_val h.2.2.2 (Nat.le_refl _) _ _ _⟩
theorem Box3.set1 {w W : World} {x y z : V3} (h : Box3 w x y z W) (u : V3) : Box3 w x u z (((W.setCell ⟨w.heap.size + 1, 0, none⟩ (.int .i64 u.1)).setCell ⟨w.heap.size + 1, 1, none⟩ (.string u.2.1)).setCell ⟨w.heap.size + 1, 2, none⟩ (.string u.2.2)) :=
  ⟨set_far (set_far (set_far h.1 (by omega)) (by omega)) (by omega), val_set h.2.1 _ _ _, set_far (set_far (set_far h.2.2.1 (by omega)) (by omega)) (by omega), below_val h.2.2.2 (by omega) _ _ _⟩
theorem Box3.cross1 {w W : World} {x y z : V3} (h : Box3 w x y z W) : Box3 w (x.1, E0, x.2.2) (y.1, y.2.1, E0) z ((W.setCell ⟨w.heap.size, 1, none⟩ (.string E0)).setCell ⟨w.heap.size + 1, 2, none⟩ (.string E0)) :=
  ⟨set_far (set_at1 h.1 _) (by omega), set_at2 (set_far h.2.1 (by omega)) _, set_far (set_far h.2.2.1 (by omega)) (by omega), (h.2.2.2.setCell (p := ⟨w.heap.size, 1, none⟩) (Nat.le_refl _) _).setCell (p := ⟨w.heap.size + 1, 2, none⟩) (by show w.heap.size ≤ w.heap.size + 1; omega) _⟩
theorem Box3.cross2 {w W : World} {x y z : V3} (h : Box3 w x y z W) : Box3 w (x.1, x.2.1, E0) (y.1, E0, y.2.2) z ((W.setCell ⟨w.heap.size, 2, none⟩ (.string E0)).setCell ⟨w.heap.size + 1, 1, none⟩ (.string E0)) :=
  ⟨set_far (set_at2 h.1 _) (by omega), set_at1 (set_far h.2.1 (by omega)) _, set_far (set_far h.2.2.1 (by omega)) (by omega), (h.2.2.2.setCell (p := ⟨w.heap.size, 2, none⟩) (Nat.le_refl _) _).setCell (p := ⟨w.heap.size + 1, 1, none⟩) (by show w.heap.size ≤ w.heap.size + 1; omega) _⟩
end Go.Proofs.YtdkflmpdelfgoaaGreatDoor
