/-
  What each call of enc's put, tell, num, fix, bit, reg returns. Conditions: where the word lies; the numbers' bounds.
-/
import Derived.Test.YtjkhgljlipljdaaDoorFixOpen
namespace Go.Proofs.YtjkhgljlipljdaaDoor
open Go.RowKit
set_option linter.unusedVariables false
set_option linter.unusedSimpArgs false

/-- a part of a word -/
structure Pa where
  b : Int
  n : Int
  f : Bool
def paV (p : Pa) : Value := .agg #[.int .u32 p.b, .int .i64 p.n, .bool p.f]
/-- the word with a part behind it -/
def putW (x : Int) (p : Pa) : Int := bits .or .u32 (x * 2 ^ p.n.toNat % 4294967296) p.b
def okP (p : Pa) : Prop := 0 ≤ p.n ∧ p.n ≤ 32
/-- but for block B nothing has changed that was there -/
structure KB (B : Nat) (w w' : World) : Prop where
  bel : Below B w w'
  oth : ∀ j, j < w.heap.size → j ≠ B → w'.heap[j]? = w.heap[j]?
theorem KB.size {B : Nat} {w w' : World} (h : KB B w w') : w.heap.size ≤ w'.heap.size := h.bel.size
theorem KB.refl (B : Nat) (w : World) : KB B w w := ⟨Below.refl _ _, fun _ _ _ => rfl⟩
theorem KB.trans {B : Nat} {u v w : World} (h : KB B u v) (k : KB B v w) : KB B u w :=
  ⟨h.bel.trans k.bel, fun j hj hn => (k.oth j (Nat.lt_of_lt_of_le hj h.size) hn).trans (h.oth j hj hn)⟩
theorem KB.below {B : Nat} {u v : World} (hB : B < u.heap.size) (h : Below u.heap.size u v) : KB B u v := ⟨h.mono (Nat.le_of_lt hB), fun j hj _ => h.block j hj⟩
theorem KB.set {B : Nat} {u : World} (v : Value) : KB B u (u.setCell ⟨B, 0, none⟩ v) :=
  ⟨(Below.refl B u).setCell (p := ⟨B, 0, none⟩) (Nat.le_refl _) v, fun j hj hn => heap_setCell_other u ⟨B, 0, none⟩ j v hn⟩
set_option maxHeartbeats 2000000 in
theorem put_any (B : Nat) (x : Int) (p : Pa) (w : World) (h : w.heap[B]? = some (.cells #[.int .u32 x] 139 (0, 0))) (hp : okP p) :
    Calls Tryd.prog 84 #[.pointer (some ⟨B, 0, none⟩), paV p] w fun e w' => (∃ v, e = .returned v) ∧ w'.heap[B]? = some (.cells #[.int .u32 (putW x p)] 139 (0, 0)) ∧ KB B w w' := by
  obtain ⟨b, n, f⟩ := p
  obtain ⟨h0, h1⟩ := hp
  unfold paV putW
  simp only at h0 h1
  have c0 := Lib.cell_of_heap h 0
  have f0 := Lib.frozen_of_heap h 0
  have hB := heap_lt h
  have HH := Lib.hid h
  clear h
  go_enter Tryd.func84, Tryd.ntmps84
  go_wp2_with fail
  go_region
  all_goals
    go_wp2_with fail
    refine bodyPost_end (results_none rfl _ _ _) rfl ?_
    have hs := heap_setCell_same w B 0 _ _ (.int .u32 (bits .or .u32 (x * 2 ^ n.toNat % 4294967296) b)) HH.out
    have kb := KB.set (u := w) (B := B) (.int .u32 (bits .or .u32 (x * 2 ^ n.toNat % 4294967296) b))
    have hz : B < (w.setCell ⟨B, 0, none⟩ (.int .u32 (bits .or .u32 (x * 2 ^ n.toNat % 4294967296) b))).heap.size := heap_lt hs
    exact ⟨⟨_, rfl⟩, (Below.heap_alloc _ _ _ hz).trans hs, kb.trans (KB.below hz ((below1 _ _).drew))⟩
theorem KB.keep {B : Nat} {u v : World} {o : Obj} {j : Nat} (h : KB B u v) (hj : j ≠ B) (g : u.heap[j]? = some o) : v.heap[j]? = some o := (h.oth j (heap_lt g) hj).trans g
end Go.Proofs.YtjkhgljlipljdaaDoor
