/-
  What each call of the document's Resolve returns. Conditions: how the symbols lie, that a hole's number is within 64 bits.
-/
import Derived.Test.YtjkhgljlipljdaaDoorFixK
namespace Go.Proofs.YtjkhgljlipljdaaDoor
open Go.RowKit
set_option linter.unusedVariables false
set_option linter.unusedSimpArgs false

/-- the blocks of the document's Resolve -/
structure Bx (w : World) (k s a : Int) (pl ml : BA) (BP BM : Nat) (p m : Pt) (W : World) : Prop where
  hole : W.heap[w.heap.size]? = some (.cells #[.int .i64 k, .int .i64 s, .int .i64 a, .string pl, .string ml] 25 (0, 0))
  fix : W.heap[w.heap.size + 1]? = some (.cells #[.bool false, .int .i64 0, .bool false, .int .i64 0, .int .i64 0, .int .i64 0, .int .i64 0] 48 (0, 0))
  P : W.heap[BP]? = some (.cells #[.bool p.is, .int .i64 p.num, .int .i64 p.sec, .int .i64 p.val] 88 (0, 0))
  M : W.heap[BM]? = some (.cells #[.bool m.is, .int .i64 m.num, .int .i64 m.sec, .int .i64 m.val] 88 (0, 0))
  bel : Below w.heap.size w W
  lP : w.heap.size + 2 ≤ BP
  lM : BP < BM
theorem BxM {w W : World} {k s a : Int} {pl ml : BA} {BP BM : Nat} {p m : Pt} (h : Bx w k s a pl ml BP BM p m W) : Bx w k s a pl ml BP BM p pt0 ((((W.setCell ⟨BM, 0, none⟩ (.bool false)).setCell ⟨BM, 1, none⟩ (.int .i64 0)).setCell ⟨BM, 2, none⟩ (.int .i64 0)).setCell ⟨BM, 3, none⟩ (.int .i64 0)) := by
  obtain ⟨h1, h2, h3, h4, h5, h6, h7⟩ := h
  exact ⟨((heap_setCell_other _ ⟨BM, 3, none⟩ _ _ (by show _ ≠ BM; omega)).trans ((heap_setCell_other _ ⟨BM, 2, none⟩ _ _ (by show _ ≠ BM; omega)).trans ((heap_setCell_other _ ⟨BM, 1, none⟩ _ _ (by show _ ≠ BM; omega)).trans ((heap_setCell_other _ ⟨BM, 0, none⟩ _ _ (by show _ ≠ BM; omega)).trans h1)))), ((heap_setCell_other _ ⟨BM, 3, none⟩ _ _ (by show _ ≠ BM; omega)).trans ((heap_setCell_other _ ⟨BM, 2, none⟩ _ _ (by show _ ≠ BM; omega)).trans ((heap_setCell_other _ ⟨BM, 1, none⟩ _ _ (by show _ ≠ BM; omega)).trans ((heap_setCell_other _ ⟨BM, 0, none⟩ _ _ (by show _ ≠ BM; omega)).trans h2)))), ((heap_setCell_other _ ⟨BM, 3, none⟩ _ _ (by show _ ≠ BM; omega)).trans ((heap_setCell_other _ ⟨BM, 2, none⟩ _ _ (by show _ ≠ BM; omega)).trans ((heap_setCell_other _ ⟨BM, 1, none⟩ _ _ (by show _ ≠ BM; omega)).trans ((heap_setCell_other _ ⟨BM, 0, none⟩ _ _ (by show _ ≠ BM; omega)).trans h3)))), (heap_setCell_same _ BM 3 _ _ _ (heap_setCell_same _ BM 2 _ _ _ (heap_setCell_same _ BM 1 _ _ _ (heap_setCell_same _ BM 0 _ _ _ h4)))), ((((h5.setCell (p := ⟨BM, 0, none⟩) (by show w.heap.size ≤ BM; omega) _).setCell (p := ⟨BM, 1, none⟩) (by show w.heap.size ≤ BM; omega) _).setCell (p := ⟨BM, 2, none⟩) (by show w.heap.size ≤ BM; omega) _).setCell (p := ⟨BM, 3, none⟩) (by show w.heap.size ≤ BM; omega) _), h6, h7⟩
theorem BxP {w W : World} {k s a : Int} {pl ml : BA} {BP BM : Nat} {p m : Pt} (h : Bx w k s a pl ml BP BM p m W) : Bx w k s a pl ml BP BM pt0 m ((((W.setCell ⟨BP, 0, none⟩ (.bool false)).setCell ⟨BP, 1, none⟩ (.int .i64 0)).setCell ⟨BP, 2, none⟩ (.int .i64 0)).setCell ⟨BP, 3, none⟩ (.int .i64 0)) := by
  obtain ⟨h1, h2, h3, h4, h5, h6, h7⟩ := h
  exact ⟨((heap_setCell_other _ ⟨BP, 3, none⟩ _ _ (by show _ ≠ BP; omega)).trans ((heap_setCell_other _ ⟨BP, 2, none⟩ _ _ (by show _ ≠ BP; omega)).trans ((heap_setCell_other _ ⟨BP, 1, none⟩ _ _ (by show _ ≠ BP; omega)).trans ((heap_setCell_other _ ⟨BP, 0, none⟩ _ _ (by show _ ≠ BP; omega)).trans h1)))), ((heap_setCell_other _ ⟨BP, 3, none⟩ _ _ (by show _ ≠ BP; omega)).trans ((heap_setCell_other _ ⟨BP, 2, none⟩ _ _ (by show _ ≠ BP; omega)).trans ((heap_setCell_other _ ⟨BP, 1, none⟩ _ _ (by show _ ≠ BP; omega)).trans ((heap_setCell_other _ ⟨BP, 0, none⟩ _ _ (by show _ ≠ BP; omega)).trans h2)))), (heap_setCell_same _ BP 3 _ _ _ (heap_setCell_same _ BP 2 _ _ _ (heap_setCell_same _ BP 1 _ _ _ (heap_setCell_same _ BP 0 _ _ _ h3)))), ((heap_setCell_other _ ⟨BP, 3, none⟩ _ _ (by show _ ≠ BP; omega)).trans ((heap_setCell_other _ ⟨BP, 2, none⟩ _ _ (by show _ ≠ BP; omega)).trans ((heap_setCell_other _ ⟨BP, 1, none⟩ _ _ (by show _ ≠ BP; omega)).trans ((heap_setCell_other _ ⟨BP, 0, none⟩ _ _ (by show _ ≠ BP; omega)).trans h4)))), ((((h5.setCell (p := ⟨BP, 0, none⟩) (by show w.heap.size ≤ BP; omega) _).setCell (p := ⟨BP, 1, none⟩) (by show w.heap.size ≤ BP; omega) _).setCell (p := ⟨BP, 2, none⟩) (by show w.heap.size ≤ BP; omega) _).setCell (p := ⟨BP, 3, none⟩) (by show w.heap.size ≤ BP; omega) _), h6, h7⟩
/-- the document's way to a sum -/
def dn1 (s : Sm) : Sm := if numB s.m = true then ⟨wrap64 (s.n - s.m.val), s.p, pt0⟩ else s
def dn2 (s : Sm) : Sm := if numB s.p = true then ⟨wrap64 (s.n + s.p.val), pt0, s.m⟩ else s
def dn3 (s : Sm) : Sm := if (s.p.is && (s.m.is && ((s.p.sec == s.m.sec) && (s.p.sec != -1)))) = true then ⟨wrap64 (s.n + wrap64 (s.p.val - s.m.val)), pt0, pt0⟩ else s
def dred (s : Sm) : Sm := dn3 (dn2 (dn1 s))
/-- the document's choice, by what data, Near, fits and reloc answer -/
def ddo (D N : Bool) (FT : Int → Bool) (RF : Bool → Pt → Int → Fx) (RG : Bool → Pt → Int) (sec off : Int) (s : Sm) : Fx × Int :=
  if (s.m.is && (s.m.sec != sec)) = true then (fx0, 180) else if (s.m.is && (s.m.sec == -1)) = true then (fx0, 180) else if (s.m.is && !s.p.is) = true then (fx0, 180)
  else if s.m.is = true then (RF true s.p (wrap64 (wrap64 (s.n + off) - s.m.val)), RG true s.p)
  else if (!s.p.is && !D) = true then (fx0, 180) else if (!s.p.is && !FT s.n) = true then (fx0, 181) else if (!s.p.is) = true then (⟨true, s.n, false, 0, 0, 0, 0⟩, 0)
  else if (N && ((s.p.sec == sec) && (s.p.sec != -1))) = true then (if FT (wrap64 (wrap64 (s.p.val + s.n) - off)) = true then (⟨true, wrap64 (wrap64 (s.p.val + s.n) - off), false, 0, 0, 0, 0⟩, 0) else (fx0, 181))
  else (RF false s.p s.n, RG false s.p)
/-- what the callees of the document's Resolve answer -/
structure Cal (w : World) (k s a : Int) (pl ml : BA) (sec off : Int) (sv : Value) (p m : Pt) (D N : Bool) (FT : Int → Bool) (RF : Bool → Pt → Int → Fx) (RG : Bool → Pt → Int) : Prop where
  CK : ∀ W, Calls Tryd.prog 16 #[.agg #[.int .i64 k, .int .i64 s, .int .i64 a, .string pl, .string ml]] W fun e w' => e = .returned (.int .i64 0) ∧ Below W.heap.size W w'
  F1 : ∀ W, Below w.heap.size w W → Calls Tryd.prog 41 #[.string pl, .int .i64 sec, .int .i64 off, sv] W fun e w' => e = .returned (.tuple #[.agg #[.bool p.is, .int .i64 p.num, .int .i64 p.sec, .int .i64 p.val], .bool true]) ∧ Below W.heap.size W w'
  F2 : ∀ W, Below w.heap.size w W → Calls Tryd.prog 41 #[.string ml, .int .i64 sec, .int .i64 off, sv] W fun e w' => e = .returned (.tuple #[.agg #[.bool m.is, .int .i64 m.num, .int .i64 m.sec, .int .i64 m.val], .bool true]) ∧ Below W.heap.size W w'
  DA : ∀ W, Calls Tryd.prog 43 #[.agg #[.int .i64 k, .int .i64 s, .int .i64 a, .string pl, .string ml]] W fun e w' => e = .returned (.bool D) ∧ Below W.heap.size W w'
  NE : ∀ W, Calls Tryd.prog 30 #[.agg #[.int .i64 k, .int .i64 s, .int .i64 a, .string pl, .string ml]] W fun e w' => e = .returned (.bool N) ∧ Below W.heap.size W w'
  FI : ∀ v W, Calls Tryd.prog 44 #[.agg #[.int .i64 k, .int .i64 s, .int .i64 a, .string pl, .string ml], .int .i64 v] W fun e w' => e = .returned (.bool (FT v)) ∧ Below W.heap.size W w'
  RE : ∀ far (q : Pt) n W, Calls Tryd.prog 42 #[.agg #[.int .i64 k, .int .i64 s, .int .i64 a, .string pl, .string ml], .bool far, .int .i64 off, .agg #[.bool q.is, .int .i64 q.num, .int .i64 q.sec, .int .i64 q.val], .int .i64 n] W fun e w' =>
    e = .returned (.tuple #[.agg #[.bool (RF far q n).pt, .int .i64 (RF far q n).v, .bool (RF far q n).rl, .int .i64 (RF far q n).off, .int .i64 (RF far q n).ty, .int .i64 (RF far q n).sy, .int .i64 (RF far q n).ad], .int .i64 (RG far q)]) ∧ Below W.heap.size W w'
theorem Bx.keep {w W W' : World} {k s a : Int} {pl ml : BA} {BP BM : Nat} {p m : Pt} (h : Bx w k s a pl ml BP BM p m W) (hb : Below W.heap.size W W') : Bx w k s a pl ml BP BM p m W' :=
  ⟨kept_v hb h.hole, kept_v hb h.fix, kept_v hb h.P, kept_v hb h.M, Below.thn h.bel h.bel.size hb, h.lP, h.lM⟩
end Go.Proofs.YtjkhgljlipljdaaDoor
