/-
  The parser's number, symbol: what each call returns. Conditions: those of the state.
-/
import Derived.Test.YtdkflmpdelfgoaaDoorExprX
namespace Go.Proofs.YtdkflmpdelfgoaaDoor
open Go.RowKit Go.Shelf
set_option linter.unusedVariables false
set_option linter.unusedSimpArgs false
attribute [local go_sem] Oper.semAt_some

set_option maxRecDepth 100000 in
set_option maxHeartbeats 4000000 in
theorem number_any {w0 : World} {tv : Value} {T : List Tok} (hB : Base w0 tv T) (s : St) (W : World) (h : PS w0 tv s W) (hp : Pre T s) (x : Tok) (hx : nextT T s = x) :
    Calls Tryd.prog 87 #[.pointer (some ⟨w0.heap.size, 0, none⟩)] W fun e w' => OutP w0 tv (leafF s ⟨1, IntKind.i64.wrap (x.n : Int), E0⟩) e w' := by
  obtain ⟨p1, p2, p3, p4⟩ := hp
  have hl := hB.len
  have NX := Lib.hid (next_any hB s W h p1)
  rw [hx] at NX
  have LF := Lib.hid (fun V (hb : Below W.heap.size W V) => leaf_any s ⟨1, IntKind.i64.wrap (x.n : Int), E0⟩ V (h.thn hb) (by omega) (by omega) (by omega))
  obtain ⟨k, t, n, p⟩ := x
  unfold tokQ at NX
  unfold tmV at LF
  simp only at NX LF ⊢
  obtain ⟨N, hN⟩ : ∃ N, IntKind.i64.wrap (n : Int) = N := ⟨_, rfl⟩
  rw [hN] at LF ⊢
  generalize leafF s ⟨1, N, E0⟩ = r at *
  clear h hx hB p1 p2 p3 p4 hl
  have FN := field_n k (n : Int) p ⟨t.toArray⟩
  go_enter Tryd.func87, Tryd.ntmps87
  go_wp2_with fail
  refine NX.out.mono ?_
  rintro e w1 ⟨rfl, hb⟩
  have HB := Lib.hid hb
  clear hb
  go_wp2_with fail
  refine (LF.out _ HB.out).mono ?_
  rintro e w2 ho
  rcases out_end ho with ⟨s', rfl, rfl, hs⟩ | ⟨y, rfl, rfl, hy⟩
  · go_wp2_with fail
    go_end0
    exact ⟨rfl, hs⟩
  · unfold panV
    go_wp2_with fail
    simp [bodyPost, panV, OutP]
    exact hy
end Go.Proofs.YtdkflmpdelfgoaaDoor
