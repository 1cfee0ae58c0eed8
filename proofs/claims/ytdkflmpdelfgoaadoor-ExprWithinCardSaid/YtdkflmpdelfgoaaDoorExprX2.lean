/-
  The parser's symbol: what each call returns. Conditions: those of the state.
-/
import Derived.Test.YtdkflmpdelfgoaaDoorExprX1
namespace Go.Proofs.YtdkflmpdelfgoaaDoor
open Go.RowKit Go.Shelf
set_option linter.unusedVariables false
set_option linter.unusedSimpArgs false
attribute [local go_sem] Oper.semAt_some

set_option maxRecDepth 100000 in
set_option maxHeartbeats 4000000 in
theorem symbol_any {w0 : World} {tv : Value} {T : List Tok} (hB : Base w0 tv T) (s : St) (W : World) (h : PS w0 tv s W) (hp : Pre T s) (x : Tok) (hx : nextT T s = x) (hxt : x.t.length ≤ 281474976710656) :
    Calls Tryd.prog 88 #[.pointer (some ⟨w0.heap.size, 0, none⟩)] W fun e w' => OutP w0 tv (leafF s ⟨2, 0, ⟨x.t.toArray⟩⟩) e w' := by
  obtain ⟨p1, p2, p3, p4⟩ := hp
  have hl := hB.len
  have NX := Lib.hid (next_any hB s W h p1)
  rw [hx] at NX
  have CL := Lib.hid (fun V => clone_any ⟨x.t.toArray⟩ V (by rw [size_list]; simp only [List.toList_toArray]; omega))
  have LF := Lib.hid (fun V (hb : Below W.heap.size W V) => leaf_any s ⟨2, 0, ⟨x.t.toArray⟩⟩ V (h.thn hb) (by omega) (by omega) (by omega))
  obtain ⟨k, t, n, p⟩ := x
  unfold tokQ at NX
  unfold tmV at LF
  simp only at NX LF CL ⊢
  generalize (⟨t.toArray⟩ : BA) = S at *
  generalize leafF s ⟨2, 0, S⟩ = r at *
  clear h hx hB p1 p2 p3 p4 hl hxt
  have FT := field_t k (n : Int) p S
  go_enter Tryd.func88, Tryd.ntmps88
  go_wp2_with fail
  refine NX.out.mono ?_
  rintro e w1 ⟨rfl, hb⟩
  have HB := Lib.hid hb
  clear hb
  go_wp2_with fail
  refine (CL.out _).mono ?_
  rintro e w2 ⟨rfl, hb⟩
  have HB2 := Lib.hid (Below.thn HB.out HB.out.size hb)
  clear hb
  go_wp2_with fail
  refine (LF.out _ HB2.out).mono ?_
  rintro e w3 ho
  rcases out_end ho with ⟨s', rfl, rfl, hs⟩ | ⟨y, rfl, rfl, hy⟩
  · go_wp2_with fail
    go_end0
    exact ⟨rfl, hs⟩
  · unfold panV
    go_wp2_with fail
    simp [bodyPost, panV, OutP]
    exact hy
end Go.Proofs.YtdkflmpdelfgoaaDoor
