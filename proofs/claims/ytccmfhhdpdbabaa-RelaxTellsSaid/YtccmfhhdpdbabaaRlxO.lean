/-
  live: what each call returns. Conditions: none.
-/
import Derived.Test.YtccmfhhdpdbabaaRlxN
namespace Go.Proofs.Ytccmfhhdpdbabaa
open Go.RowKit Go.Shelf
set_option linter.unusedVariables false
set_option linter.unusedSimpArgs false

def liveL : List It := [⟨3, 0, 0, 2, 0, -8, 8⟩, ⟨1, 20, 0, 0, 0, 0, 0⟩]
theorem live_0 : farL liveL (itB liveL 0) liveL.length = [0] := by decide +kernel
theorem live_1 : farL liveL (itB liveL 1) liveL.length = [] := by decide +kernel
theorem live_2 : itB liveL 2 = [true, false] := by decide +kernel
theorem live_off : offL liveL [true, false] = [0, 8, 28] := by decide +kernel
theorem live_chk : chkB liveL = 0 := by decide +kernel
theorem rows_lit {n : Nat} {W : World} {g : Nat} {cs : Array Value} {T : TypeId} {fr : Nat × Nat} {C : List (List Value)} (h : W.heap[g]? = some (.cells cs T fr)) (hl : C.length ≤ maxLen) (hc : ∀ (k : Nat) x, C[k]? = some x → ∀ (j : Nat) y, x[j]? = some y → cs[k * n + j]? = some y) :
    RowsO n W (.slice (some ⟨g, 0, none⟩) C.length C.length) C :=
  .inr ⟨g, 0, C.length, rfl, Nat.le_refl _, hl, heap_lt h, fun k x hx j y hy => by rw [Lib.cell_of_heap h, Nat.zero_add]; exact hc k x hx j y hy⟩
def liveCs : Array Value := #[.int .i64 3, .int .i64 0, .int .i64 0, .int .i64 2, .int .i64 0, .int .i64 (-8), .int .i64 8, .int .i64 1, .int .i64 20, .int .i64 0, .int .i64 0, .int .i64 0, .int .i64 0, .int .i64 0]
theorem live_its (w : World) : ItsO (w.alloc (.cells #[.int .i64 3, .int .i64 0, .int .i64 0, .int .i64 2, .int .i64 0, .int .i64 (-8), .int .i64 8, .int .i64 1, .int .i64 20, .int .i64 0, .int .i64 0, .int .i64 0, .int .i64 0, .int .i64 0] 44)) (.slice (some ⟨w.heap.size, 0, none⟩) 2 2) liveL := by
  refine rows_lit (C := liveL.map itC) (World.alloc_heap_new w _) (by decide) ?_
  intro k x hx j y hy
  rcases k with _ | _ | k
  · cases hx
    rcases j with _ | _ | _ | _ | _ | _ | _ | j
    all_goals first | (cases hy; rfl) | cases hy
  · cases hx
    rcases j with _ | _ | _ | _ | _ | _ | _ | j
    all_goals first | (cases hy; rfl) | cases hy
  · cases hx
theorem live_bos (w : World) : BosO (w.alloc (.cells #[.bool true, .bool false] 4)) (.slice (some ⟨w.heap.size, 0, none⟩) 2 2) [true, false] := by
  refine rows_lit (C := [true, false].map boC) (World.alloc_heap_new w _) (by decide) ?_
  intro k x hx j y hy
  rcases k with _ | _ | k
  all_goals
    cases hx
    try (rcases j with _ | j <;> first | (cases hy; rfl) | cases hy)
theorem live_nus (w : World) : NusO (w.alloc (.cells #[.int .i64 0, .int .i64 8, .int .i64 28] 2)) (.slice (some ⟨w.heap.size, 0, none⟩) 3 3) [0, 8, 28] := by
  refine rows_lit (C := [(0 : Int), 8, 28].map nuC) (World.alloc_heap_new w _) (by decide) ?_
  intro k x hx j y hy
  rcases k with _ | _ | _ | k
  all_goals
    cases hx
    try (rcases j with _ | j <;> first | (cases hy; rfl) | cases hy)
set_option maxRecDepth 100000 in
set_option maxHeartbeats 4000000 in
theorem live_any (w : World) : Calls Try.prog 8 #[] w fun e w' => e = .returned (.bool true) ∧ Below w.heap.size w w' := by
  have RX := Lib.hid (fun v W (h : ItsO W v liveL) => relax_plain 1 2 v liveL W h live_chk (fun k hk => by have : k = 0 := by omega
                                                                                                           subst this; rw [live_0]; simp) live_1 (by decide) (by decide) (fun W => len_two W))
  have OF := Lib.hid (fun v b W (h : ItsO W v liveL) (hb : BosO W b [true, false]) => offsetsE_any v b liveL [true, false] W h hb)
  have EB := Lib.hid (fun v u W (h : BosO W v [true, false]) (h2 : BosO W u [true, false]) => eqBo_any v u _ _ W h h2)
  have EN := Lib.hid (fun v u W (h : NusO W v [0, 8, 28]) (h2 : NusO W u [0, 8, 28]) => eqNu_any v u _ _ W h h2)
  go_enter Try.func8, Try.ntmps8
  go_wp2_with fail
  have HI := Lib.hid (live_its w)
  have HB0 := Lib.hid (below1 w (.cells #[.int .i64 3, .int .i64 0, .int .i64 0, .int .i64 2, .int .i64 0, .int .i64 (-8), .int .i64 8, .int .i64 1, .int .i64 20, .int .i64 0, .int .i64 0, .int .i64 0, .int .i64 0, .int .i64 0] 44))
  generalize w.alloc (.cells #[.int .i64 3, .int .i64 0, .int .i64 0, .int .i64 2, .int .i64 0, .int .i64 (-8), .int .i64 8, .int .i64 1, .int .i64 20, .int .i64 0, .int .i64 0, .int .i64 0, .int .i64 0, .int .i64 0] 44) = W0 at *
  refine (RX.out _ _ HI.out).mono ?_
  rintro e w1 ⟨⟨v1, rfl, hown1⟩, hb1⟩
  obtain ⟨a1, c1, rfl⟩ := own_sliceN hown1
  have hl2 : liveL.length = 2 := rfl
  rw [live_2, hl2] at hown1
  rw [hl2]
  have HL1 := Lib.hid (bos_of_own (D := [true, false]) rfl hown1)
  have HB1 := Lib.hid (Below.thn HB0.out HB0.out.size hb1)
  have HI1 := Lib.hid (HI.out.keep hb1)
  clear hown1 hb1 hl2
  go_wp2_with fail
  refine (OF.out _ _ _ HI1.out HL1.out).mono ?_
  rintro e w2 ⟨⟨hE, rfl⟩ | ⟨hE, hok, hlen, v2, rfl, hown2⟩, hb2⟩
  · exact absurd (by decide +kernel) hE
  obtain ⟨a2, c2, rfl⟩ := own_sliceN hown2
  rw [live_off] at hown2
  have HN2 := Lib.hid (nus_of_own (D := [0, 8, 28]) rfl hown2)
  have HB2 := Lib.hid (Below.thn HB1.out HB1.out.size hb2)
  have HL2 := Lib.hid (HL1.out.keep hb2)
  clear hown2 hb2 hE hok hlen
  go_wp2_with fail
  refine (EB.out _ _ _ (HL2.out.keep (below1 w2 _)) (live_bos w2)).mono ?_
  rintro e w3 ⟨rfl, hb3⟩
  have hb3' := Below.thn (below1 w2 _) (below1 w2 _).size hb3
  have HB3 := Lib.hid (Below.thn HB2.out HB2.out.size hb3')
  have HN3 := Lib.hid (HN2.out.keep hb3')
  clear hb3 hb3'
  go_wp2_with fail
  refine (EN.out _ _ _ (HN3.out.keep (below1 w3 _)) (live_nus w3)).mono ?_
  rintro e w4 ⟨rfl, hb4⟩
  have HB4 := Lib.hid (Below.thn HB3.out HB3.out.size (Below.thn (below1 w3 _) (below1 w3 _).size hb4))
  clear hb4
  go_wp2_with fail
  go_ret
  exact ⟨by first | rfl | simp, HB4.out⟩
end Go.Proofs.Ytccmfhhdpdbabaa
