/-
  reckon: what each call returns. Conditions: as many values as the term takes, texts of at most 2^48 bytes.
-/
import Derived.Test.YtdkflmpdelfgoaaGreatDoorExprF
namespace Go.Proofs.YtdkflmpdelfgoaaGreatDoor
open Go.RowKit Go.Shelf
set_option linter.unusedVariables false
attribute [local go_sem] Oper.semAt_some

set_option maxRecDepth 100000 in
set_option maxHeartbeats 8000000 in
theorem reckon_syms (k n : Int) (s : BA) (v : Value) (T : List V3) (w : World) (h : TriO vlF w v T) (hl : T.length ≤ 1000000) (hT : T.any hasS = true) (h1 : k ≠ 1) (h2 : k ≠ 2) (h3 : k ≠ 3) (h8 : k ≠ 8) (h9 : k ≠ 9) :
    Calls Tryz.prog 26 #[tmV ⟨k, n, s⟩, v] w fun e w' => e = .returned (RV (Z3, 91)) ∧ Below w.heap.size w w' := by
  obtain ⟨n1, n2, n3, n4⟩ := two_new w (.cells #[.int .i64 k, .int .i64 n, .string s] 42) (.cells #[.int .i64 0, .string ⟨#[]⟩, .string ⟨#[]⟩] 36)
  have CT := Lib.hid (contains_any v T _ (h.keep n3) hl)
  rw [hT] at CT
  obtain ⟨A, c, rfl⟩ := tri_slice h
  clear h hT
  unfold tmV
  simp only
  go_enter Tryz.func26, Tryz.ntmps26
  go_wp2_with fail
  generalize (w.alloc (.cells #[.int .i64 k, .int .i64 n, .string s] 42)).alloc (.cells #[.int .i64 0, .string ⟨#[]⟩, .string ⟨#[]⟩] 36) = W0 at *
  have HB := Lib.hid n3
  have HN := Lib.hid n2
  clear n1 n2 n3 n4
  refine CT.out.mono ?_
  rintro e w1 ⟨rfl, hb1⟩
  have n2 := block_kept hb1 HN.out
  have HB1 := Lib.hid (Below.thn HB.out HB.out.size hb1)
  have HN1 := Lib.hid n2
  obtain ⟨z0, z1, z2⟩ := val_cells n2
  have fz := fz_of n2
  clear hb1 n2 CT
  go_wp2_with fail
  obtain ⟨e0, e1, e2⟩ := val_cells (val_set HN1.out (.int .i64 0) (.string E0) (.string E0))
  exact bodyPost_ret (v := RV (Z3, 91)) (by simp [RV, vlV, results, Tryz.results26, go_sem, e0, e1, e2]) rfl ⟨rfl, below_val HB1.out (by omega) _ _ _⟩
set_option maxRecDepth 100000 in
set_option maxHeartbeats 8000000 in
theorem reckon_not (n : Int) (s : BA) (v : Value) (x : V3) (w : World) (h : TriO vlF w v [x]) (hT : [x].any hasS = false) :
    Calls Tryz.prog 26 #[tmV ⟨4, n, s⟩, v] w fun e w' => e = .returned (RV ((bits BinOp.xor IntKind.i64 (-1) x.1, E0, E0), 0)) ∧ Below w.heap.size w w' := by
  obtain ⟨n1, n2, n3, n4⟩ := two_new w (.cells #[.int .i64 4, .int .i64 n, .string s] 42) (.cells #[.int .i64 0, .string ⟨#[]⟩, .string ⟨#[]⟩] 36)
  have CT := Lib.hid (contains_any v [x] _ (h.keep n3) (by simp))
  rw [hT] at CT
  obtain ⟨g, o, cap, rfl, hcap, hg, hx⟩ := tri_one h
  obtain ⟨xn, xp, xm⟩ := x
  simp only at hx
  clear h hT
  unfold tmV
  simp only
  go_enter Tryz.func26, Tryz.ntmps26
  go_wp2_with fail
  have x0 := cell_kept n3 hx.1
  generalize (w.alloc (.cells #[.int .i64 4, .int .i64 n, .string s] 42)).alloc (.cells #[.int .i64 0, .string ⟨#[]⟩, .string ⟨#[]⟩] 36) = W0 at *
  have HB := Lib.hid n3
  have HN := Lib.hid n2
  have HN0 := Lib.hid n1
  clear n1 n2 n3 n4
  refine CT.out.mono ?_
  rintro e w1 ⟨rfl, hb1⟩
  have n1 := block_kept hb1 HN0.out
  have n2 := block_kept hb1 HN.out
  have HB1 := Lib.hid (Below.thn HB.out HB.out.size hb1)
  have HN1 := Lib.hid n2
  obtain ⟨t0, t1, t2⟩ := val_cells n1
  obtain ⟨z0, z1, z2⟩ := val_cells n2
  have fz := fz_of n2
  have y0 := cell_kept hb1 x0
  clear hb1 n2 CT x0 hx
  go_wp2_with fail
  obtain ⟨e0, e1, e2⟩ := val_cells (val_set HN1.out (.int .i64 (bits BinOp.xor IntKind.i64 (-1) xn)) (.string E0) (.string E0))
  exact bodyPost_ret (v := RV ((bits BinOp.xor IntKind.i64 (-1) xn, E0, E0), 0)) (by simp [RV, vlV, results, Tryz.results26, go_sem, e0, e1, e2]) rfl ⟨rfl, below_val HB1.out (by omega) _ _ _⟩
set_option maxRecDepth 100000 in
set_option maxHeartbeats 8000000 in
theorem reckon_op (k n : Int) (s : BA) (v : Value) (x y : V3) (w : World) (h : TriO vlF w v [x, y]) (hT : [x, y].any hasS = false) (h1 : k ≠ 1) (h2 : k ≠ 2) (h3 : k ≠ 3) (h8 : k ≠ 8) (h9 : k ≠ 9) (h4 : k ≠ 4) :
    Calls Tryz.prog 26 #[tmV ⟨k, n, s⟩, v] w fun e w' => e = .returned (RV (((numZ k x.1 y.1).1, E0, E0), (numZ k x.1 y.1).2)) ∧ Below w.heap.size w w' := by
  obtain ⟨n1, n2, n3, n4⟩ := two_new w (.cells #[.int .i64 k, .int .i64 n, .string s] 42) (.cells #[.int .i64 0, .string ⟨#[]⟩, .string ⟨#[]⟩] 36)
  have CT := Lib.hid (contains_any v [x, y] _ (h.keep n3) (by simp))
  rw [hT] at CT
  obtain ⟨g, o, cap, rfl, hcap, hg, hx⟩ := tri_two h
  have NZ := Lib.hid (fun V => num_any k x.1 y.1 V)
  generalize numZ k x.1 y.1 = r at *
  obtain ⟨xn, xp, xm⟩ := x
  obtain ⟨yn, yp, ym⟩ := y
  obtain ⟨rn, re⟩ := r
  simp only at hx
  unfold nzV at NZ
  simp only at NZ
  clear h hT
  unfold tmV
  simp only
  go_enter Tryz.func26, Tryz.ntmps26
  go_wp2_with fail
  have x0 := cell_kept n3 hx.1.1
  have x3 := cell_kept n3 hx.2.1
  generalize (w.alloc (.cells #[.int .i64 k, .int .i64 n, .string s] 42)).alloc (.cells #[.int .i64 0, .string ⟨#[]⟩, .string ⟨#[]⟩] 36) = W0 at *
  have HB := Lib.hid n3
  have HN := Lib.hid n2
  have HN0 := Lib.hid n1
  clear n1 n2 n3 n4
  refine CT.out.mono ?_
  rintro e w1 ⟨rfl, hb1⟩
  have n1 := block_kept hb1 HN0.out
  have n2 := block_kept hb1 HN.out
  have HB1 := Lib.hid (Below.thn HB.out HB.out.size hb1)
  have HN1 := Lib.hid n2
  obtain ⟨t0, t1, t2⟩ := val_cells n1
  have y0 := cell_kept hb1 x0
  have y3 := cell_kept hb1 x3
  clear hb1 n2 CT x0 x3 hx
  go_wp2_with fail
  go_quiet ((go_at_call 44; exact quiet_eq (NZ.out _)))
  have HNq := Lib.hid (show (w1.drewN nq).heap[_]? = _ from HN1.out)
  have HBq := Lib.hid (below_drewN HB1.out nq)
  obtain ⟨z0, z1, z2⟩ := val_cells HNq.out
  have fz := fz_of HNq.out
  go_wp2_with fail
  obtain ⟨e0, e1, e2⟩ := val_cells (val_set HNq.out (.int .i64 rn) (.string E0) (.string E0))
  exact bodyPost_ret (v := RV ((rn, E0, E0), re)) (by simp [RV, vlV, results, Tryz.results26, go_sem, e0, e1, e2]) rfl ⟨rfl, below_val HBq.out (by omega) _ _ _⟩
theorem takes_2 {k : Int} (h1 : 5 ≤ k) (h2 : k ≤ 14) : takesN k = 2 := by unfold takesN; rw [if_pos ⟨h1, h2⟩]
theorem reckon_any (t : Tm) (v : Value) (T : List V3) (w : World) (h : TriO vlF w v T) (hl : T.length = takesN t.k) (hk1 : 1 ≤ t.k) (hk2 : t.k ≤ 14) (hsz : ∀ x ∈ T, x.2.1.size ≤ 281474976710656 ∧ x.2.2.size ≤ 281474976710656) :
    Calls Tryz.prog 26 #[tmV t, v] w fun e w' => e = .returned (RV (reckonT t T)) ∧ Below w.heap.size w w' := by
  obtain ⟨k, n, s⟩ := t
  simp only at hk1 hk2 hl
  unfold reckonT
  simp only
  by_cases h1 : k = 1
  · subst h1
    rw [if_pos rfl]
    obtain ⟨A, c, rfl⟩ := tri_slice h
    exact reckon_num n s A T.length c w
  rw [if_neg h1]
  by_cases h2 : k = 2
  · subst h2
    rw [if_pos rfl]
    obtain ⟨A, c, rfl⟩ := tri_slice h
    exact reckon_sym n s A T.length c w
  rw [if_neg h2]
  have hl1 : k = 3 ∨ k = 4 → ∃ x, T = [x] := by
    intro hk
    have : T.length = 1 := by rcases hk with rfl | rfl <;> exact hl
    exact List.length_eq_one_iff.1 this
  have hl2 : 5 ≤ k → ∃ x y, T = [x, y] := fun hk => by
    have h2 : T.length = 2 := by rw [hl, takes_2 hk hk2]
    match T, h2 with
    | [x, y], _ => exact ⟨x, y, rfl⟩
  by_cases h3 : k = 3
  · subst h3
    rw [if_pos rfl]
    obtain ⟨x, rfl⟩ := hl1 (.inl rfl)
    exact reckon_neg n s v x w h
  rw [if_neg h3]
  by_cases h8 : k = 8
  · subst h8
    rw [if_pos rfl]
    obtain ⟨x, y, rfl⟩ := hl2 (by decide)
    obtain ⟨a, b⟩ := hsz x (by simp)
    obtain ⟨c, d⟩ := hsz y (by simp)
    exact reckon_add n s v x y w h a b c d
  rw [if_neg h8]
  by_cases h9 : k = 9
  · subst h9
    rw [if_pos rfl]
    obtain ⟨x, y, rfl⟩ := hl2 (by decide)
    obtain ⟨a, b⟩ := hsz x (by simp)
    obtain ⟨c, d⟩ := hsz y (by simp)
    exact reckon_sub n s v x y w h a b c d
  rw [if_neg h9]
  have hT2 : T.length ≤ 2 := by rw [hl]; unfold takesN; split; exact Nat.le_refl _; split <;> omega
  by_cases hT : T.any hasS = true
  · rw [if_pos hT]
    exact reckon_syms k n s v T w h (by omega) hT h1 h2 h3 h8 h9
  rw [if_neg hT]
  have hT' : T.any hasS = false := by simpa using hT
  by_cases h4 : k = 4
  · subst h4
    rw [if_pos rfl]
    obtain ⟨x, rfl⟩ := hl1 (.inr rfl)
    exact reckon_not n s v x w h hT'
  rw [if_neg h4]
  obtain ⟨x, y, rfl⟩ := hl2 (by omega)
  exact reckon_op k n s v x y w h hT' h1 h2 h3 h8 h9 h4
end Go.Proofs.YtdkflmpdelfgoaaGreatDoor
