/-
  Eval, Add: what each call returns. Conditions: what the variable of operators holds (GoodE), and the sizes that each lemma states.
-/
import Derived.Test.YtdkflmpdelfgoaaGreatDoorExprI
namespace Go.Proofs.YtdkflmpdelfgoaaGreatDoor
open Go.RowKit Go.Shelf
set_option linter.unusedVariables false
attribute [local go_sem] Oper.semAt_some

def evalT (T : List Tm) : V3 × Int := if checkT T = 0 then foldT T else (Z3, checkT T)
theorem checkF_may : ∀ (T : List Tm) (h n : Nat), checkF h T = some n → ∀ x ∈ T, mayB x = true
  | [], h, n, e, x, hx => by cases hx
  | a :: T, h, n, e, x, hx => by
    rw [checkF] at e
    split at e
    · rename_i hh
      rcases List.mem_cons.1 hx with rfl | hx
      · exact hh.1
      · exact checkF_may T _ n e x hx
    · cases e
theorem mayB_size {x : Tm} (h : mayB x = true) : x.s.size ≤ 512 := by
  unfold mayB at h
  have e0 : E0.size = 0 := rfl
  split at h
  · rw [of_decide_eq_true h, e0]; omega
  · split at h
    · simp only [Bool.and_eq_true, symB, decide_eq_true_eq] at h
      rw [size_list]; exact h.2.1
    · simp only [Bool.and_eq_true, decide_eq_true_eq] at h
      rw [h.2, e0]; omega
theorem checkT_ok {T : List Tm} (h : checkT T = 0) : checkF 0 T = some 1 ∧ T.length ≤ 256 := by
  unfold checkT at h
  split at h
  · rename_i hh
    split at h
    · rename_i hl; exact ⟨hh, hl⟩
    · cases h
  · cases h
theorem foldF_size {L : Nat} : ∀ (T : List Tm) (st : List V3), (∀ x ∈ T, x.s.size ≤ L) → (∀ y ∈ st, y.2.1.size ≤ L ∧ y.2.2.size ≤ L) → ∀ y ∈ (foldF st T).1, y.2.1.size ≤ L ∧ y.2.2.size ≤ L
  | [], st, _, h => h
  | t :: T, st, hT, h => by
    rw [foldF]
    split
    · refine foldF_size T _ (fun x hx => hT x (List.mem_cons_of_mem _ hx)) ?_
      intro y hy
      rcases List.mem_append.1 hy with hy | hy
      · exact h y (List.mem_of_mem_take hy)
      · rw [List.mem_singleton.1 hy]
        exact reckonT_size (hT t (by simp)) (fun y hy => h y (List.mem_of_mem_drop hy))
    · intro y hy; cases hy
theorem foldT_size {L : Nat} {T : List Tm} (hT : ∀ x ∈ T, x.s.size ≤ L) : (foldT T).1.2.1.size ≤ L ∧ (foldT T).1.2.2.size ≤ L := by
  unfold foldT
  split
  · exact getD_size (foldF_size T [] hT (fun y hy => by cases hy)) 0
  · exact ⟨Nat.zero_le _, Nat.zero_le _⟩
set_option maxRecDepth 100000 in
set_option maxHeartbeats 8000000 in
theorem eval_any (v : Value) (T : List Tm) (w : World) (hG : GoodE w) (h : TriO tmF w v T) (hl : T.length ≤ 281474976710656) (hs : ∀ x ∈ T, x.s.size ≤ maxLen) :
    Calls Tryz.prog 13 #[v] w fun e w' => e = .returned (RV (evalT T)) ∧ Below w.heap.size w w' := by
  have h1 := h.keep (below1 w (.cells #[.int .i64 0, .string ⟨#[]⟩, .string ⟨#[]⟩] 36))
  have hG1 := hG.thn (below1 w (.cells #[.int .i64 0, .string ⟨#[]⟩, .string ⟨#[]⟩] 36))
  have CK := Lib.hid (check_any v T _ hG1 h1 hl hs)
  have HH := Lib.hid h1
  have HG := Lib.hid hG1
  obtain ⟨A, c, rfl⟩ := tri_slice h
  have n2 := heap_alloc_new w (.cells #[.int .i64 0, .string ⟨#[]⟩, .string ⟨#[]⟩] 36)
  have HN := Lib.hid n2
  have HB := Lib.hid (below1 w (.cells #[.int .i64 0, .string ⟨#[]⟩, .string ⟨#[]⟩] 36))
  clear h h1 hG1 hG n2
  unfold evalT
  by_cases hc : checkT T = 0
  · rw [if_pos hc]
    rw [hc] at CK
    obtain ⟨hcf, hl256⟩ := checkT_ok hc
    have hs5 : ∀ x ∈ T, x.s.size ≤ 512 := fun x hx => mayB_size (checkF_may T _ _ hcf x hx)
    have HF := Lib.hid (fun V hb => fold_any (.slice A T.length c) T V (HG.out.thn hb) (HH.out.keep hb) hl256 hcf (fun x hx => Nat.le_trans (hs5 x hx) (by decide)))
    obtain ⟨hz1, hz2⟩ := foldT_size hs5
    generalize foldT T = r at *
    obtain ⟨⟨rn, rp, rm⟩, re⟩ := r
    have CP := Lib.hid (fun V => e_copied_any rn rp rm V (Nat.le_trans hz1 (by decide)) (Nat.le_trans hz2 (by decide)))
    unfold RV vlV at HF
    simp only at HF
    clear hc hcf hl256 hs5 hz1 hz2 hl hs
    go_enter Tryz.func13, Tryz.ntmps13
    go_wp2_with fail
    generalize w.alloc (.cells #[.int .i64 0, .string ⟨#[]⟩, .string ⟨#[]⟩] 36) = W0 at *
    refine CK.out.mono ?_
    rintro e w1 ⟨rfl, hb1⟩
    have HB1 := Lib.hid hb1
    clear hb1
    go_wp2_with fail
    refine (HF.out _ HB1.out).mono ?_
    rintro e w2 ⟨rfl, hb2⟩
    have HB2 := Lib.hid (Below.thn HB1.out HB1.out.size hb2)
    clear hb2
    go_wp2_with fail
    refine (CP.out _).mono ?_
    rintro e w3 ⟨rfl, hb3⟩
    have HB3 := Lib.hid (Below.thn (HB2.out.alloc HB2.out.size _) (by have := HB2.out.size; simp; omega) hb3)
    have n3 := (HB3.out.block _ (heap_lt HN.out)).trans HN.out
    have HN3 := Lib.hid n3
    obtain ⟨z0, z1, z2⟩ := val_cells n3
    have fz := fz_of n3
    have HBW := Lib.hid (Below.thn HB.out HB.out.size HB3.out)
    clear hb3 n3
    go_wp2_with fail
    obtain ⟨e0, e1, e2⟩ := val_cells (val_set HN3.out (.int .i64 rn) (.string rp) (.string rm))
    exact bodyPost_ret (v := RV ((rn, rp, rm), re)) (by simp [RV, vlV, results, Tryz.results13, go_sem, e0, e1, e2]) rfl ⟨rfl, below_val HBW.out (Nat.le_refl _) _ _ _⟩
  · rw [if_neg hc]
    obtain ⟨z, hz⟩ : ∃ z, checkT T = z := ⟨_, rfl⟩
    rw [hz] at CK hc
    rw [hz]
    clear hz hl hs
    go_enter Tryz.func13, Tryz.ntmps13
    go_wp2_with fail
    generalize w.alloc (.cells #[.int .i64 0, .string ⟨#[]⟩, .string ⟨#[]⟩] 36) = W0 at *
    refine CK.out.mono ?_
    rintro e w1 ⟨rfl, hb1⟩
    have n3 := block_kept hb1 HN.out
    have HN3 := Lib.hid n3
    obtain ⟨z0, z1, z2⟩ := val_cells n3
    have fz := fz_of n3
    have HBW := Lib.hid (Below.thn HB.out HB.out.size hb1)
    clear hb1 n3
    go_wp2_with fail
    obtain ⟨e0, e1, e2⟩ := val_cells (val_set HN3.out (.int .i64 0) (.string E0) (.string E0))
    exact bodyPost_ret (v := RV (Z3, z)) (by simp [RV, vlV, results, Tryz.results13, go_sem, e0, e1, e2]) rfl ⟨rfl, below_val HBW.out (Nat.le_refl _) _ _ _⟩
end Go.Proofs.YtdkflmpdelfgoaaGreatDoor
