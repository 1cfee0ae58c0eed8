/-
  The document's one, at quotes and signs: what each call returns. Conditions: a text of at most 512 bytes that is not empty.
-/
import Derived.Test.YtjmdcimfmmfinaaDoorLexRefG
namespace Go.Proofs.YtjmdcimfmmfinaaDoor
open Go.RowKit

theorem tok_set {W : World} {B : Nat} {T : TypeId} {z : Nat × Nat} {a b c d : Value} (h : W.heap[B]? = some (.cells #[a, b, c, d] T z)) (x0 x1 x2 x3 : Value) :
    ((((W.setCell ⟨B, 0, none⟩ x0).setCell ⟨B, 1, none⟩ x1).setCell ⟨B, 2, none⟩ x2).setCell ⟨B, 3, none⟩ x3).heap[B]? = some (.cells #[x0, x1, x2, x3] T z) := by
  simp only [World.setCell, Array.getElem?_modify, if_true, h, Option.map_some]
  rfl
theorem tok_cells {W : World} {B : Nat} {T : TypeId} {z : Nat × Nat} {x0 x1 x2 x3 : Value} (h : W.heap[B]? = some (.cells #[x0, x1, x2, x3] T z)) :
    W.cell? ⟨B, 0, none⟩ = some x0 ∧ W.cell? ⟨B, 1, none⟩ = some x1 ∧ W.cell? ⟨B, 2, none⟩ = some x2 ∧ W.cell? ⟨B, 3, none⟩ = some x3 :=
  ⟨by rw [Lib.cell_of_heap h]; rfl, by rw [Lib.cell_of_heap h]; rfl, by rw [Lib.cell_of_heap h]; rfl, by rw [Lib.cell_of_heap h]; rfl⟩
theorem below_tok {n B : Nat} {w W : World} (h : Below n w W) (hB : n ≤ B) (x0 x1 x2 x3 : Value) : Below n w ((((W.setCell ⟨B, 0, none⟩ x0).setCell ⟨B, 1, none⟩ x1).setCell ⟨B, 2, none⟩ x2).setCell ⟨B, 3, none⟩ x3) :=
  (((h.setCell (p := ⟨B, 0, none⟩) hB x0).setCell (p := ⟨B, 1, none⟩) hB x1).setCell (p := ⟨B, 2, none⟩) hB x2).setCell (p := ⟨B, 3, none⟩) hB x3
theorem one_quote (r : Bs) : one (34 :: r) = (unq r).map fun x => (3, x.1, 0, x.2 + 1) := by
  show ((quotesB (34 :: r)).map fun x => ((3 : Int), x.1, 0, x.2)) = _
  show (((unq r).map fun x => (x.1, x.2 + 1)).map fun x => ((3 : Int), x.1, 0, x.2)) = _
  cases unq r <;> rfl
set_option maxRecDepth 100000 in
set_option maxHeartbeats 4000000 in
theorem rone_quote (s : ByteArray) (r : Bs) (w : World) (hs : s.size ≤ 512) (hl : s.data.toList = 34 :: r) :
    Calls Tryd.prog 31 #[.string s] w fun e w' => e = ROne (one (34 :: r)) (errO (34 :: r)) ∧ Below w.heap.size w w' := by
  obtain ⟨h0, gx⟩ := byte_of (j := 0) hl rfl
  have h0' : 0 < (s.size : Int) := by omega
  have L := Lib.hid (fun w => rletter_any 34 w)
  have D := Lib.hid (fun w => rdecimal_any 34 w)
  rw [show isL 34 = false from rfl] at L
  rw [show isD 34 = false from rfl] at D
  have Q := Lib.hid (fun w => rquotes_doc s w (by omega) h0)
  rw [hl, List.drop_succ_cons, List.drop_zero] at Q
  rw [one_quote, show errO (34 :: r) = 82 from rfl]
  have hlen : s.size = r.length + 1 := by rw [size_list, hl]; rfl
  clear hl
  cases hu : unq r with
  | none =>
    rw [hu] at Q
    unfold QOut at Q
    clear hu
    go_enter Tryd.func31, Tryd.ntmps31
    go_wp2_with fail
    refine (L.out _).mono ?_
    rintro e w' ⟨rfl, rfl⟩
    go_wp2_with fail
    refine (D.out _).mono ?_
    rintro e w' ⟨rfl, rfl⟩
    go_wp2_with fail
    refine (Q.out _).mono ?_
    rintro e w2 ⟨rfl, hb⟩
    have hbx : w2.heap[w.heap.size]? = some (.cells #[.int .i64 0, .string ⟨#[]⟩, .int .u64 0, .int .i64 0] 30 (0, 0)) := (hb.block _ (by simp)).trans (heap_alloc_new w _)
    have HB := Lib.hid (Below.thn (below1 w _) (by simp) hb)
    have c0 : w2.cell? ⟨w.heap.size, 0, none⟩ = some (.int .i64 0) := by rw [Lib.cell_of_heap hbx]; rfl
    have c1 : w2.cell? ⟨w.heap.size, 1, none⟩ = some (.string ⟨#[]⟩) := by rw [Lib.cell_of_heap hbx]; rfl
    have c2 : w2.cell? ⟨w.heap.size, 2, none⟩ = some (.int .u64 0) := by rw [Lib.cell_of_heap hbx]; rfl
    have c3 : w2.cell? ⟨w.heap.size, 3, none⟩ = some (.int .i64 0) := by rw [Lib.cell_of_heap hbx]; rfl
    have fz : ∀ j, w2.frozen? ⟨w.heap.size, j, none⟩ = false := fun j => by simp [World.frozen?, hbx]
    clear hb
    go_wp2_with fail
    obtain ⟨e0, e1, e2, e3⟩ := tok_cells (tok_set hbx (.int .i64 0) (.string ⟨#[]⟩) (.int .u64 0) (.int .i64 0))
    exact bodyPost_ret (v := .tuple #[.agg #[.int .i64 0, .string ⟨#[]⟩, .int .u64 0, .int .i64 0], .int .i64 0, .int .i64 82]) (by simp [results, Tryd.results31, go_sem, e0, e1, e2, e3]) rfl ⟨rfl, below_tok HB.out (Nat.le_refl _) _ _ _ _⟩
  | some x =>
    obtain ⟨b, n⟩ := x
    have hn := unq_le _ _ _ _ hu
    have hn512 : r.length ≤ 512 := by have : s.size = r.length + 1 := hlen; omega
    rw [hu] at Q
    unfold QOut at Q
    have hn1 : (((n + 1 : Nat) : Int) == 0) = false := by simp; omega
    obtain ⟨m, hm⟩ : ∃ m, n + 1 = m := ⟨_, rfl⟩
    dsimp only at Q
    rw [hm] at hn1 Q
    obtain ⟨D2, hD2⟩ : ∃ D2 : ByteArray, ⟨b.toArray⟩ = D2 := ⟨_, rfl⟩
    rw [hD2] at Q
    obtain ⟨O, hO⟩ : ∃ O, ROne (Option.map (fun x : Bs × Nat => ((3 : Int), x.1, 0, x.2 + 1)) (some (b, n))) 82 = O := ⟨_, rfl⟩
    rw [hO]
    have R := Lib.hid (show O = .returned (.tuple #[.agg #[.int .i64 3, .string D2, .int .u64 0, .int .i64 0], .int .i64 (m : Int), .int .i64 0]) by rw [← hO, ← hD2, ← hm]; rfl)
    clear hO
    clear hu hn hm hD2
    go_enter Tryd.func31, Tryd.ntmps31
    go_wp2_with fail
    refine (L.out _).mono ?_
    rintro e w' ⟨rfl, rfl⟩
    go_wp2_with fail
    refine (D.out _).mono ?_
    rintro e w' ⟨rfl, rfl⟩
    go_wp2_with fail
    refine (Q.out _).mono ?_
    rintro e w2 ⟨rfl, hb⟩
    have hbx : w2.heap[w.heap.size]? = some (.cells #[.int .i64 0, .string ⟨#[]⟩, .int .u64 0, .int .i64 0] 30 (0, 0)) := (hb.block _ (by simp)).trans (heap_alloc_new w _)
    have HB := Lib.hid (Below.thn (below1 w _) (by simp) hb)
    have c0 : w2.cell? ⟨w.heap.size, 0, none⟩ = some (.int .i64 0) := by rw [Lib.cell_of_heap hbx]; rfl
    have c1 : w2.cell? ⟨w.heap.size, 1, none⟩ = some (.string ⟨#[]⟩) := by rw [Lib.cell_of_heap hbx]; rfl
    have c2 : w2.cell? ⟨w.heap.size, 2, none⟩ = some (.int .u64 0) := by rw [Lib.cell_of_heap hbx]; rfl
    have c3 : w2.cell? ⟨w.heap.size, 3, none⟩ = some (.int .i64 0) := by rw [Lib.cell_of_heap hbx]; rfl
    have fz : ∀ j, w2.frozen? ⟨w.heap.size, j, none⟩ = false := fun j => by simp [World.frozen?, hbx]
    have EX := Lib.hid (tok_set hbx (.int .i64 3) (.string D2) (.int .u64 0) (.int .i64 0))
    clear hb hbx
    go_wp2_with fail
    obtain ⟨e0, e1, e2, e3⟩ := tok_cells EX.out
    exact bodyPost_ret (v := .tuple #[.agg #[.int .i64 3, .string D2, .int .u64 0, .int .i64 0], .int .i64 (m : Int), .int .i64 0]) (by simp [results, Tryd.results31, go_sem, e0, e1, e2, e3]) rfl ⟨by rw [R.out], below_tok HB.out (Nat.le_refl _) _ _ _ _⟩

theorem step_call_drew {P : Program} {w : World} {ops : Array Oper} {o : Oper} {a : Act} {K : Act → World → Prop} {Q : Exit → Act → World → Prop} {E : Prop} (hgd : o.guard = none) (f : FuncId) (x : Operand) (T : TypeId)
    (ho : o.op = .call { callee := .value (.func f), args := #[x], argTypes := #[T] }) (u v : Value) (hx : a.eval x = u) (hf : ∀ args w, (callFunc f args).run P w = .ok (.enter f args) w)
    (H : Calls P f #[u] w fun e w' => e = .returned v ∧ ∃ m, w' = w.drewN m) (h : ∀ m, K (a.put o.dst v) (w.drewN m)) :
    if Region.wanted o (yielded ops a.tmps) = true then Oper.wp P o a w K Q else E := by
  have hw : Region.wanted o (yielded ops a.tmps) = true := by simp [Region.wanted, hgd]
  rw [if_pos hw]
  unfold Oper.wp execOp
  simp only [ho, resolve, invoke, Sem.run_bind, Sem.run_pure, Result.andThen_ok, List.map_toArray, List.map_cons, List.map_nil, go_sem, hf]
  change Calls P f (#[] ++ #[a.eval x] ++ #[]) w _
  rw [hx]
  exact H.mono (by rintro _ _ ⟨rfl, m, rfl⟩; exact h m)
theorem enters_sign : ∀ args w, (callFunc 36 args).run Tryd.prog w = .ok (.enter 36 args) w := enters_of Tryd.func36 (by kernel_rfl) rfl
theorem drewN_heap (w : World) (m : Nat) : (w.drewN m).heap = w.heap := by
  induction m with
  | zero => rfl
  | succ m ih => exact ih
theorem errO_sign {c : UInt8} {r : Bs} (hD : isD c = false) (h39 : c ≠ 39) (h34 : c ≠ 34) : errO (c :: r) = 80 := by
  have h1 : (isD c || c == 39) = false := by simp [hD, h39]
  have h2 : (c == 34) = false := by simp [h34]
  unfold errO; simp only [h1, h2, Bool.false_eq_true, if_false]
theorem one_sign {c : UInt8} {r : Bs} (hL : isL c = false) (hD : isD c = false) (h39 : c ≠ 39) (h34 : c ≠ 34) : one (c :: r) = if signN (c :: r) = 0 then none else some (4, (c :: r).take (signN (c :: r)), 0, signN (c :: r)) := by
  have h1 : (isD c || c == 39) = false := by simp [hD, h39]
  have h2 : (c == 34) = false := by simp [h34]
  unfold one; simp only [hL, h1, h2, Bool.false_eq_true, if_false]
set_option maxRecDepth 100000 in
set_option maxHeartbeats 4000000 in
theorem rone_sign (s : ByteArray) (c : UInt8) (r : Bs) (w : World) (hs : s.size ≤ 512) (hl : s.data.toList = c :: r) (hL : isL c = false) (hD : isD c = false) (h39 : c ≠ 39) (h34 : c ≠ 34) :
    Calls Tryd.prog 31 #[.string s] w fun e w' => e = ROne (one (c :: r)) (errO (c :: r)) ∧ Below w.heap.size w w' := by
  obtain ⟨h0, gx⟩ := byte_of (j := 0) hl rfl
  have h0' : 0 < (s.size : Int) := by omega
  have L := Lib.hid (fun w => rletter_any c w)
  have D := Lib.hid (fun w => rdecimal_any c w)
  have SG := Lib.hid (fun w => docSign_any s w (by unfold maxLen; omega))
  rw [hL] at L
  rw [hD] at D
  rw [hl] at SG
  rw [one_sign hL hD h39 h34, errO_sign hD h39 h34]
  have hle := (signN_le (c :: r)).1
  have hsz : s.size = (c :: r).length := by rw [size_list, hl]
  have EX := ext_list hl (signN (c :: r))
  have f39 : ((c.toNat : Int) == 39) = false := by
    have : c.toNat ≠ 39 := fun h => h39 (UInt8.toNat_inj.1 h)
    simp; omega
  have f34 : ((c.toNat : Int) == 34) = false := by
    have : c.toNat ≠ 34 := fun h => h34 (UInt8.toNat_inj.1 h)
    simp; omega
  rw [← hsz] at hle
  obtain ⟨n, hn⟩ : ∃ n, signN (c :: r) = n := ⟨_, rfl⟩
  rw [hn] at SG EX hle ⊢
  clear hL hD h39 h34 hl hsz hn
  obtain ⟨O, hO⟩ : ∃ O, ROne (if n = 0 then none else some (4, List.take n (c :: r), 0, n)) 80 = O := ⟨_, rfl⟩
  rw [hO]
  by_cases hn0 : n = 0
  · subst hn0
    have R := Lib.hid (show O = .returned (.tuple #[.agg #[.int .i64 0, .string ⟨#[]⟩, .int .u64 0, .int .i64 0], .int .i64 0, .int .i64 80]) by rw [← hO, if_pos rfl]; rfl)
    clear hO EX
    go_enter Tryd.func31, Tryd.ntmps31
    go_wp2_with fail
    refine (L.out _).mono ?_
    rintro e w' ⟨rfl, rfl⟩
    go_wp2_with fail
    refine (D.out _).mono ?_
    rintro e w' ⟨rfl, rfl⟩
    go_wp2_with fail
    refine (SG.out _).mono ?_
    rintro e w2 ⟨rfl, m, hm⟩
    have hbx : w2.heap[w.heap.size]? = some (.cells #[.int .i64 0, .string ⟨#[]⟩, .int .u64 0, .int .i64 0] 30 (0, 0)) := by rw [hm, drewN_heap]; exact heap_alloc_new w _
    have HB := Lib.hid (show Below w.heap.size w w2 by rw [hm]; exact below_drewN (below1 w _) m)
    have c0 : w2.cell? ⟨w.heap.size, 0, none⟩ = some (.int .i64 0) := by rw [Lib.cell_of_heap hbx]; rfl
    have c1 : w2.cell? ⟨w.heap.size, 1, none⟩ = some (.string ⟨#[]⟩) := by rw [Lib.cell_of_heap hbx]; rfl
    have c2 : w2.cell? ⟨w.heap.size, 2, none⟩ = some (.int .u64 0) := by rw [Lib.cell_of_heap hbx]; rfl
    have c3 : w2.cell? ⟨w.heap.size, 3, none⟩ = some (.int .i64 0) := by rw [Lib.cell_of_heap hbx]; rfl
    have fz : ∀ j, w2.frozen? ⟨w.heap.size, j, none⟩ = false := fun j => by simp [World.frozen?, hbx]
    have TS := Lib.hid (tok_set hbx (.int .i64 0) (.string ⟨#[]⟩) (.int .u64 0) (.int .i64 0))
    clear hm hbx
    go_wp2_with fail
    obtain ⟨e0, e1, e2, e3⟩ := tok_cells TS.out
    exact bodyPost_ret (v := .tuple #[.agg #[.int .i64 0, .string ⟨#[]⟩, .int .u64 0, .int .i64 0], .int .i64 0, .int .i64 80]) (by simp [results, Tryd.results31, go_sem, e0, e1, e2, e3]) rfl ⟨by rw [R.out], below_tok HB.out (Nat.le_refl _) _ _ _ _⟩
  · have hn1 : 0 < (n : Int) := by omega
    have R := Lib.hid (show O = .returned (.tuple #[.agg #[.int .i64 4, .string (s.extract 0 n), .int .u64 0, .int .i64 0], .int .i64 (n : Int), .int .i64 0]) by rw [← hO, if_neg hn0, EX]; rfl)
    have hle' : (n : Int) ≤ (s.size : Int) := by omega
    clear hO EX hn0
    go_enter Tryd.func31, Tryd.ntmps31
    go_wp2_with fail
    refine (L.out _).mono ?_
    rintro e w' ⟨rfl, rfl⟩
    go_wp2_with fail
    refine (D.out _).mono ?_
    rintro e w' ⟨rfl, rfl⟩
    go_wp2_with fail
    refine (SG.out _).mono ?_
    rintro e w2 ⟨rfl, m, hm⟩
    have hbx : w2.heap[w.heap.size]? = some (.cells #[.int .i64 0, .string ⟨#[]⟩, .int .u64 0, .int .i64 0] 30 (0, 0)) := by rw [hm, drewN_heap]; exact heap_alloc_new w _
    have HB := Lib.hid (show Below w.heap.size w w2 by rw [hm]; exact below_drewN (below1 w _) m)
    have c0 : w2.cell? ⟨w.heap.size, 0, none⟩ = some (.int .i64 0) := by rw [Lib.cell_of_heap hbx]; rfl
    have c1 : w2.cell? ⟨w.heap.size, 1, none⟩ = some (.string ⟨#[]⟩) := by rw [Lib.cell_of_heap hbx]; rfl
    have c2 : w2.cell? ⟨w.heap.size, 2, none⟩ = some (.int .u64 0) := by rw [Lib.cell_of_heap hbx]; rfl
    have c3 : w2.cell? ⟨w.heap.size, 3, none⟩ = some (.int .i64 0) := by rw [Lib.cell_of_heap hbx]; rfl
    have fz : ∀ j, w2.frozen? ⟨w.heap.size, j, none⟩ = false := fun j => by simp [World.frozen?, hbx]
    have HX := Lib.hid hbx
    clear hm hbx
    go_wp2_with fail
    go_region_law (first | (refine step_call_drew (by rfl) 36 (.tmp 89) 9 (by rfl) _ _ (by rfl) enters_sign (SG.out _) ?_; intro m1) | (refine step_call_drew (by rfl) 36 (.tmp 93) 9 (by rfl) _ _ (by rfl) enters_sign (SG.out _) ?_; intro m2))
    all_goals go_wp2_with fail
    have hb' : (w2.drewN (1 + m1 + m2)).heap[w.heap.size]? = some (.cells #[.int .i64 0, .string ⟨#[]⟩, .int .u64 0, .int .i64 0] 30 (0, 0)) := by rw [drewN_heap]; exact HX.out
    obtain ⟨e0, e1, e2, e3⟩ := tok_cells (tok_set hb' (.int .i64 4) (.string (s.extract 0 n)) (.int .u64 0) (.int .i64 0))
    exact bodyPost_ret (v := .tuple #[.agg #[.int .i64 4, .string (s.extract 0 n), .int .u64 0, .int .i64 0], .int .i64 (n : Int), .int .i64 0]) (by simp [results, Tryd.results31, go_sem, e0, e1, e2, e3]) rfl ⟨by rw [R.out], below_tok (below_drewN HB.out _) (Nat.le_refl _) _ _ _ _⟩

/-- THE DOCUMENT's ONE -/
theorem rone_any (s : ByteArray) (c : UInt8) (r : Bs) (w : World) (hs : s.size ≤ 512) (hl : s.data.toList = c :: r) :
    Calls Tryd.prog 31 #[.string s] w fun e w' => e = ROne (one (c :: r)) (errO (c :: r)) ∧ Below w.heap.size w w' := by
  cases hL : isL c with
  | true => exact rone_letter s c r w hs hl hL
  | false =>
    cases hD : isD c with
    | true => exact rone_num s c r w hs hl hL (.inl hD)
    | false =>
      by_cases h39 : c = 39
      · exact rone_num s c r w hs hl hL (.inr h39)
      · by_cases h34 : c = 34
        · subst h34; exact rone_quote s r w hs hl
        · exact rone_sign s c r w hs hl hL hD h39 h34
end Go.Proofs.YtjmdcimfmmfinaaDoor
