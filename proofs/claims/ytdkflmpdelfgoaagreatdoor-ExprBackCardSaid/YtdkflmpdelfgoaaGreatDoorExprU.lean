/-
  The parser's state, and what it reads off tokens, as a function; next, enter, bail: what each call returns. Conditions: those of the state.
-/
import Derived.Test.YtdkflmpdelfgoaaGreatDoorExprT
import Derived.Test.YtdkflmpdelfgoaaGreatDoorExprI
namespace Go.Proofs.YtdkflmpdelfgoaaGreatDoor
open Go.RowKit Go.Shelf
set_option linter.unusedVariables false
set_option linter.unusedSimpArgs false
attribute [local go_sem] Oper.semAt_some

structure St where
  at_ : Nat
  tms : List Tm
  cnt : Nat
  op : Nat
inductive Job where
  | row (g : Nat)
  | opd
  | loop (g : Nat)
inductive Rd where
  | num | sym | wit | beh (k : Nat) | non
def nextT (T : List Tok) (s : St) : Tok := T.getD s.at_ tok0
def BO : BA := ⟨#[40]⟩
def BC : BA := ⟨#[41]⟩
def readF (x : Tok) : Rd :=
  if x.k = 2 then .num else if x.k = 1 ∧ symB x.t = true then .sym else if isG x BO = true then .wit else match opOf x 1 with
    | some k => .beh k
    | none => .non
def leafF (s : St) (t : Tm) : Except Int St := if 256 < s.cnt + 1 then .error 93 else .ok ⟨s.at_ + 1, s.tms ++ [t], s.cnt + 1, s.op⟩
def enterF (s : St) : Except Int St := if 64 < s.op + 1 then .error 93 else .ok ⟨s.at_ + 1, s.tms, s.cnt, s.op + 1⟩
def runP (T : List Tok) : Nat → Job → St → Except Int St
  | 0, _, _ => .error 90
  | f + 1, .row g, s => (runP T f .opd s).bind fun s1 => runP T f (.loop g) s1
  | f + 1, .loop g, s => match opOf (nextT T s) 2 with
    | none => .ok s
    | some k => if g < groupN k then .ok s else (runP T f (.row (groupN k - 1)) ⟨s.at_ + 1, s.tms, s.cnt + 1, s.op⟩).bind fun s1 => runP T f (.loop g) ⟨s1.at_, s1.tms ++ [⟨k, 0, E0⟩], s1.cnt, s1.op⟩
  | f + 1, .opd, s => match readF (nextT T s) with
    | .num => leafF s ⟨1, IntKind.i64.wrap ((nextT T s).n : Int), E0⟩
    | .sym => leafF s ⟨2, 0, ⟨(nextT T s).t.toArray⟩⟩
    | .wit => (enterF s).bind fun s1 => (runP T f (.row 6) s1).bind fun s2 => if isG (nextT T s2) BC = true then .ok ⟨s2.at_ + 1, s2.tms, s2.cnt, s2.op - 1⟩ else .error 90
    | .beh k => (enterF s).bind fun s1 => (runP T f .opd ⟨s1.at_, s1.tms, s1.cnt + 1, s1.op⟩).bind fun s2 => .ok ⟨s2.at_, s2.tms ++ [⟨k, 0, E0⟩], s2.cnt, s2.op - 1⟩
    | .non => .error 90
/-! ### a token that is there -/
theorem next_lt {T : List Tok} {s : St} (h : (nextT T s).k ≠ 0) : s.at_ < T.length := by
  rcases Nat.lt_or_ge s.at_ T.length with g | g
  · exact g
  · exfalso; apply h; unfold nextT; rw [List.getD_eq_getElem?_getD, List.getElem?_eq_none g]; rfl
theorem isG_k {x : Tok} {s : BA} (h : isG x s = true) : x.k ≠ 0 := by
  unfold isG at h; simp only [Bool.and_eq_true, decide_eq_true_eq] at h; omega
theorem opOf_k {x : Tok} {n k : Nat} (h : opOf x n = some k) : x.k ≠ 0 := by
  have := List.find?_some h
  rw [Bool.and_eq_true] at this
  exact isG_k this.2
theorem opOf_lt {x : Tok} {n k : Nat} (h : opOf x n = some k) : k < 15 ∧ takesN (k : Int) = n := by
  have h1 := List.mem_of_find?_eq_some h
  have h2 := List.find?_some h
  rw [Bool.and_eq_true, decide_eq_true_eq] at h2
  exact ⟨List.mem_range.1 h1, h2.1⟩
/-! ### the state in memory -/
def tmC (l : List Tm) : List Value := l.flatMap fun x => [.int .i64 x.k, .int .i64 x.n, .string x.s]
theorem tmC_snoc (l : List Tm) (x : Tm) : tmC (l ++ [x]) = tmC l ++ [.int .i64 x.k, .int .i64 x.n, .string x.s] := by
  unfold tmC; rw [List.flatMap_append]; rfl
theorem infoTm : (Tryz.prog.info? 42).map (fun i => (i.zero, i.size, i.bytes)) = some (some (.agg #[.int .i64 0, .int .i64 0, .string ⟨#[]⟩]), 3, 32) := by kernel_rfl
/-- the parser's block holds a state; nothing below it has changed -/
structure PS (w0 : World) (tv : Value) (s : St) (W : World) : Prop where
  box : ∃ sv, W.heap[w0.heap.size]? = some (.cells #[tv, .int .i64 (s.at_ : Int), sv, .int .i64 (s.cnt : Int), .int .i64 (s.op : Int)] 67 (0, 0)) ∧ W.ownsRow (w0.heap.size + 1) 42 3 sv s.tms.length (tmC s.tms)
  bel : Below w0.heap.size w0 W
theorem PS.thn {w0 : World} {tv : Value} {s : St} {W W' : World} (h : PS w0 tv s W) (hb : Below W.heap.size W W') : PS w0 tv s W' := by
  obtain ⟨⟨sv, h1, h2⟩, h3⟩ := h
  exact ⟨⟨sv, block_kept hb h1, own_mono h2 hb (fun g hg => (h2.lt g hg).2)⟩, Below.thn h3 h3.size hb⟩
theorem own_far {W : World} {base size n B o : Nat} {e : TypeId} {v x : Value} {xs : List Value} (h : W.ownsRow base e size v n xs) (hB : B < base) : (W.setCell ⟨B, o, none⟩ x).ownsRow base e size v n xs := by
  refine ⟨h.1, ?_⟩
  rcases h.2 with h1 | ⟨g, cap, cur, rfl, h2, h3, h4⟩
  · exact .inl h1
  · exact .inr ⟨g, cap, cur, rfl, h2, set_far h3 (by omega), h4⟩
theorem five_at {W : World} {B : Nat} {T : TypeId} {z : Nat × Nat} {a b c d e : Value} (h : W.heap[B]? = some (.cells #[a, b, c, d, e] T z)) (x : Value) :
    (W.setCell ⟨B, 1, none⟩ x).heap[B]? = some (.cells #[a, x, c, d, e] T z) ∧ (W.setCell ⟨B, 2, none⟩ x).heap[B]? = some (.cells #[a, b, x, d, e] T z) ∧ (W.setCell ⟨B, 3, none⟩ x).heap[B]? = some (.cells #[a, b, c, x, e] T z) ∧ (W.setCell ⟨B, 4, none⟩ x).heap[B]? = some (.cells #[a, b, c, d, x] T z) := by
  refine ⟨?_, ?_, ?_, ?_⟩ <;> (simp only [World.setCell, Array.getElem?_modify, if_true, h, Option.map_some]; rfl)
theorem cells5 {W : World} {B : Nat} {T : TypeId} {z : Nat × Nat} {a b c d e : Value} (h : W.heap[B]? = some (.cells #[a, b, c, d, e] T z)) : W.cell? ⟨B, 0, none⟩ = some a ∧ W.cell? ⟨B, 1, none⟩ = some b ∧ W.cell? ⟨B, 2, none⟩ = some c ∧ W.cell? ⟨B, 3, none⟩ = some d ∧ W.cell? ⟨B, 4, none⟩ = some e :=
  ⟨by rw [Lib.cell_of_heap h]; rfl, by rw [Lib.cell_of_heap h]; rfl, by rw [Lib.cell_of_heap h]; rfl, by rw [Lib.cell_of_heap h]; rfl, by rw [Lib.cell_of_heap h]; rfl⟩
theorem PS.setAt {w0 : World} {tv : Value} {s : St} {W : World} (h : PS w0 tv s W) (n : Nat) : PS w0 tv ⟨n, s.tms, s.cnt, s.op⟩ (W.setCell ⟨w0.heap.size, 1, none⟩ (.int .i64 (n : Int))) := by
  obtain ⟨⟨sv, h1, h2⟩, h3⟩ := h
  exact ⟨⟨sv, (five_at h1 _).1, own_far h2 (by omega)⟩, h3.setCell (p := ⟨w0.heap.size, 1, none⟩) (Nat.le_refl _) _⟩
theorem PS.setCnt {w0 : World} {tv : Value} {s : St} {W : World} (h : PS w0 tv s W) (n : Nat) : PS w0 tv ⟨s.at_, s.tms, n, s.op⟩ (W.setCell ⟨w0.heap.size, 3, none⟩ (.int .i64 (n : Int))) := by
  obtain ⟨⟨sv, h1, h2⟩, h3⟩ := h
  exact ⟨⟨sv, (five_at h1 _).2.2.1, own_far h2 (by omega)⟩, h3.setCell (p := ⟨w0.heap.size, 3, none⟩) (Nat.le_refl _) _⟩
theorem PS.setOp {w0 : World} {tv : Value} {s : St} {W : World} (h : PS w0 tv s W) (n : Nat) : PS w0 tv ⟨s.at_, s.tms, s.cnt, n⟩ (W.setCell ⟨w0.heap.size, 4, none⟩ (.int .i64 (n : Int))) := by
  obtain ⟨⟨sv, h1, h2⟩, h3⟩ := h
  exact ⟨⟨sv, (five_at h1 _).2.2.2, own_far h2 (by omega)⟩, h3.setCell (p := ⟨w0.heap.size, 4, none⟩) (Nat.le_refl _) _⟩
/-- what the whole reading is over: the tokens that came in, and the variables, below the parser's block -/
structure Base (w0 : World) (tv : Value) (T : List Tok) : Prop where
  good : GoodE w0
  toks : TokO w0 tv T
  len : T.length ≤ 1000000
  u64 : ∀ x ∈ T, x.n < 18446744073709551616
  txt : ∀ x ∈ T, x.t.length ≤ 281474976710656
def panV (x : Int) : Ending := .panicked [{ v := .iface 91 (.agg #[.int .i64 x]), recovered := false }]
set_option maxRecDepth 100000 in
theorem bail_any (x : Int) (w : World) : Calls Tryz.prog 90 #[.int .i64 x] w fun e w' => e = panV x ∧ w = w' := by
  go_enter Tryz.func90, Tryz.ntmps90
  go_wp2_with fail
  simp [bodyPost, panV]
theorem tok_val {W : World} {B : Nat} {T : TypeId} {z : Nat × Nat} {a b c d : Value} (h : W.heap[B]? = some (.cells #[a, b, c, d] T z)) (x0 x1 x2 x3 : Value) :
    ((((W.setCell ⟨B, 0, none⟩ x0).setCell ⟨B, 1, none⟩ x1).setCell ⟨B, 2, none⟩ x2).setCell ⟨B, 3, none⟩ x3).heap[B]? = some (.cells #[x0, x1, x2, x3] T z) := by
  simp only [World.setCell, Array.getElem?_modify, if_true, h, Option.map_some]; rfl
theorem Below.dn {B : Nat} {a w : World} (h : Below B a w) (n : Nat) : Below B a (w.drewN n) := ⟨h.os, h.tape, h.output, h.size, h.block⟩
theorem below_four {n B : Nat} {w W : World} (h : Below n w W) (hB : n ≤ B) (x0 x1 x2 x3 : Value) : Below n w ((((W.setCell ⟨B, 0, none⟩ x0).setCell ⟨B, 1, none⟩ x1).setCell ⟨B, 2, none⟩ x2).setCell ⟨B, 3, none⟩ x3) :=
  (((h.setCell (p := ⟨B, 0, none⟩) hB x0).setCell (p := ⟨B, 1, none⟩) hB x1).setCell (p := ⟨B, 2, none⟩) hB x2).setCell (p := ⟨B, 3, none⟩) hB x3
set_option maxRecDepth 100000 in
set_option maxHeartbeats 4000000 in
theorem next_any {w0 : World} {tv : Value} {T : List Tok} (hB : Base w0 tv T) (s : St) (W : World) (h : PS w0 tv s W) (hat : s.at_ ≤ T.length) :
    Calls Tryz.prog 37 #[.pointer (some ⟨w0.heap.size, 0, none⟩)] W fun e w' => e = .returned (tokQ (nextT T s)) ∧ Below W.heap.size W w' := by
  obtain ⟨⟨sv, h1, h2⟩, h3⟩ := h
  obtain ⟨c0, c1, c2, c3, c4⟩ := cells5 h1
  obtain ⟨A, c, rfl⟩ := hB.toks.slice
  have HT := Lib.hid (hB.toks.keep h3)
  have HZ := Lib.hid h3.size
  have HA := Lib.hid (heap_lt h1)
  by_cases hlt : s.at_ < T.length
  · obtain ⟨g, off, cap, x, hx, hv, x1, x2, x3, x4⟩ := toko_at HT.out hlt
    cases hv
    have HN : nextT T s = x := by unfold nextT; rw [List.getD_eq_getElem?_getD, hx]; rfl
    rw [HN]
    unfold tokQ
    have hne : ((s.at_ : Int) == (T.length : Int)) = false := by rw [beq_eq_false_iff_ne]; omega
    have hne2 : ¬ ((s.at_ : Int) = (T.length : Int)) := by omega
    have hl : T.length ≤ 1000000 := hB.len
    have hlt2 : (s.at_ : Int) < (T.length : Int) := by omega
    have hK : ∀ (V : World), Below W.heap.size W V → PS w0 _ s V := fun V hb => PS.thn ⟨⟨sv, h1, h2⟩, h3⟩ hb
    clear hB hK h1 h2 h3 hx hlt
    go_enter Tryz.func37, Tryz.ntmps37
    go_wp2_with fail
    have HB1 := Lib.hid (below1 W (.cells #[.int .i64 0, .string ⟨#[]⟩, .int .u64 0, .int .i64 0] 62))
    have HN1 := Lib.hid (heap_alloc_new W (.cells #[.int .i64 0, .string ⟨#[]⟩, .int .u64 0, .int .i64 0] 62))
    have d0 := cell_kept HB1.out c0
    have d1 := cell_kept HB1.out c1
    have y1 := cell_kept HB1.out x1
    have y2 := cell_kept HB1.out x2
    have y3 := cell_kept HB1.out x3
    have y4 := cell_kept HB1.out x4
    generalize W.alloc (.cells #[.int .i64 0, .string ⟨#[]⟩, .int .u64 0, .int .i64 0] 62) = W1 at *
    obtain ⟨z0, z1, z2, z3⟩ := cells4 HN1.out
    have fz := fz_of HN1.out
    clear c0 c1 c2 c3 c4 x1 x2 x3 x4
    go_quiet (fail)
    go_wp2_with fail
    go_region_with (fail)
    all_goals
      go_wp2_with fail
      have hz := tok_val (W := W1.drewN (nq + 1)) HN1.out (.int .i64 x.k) (.string ⟨x.t.toArray⟩) (.int .u64 (x.n : Int)) (.int .i64 x.p)
      have hbz := below_four (Below.dn HB1.out (nq + 1)) (Nat.le_refl W.heap.size) (.int .i64 x.k) (.string ⟨x.t.toArray⟩) (.int .u64 (x.n : Int)) (.int .i64 x.p)
      obtain ⟨e0, e1, e2, e3⟩ := cells4 hz
      exact bodyPost_ret (v := .agg #[.int .i64 x.k, .string ⟨x.t.toArray⟩, .int .u64 (x.n : Int), .int .i64 x.p]) (by simp [results, Tryz.results37, go_sem, e0, e1, e2, e3]) rfl ⟨rfl, hbz⟩
  · obtain hl : s.at_ = T.length := by omega
    have HN : nextT T s = tok0 := by unfold nextT; rw [List.getD_eq_getElem?_getD, List.getElem?_eq_none (by omega)]; rfl
    rw [HN]
    unfold tokQ tok0
    rw [hl] at c1
    clear hB h1 h2 h3 HT
    go_enter Tryz.func37, Tryz.ntmps37
    go_wp2_with fail
    have HB1 := Lib.hid (below1 W (.cells #[.int .i64 0, .string ⟨#[]⟩, .int .u64 0, .int .i64 0] 62))
    have HN1 := Lib.hid (heap_alloc_new W (.cells #[.int .i64 0, .string ⟨#[]⟩, .int .u64 0, .int .i64 0] 62))
    have d0 := cell_kept HB1.out c0
    have d1 := cell_kept HB1.out c1
    generalize W.alloc (.cells #[.int .i64 0, .string ⟨#[]⟩, .int .u64 0, .int .i64 0] 62) = W1 at *
    obtain ⟨z0, z1, z2, z3⟩ := cells4 HN1.out
    have fz := fz_of HN1.out
    clear c0 c1 c2 c3 c4
    go_quiet (fail)
    go_wp2_with fail
    have hz := tok_val (W := W1.drewN nq) HN1.out (.int .i64 0) (.string ⟨#[]⟩) (.int .u64 0) (.int .i64 0)
    have hbz := below_four (Below.dn HB1.out nq) (Nat.le_refl W.heap.size) (.int .i64 0) (.string ⟨#[]⟩) (.int .u64 0) (.int .i64 0)
    obtain ⟨e0, e1, e2, e3⟩ := cells4 hz
    exact bodyPost_ret (v := .agg #[.int .i64 0, .string ⟨#[]⟩, .int .u64 0, .int .i64 0]) (by simp [results, Tryz.results37, go_sem, e0, e1, e2, e3]) rfl ⟨rfl, hbz⟩
end Go.Proofs.YtdkflmpdelfgoaaGreatDoor
