/-
  nest over the last nodes of a row; the function of folding terms to a tree. Conditions: where the row lies.
-/
import Derived.Test.YtdkflmpdelfgoaaDoorExprNdA
import Derived.Test.YtdkflmpdelfgoaaDoorExprJ
namespace Go.Proofs.YtdkflmpdelfgoaaDoor
open Go.RowKit Go.Shelf
set_option linter.unusedVariables false
set_option linter.unusedSimpArgs false
attribute [local go_sem] Oper.semAt_some

abbrev NS := Nd × Option Addr × Nat × Nat
abbrev sv (x : NS) : Value := .slice x.2.1 x.2.2.1 x.2.2.2
def ndC (l : List NS) : List Value := l.flatMap fun x => NdC x.1 (sv x)
theorem ndC_length : ∀ l : List NS, (ndC l).length = l.length * 5
  | [] => rfl
  | x :: l => by
    have ih := ndC_length l
    unfold ndC at ih ⊢
    rw [List.flatMap_cons, List.length_append, ih, List.length_cons]
    show 5 + _ = _
    omega
theorem ndC_at : ∀ (T : List NS) (k : Nat) (x : NS), T[k]? = some x → (ndC T)[k * 5]? = some (.int .i64 x.1.tm.k) ∧ (ndC T)[k * 5 + 1]? = some (.int .i64 x.1.tm.n) ∧ (ndC T)[k * 5 + 2]? = some (.string x.1.tm.s) ∧ (ndC T)[k * 5 + 3]? = some (sv x) ∧ (ndC T)[k * 5 + 4]? = some (.int .i64 (x.1.dep : Int))
  | [], k, x, h => by simp at h
  | y :: T, 0, x, h => by simp at h; subst h; exact ⟨rfl, rfl, rfl, rfl, rfl⟩
  | y :: T, k + 1, x, h => by
    have := ndC_at T k x (by simpa using h)
    rw [show (k + 1) * 5 = k * 5 + 1 + 1 + 1 + 1 + 1 by omega]
    exact this
theorem ndC_take (T : List NS) (m : Nat) : (ndC T).take (m * 5) = ndC (T.take m) := by
  induction T generalizing m with
  | nil => simp [ndC]
  | cons x T ih =>
    cases m with
    | zero => simp [ndC]
    | succ m =>
      have h := ih m
      unfold ndC at h ⊢
      rw [List.flatMap_cons, List.take_succ_cons, List.flatMap_cons, show (m + 1) * 5 = 5 + m * 5 by omega, List.take_append]
      rw [show (NdC x.1 (sv x)).take (5 + m * 5) = NdC x.1 (sv x) from List.take_of_length_le (by simp [NdC])]
      rw [show 5 + m * 5 - (NdC x.1 (sv x)).length = m * 5 by simp [NdC], h]
theorem ndC_snoc (l : List NS) (x : NS) : ndC (l ++ [x]) = ndC l ++ NdC x.1 (sv x) := by
  unfold ndC; rw [List.flatMap_append]; simp
/-- a slice reads as a row of nodes -/
def QuiO (W : World) (v : Value) (A : List NS) : Prop := (A = [] ∧ ∃ a c, v = .slice a 0 c) ∨ ∃ g off cap, v = .slice (some ⟨g, off, none⟩) A.length cap ∧ A.length ≤ cap ∧ ∀ (k : Nat) (x : NS), A[k]? = some x → Five W g (off + k * 5) x.1 (sv x)
theorem QuiO.keep {W W' : World} {v : Value} {A : List NS} (h : QuiO W v A) (hb : Below W.heap.size W W') : QuiO W' v A := by
  rcases h with h | ⟨g, off, cap, h1, h2, h3⟩
  · exact .inl h
  · exact .inr ⟨g, off, cap, h1, h2, fun k x hx => (h3 k x hx).keep hb⟩
theorem qui_cut {W : World} {base m tk cap : Nat} {A : Option Addr} {st : List NS} (h : W.ownsRow base 65 5 (.slice A (m + tk) cap) (m + tk) (ndC st)) (hl : st.length = m + tk) : QuiO W (.slice (if cap = m then A else Option.map (fun x => x.add (m * 5)) A) tk (cap - m)) (st.drop m) := by
  have hdl : (st.drop m).length = tk := by rw [List.length_drop]; omega
  rcases Nat.eq_zero_or_pos tk with h0 | h0
  · subst h0
    rw [List.length_eq_zero_iff.1 hdl]
    exact .inl ⟨rfl, _, _, rfl⟩
  · rcases h.2 with ⟨h1, h2⟩ | ⟨g, cap', cur, h1, h2, h3, h4, h5, h6, h7⟩
    · omega
    · cases h1
      rw [if_neg (by omega)]
      simp only [Option.map_some]
      rw [Go.WideShapes.add_plain]
      refine .inr ⟨g, 0 + m * 5, cap - m, by rw [hdl], by omega, fun k x hx => ?_⟩
      rw [List.getElem?_drop] at hx
      obtain ⟨a, b, c, d, e⟩ := ndC_at st _ _ hx
      have hk : m + k < st.length := by
        rcases Nat.lt_or_ge (m + k) st.length with g | g
        · exact g
        · rw [List.getElem?_eq_none g] at hx; cases hx
      refine ⟨?_, ?_, ?_, ?_, ?_⟩
      · rw [h.cellAt _ (by omega), show 0 + m * 5 + k * 5 = (m + k) * 5 by omega]; exact a
      · rw [h.cellAt _ (by omega), show 0 + m * 5 + k * 5 + 1 = (m + k) * 5 + 1 by omega]; exact b
      · rw [h.cellAt _ (by omega), show 0 + m * 5 + k * 5 + 2 = (m + k) * 5 + 2 by omega]; exact c
      · rw [h.cellAt _ (by omega), show 0 + m * 5 + k * 5 + 3 = (m + k) * 5 + 3 by omega]; exact d
      · rw [h.cellAt _ (by omega), show 0 + m * 5 + k * 5 + 4 = (m + k) * 5 + 4 by omega]; exact e
def mkN (t : Tm) : List Nd → Nd
  | [a] => .un t a
  | [a, b] => .bi t a b
  | _ => .lf t
/-- what nest tells beside the row: the term's fields, the depth, the error -/
structure NQ where
  k : Int
  n : Int
  s : BA
  d : Int
  e : Int
def nq (x : Nd) : NQ := if x.dep ≤ 64 then ⟨x.tm.k, x.tm.n, x.tm.s, (x.dep : Int), 0⟩ else ⟨0, 0, E0, 0, 93⟩
def QV (r : NQ) (v : Value) : Value := .tuple #[.agg #[.int .i64 r.k, .int .i64 r.n, .string r.s, v, .int .i64 r.d], .int .i64 r.e]
theorem nq_R (x : Nd) (v : Value) : NdR x v = QV (nq x) (if x.dep ≤ 64 then v else ZN) := by
  unfold NdR nq QV
  split <;> rfl
/-- blocks of what is there, or was made -/
def PG (P : Nat → Prop) (w w' : World) (g : Nat) : Prop := P g ∨ (w.heap.size ≤ g ∧ g < w'.heap.size)
theorem nest_any (t : Tm) (v : Value) (A : List NS) (P : Nat → Prop) (w : World) (h : QuiO w v A) (hl : A.length = takesN t.k) (hd : ∀ x ∈ A, x.1.dep ≤ 64) (hP : ∀ g, P g → g < w.heap.size) (hN : ∀ x ∈ A, NdAt P w x.1 (sv x)) :
    Calls Tryd.prog 34 #[tmV t, v] w fun e w' => ∃ ao m c, e = .returned (QV (nq (mkN t (A.map Prod.fst))) (.slice ao m c)) ∧ (NdAt (PG P w w') w' (mkN t (A.map Prod.fst)) (.slice ao m c) ∨ (nq (mkN t (A.map Prod.fst))).e ≠ 0) ∧ Below w.heap.size w w' := by
  have ht := takes_le t.k
  have keep : ∀ (w' : World), Below w.heap.size w w' → ∀ x ∈ A, NdAt (PG P w w') w' x.1 (sv x) := fun w' hb x hx =>
    NdAt.keep (fun g hg => .inl hg) (fun g hg => hb.block g (hP g hg)) (hN x hx)
  match A, h, hl, hd, hN, keep with
  | [], h, hl, hd, hN, keep =>
    obtain ⟨a, c, rfl⟩ : ∃ a c, v = .slice a 0 c := by
      rcases h with ⟨-, h⟩ | ⟨g, off, cap, h, -⟩
      · exact h
      · exact ⟨_, _, h⟩
    refine (nest_0 t a c w).mono ?_
    rintro e w' ⟨rfl, hb⟩
    refine ⟨none, 0, 0, ?_, .inl rfl, hb⟩
    rw [nq_R]
    show _ = Ending.returned (QV (nq (.lf t)) ZN)
    split <;> rfl
  | [x], h, hl, hd, hN, keep =>
    obtain ⟨g, off, cap, rfl, hc, hx⟩ : ∃ g off cap, v = .slice (some ⟨g, off, none⟩) 1 cap ∧ 1 ≤ cap ∧ Five w g (off + 0 * 5) x.1 (sv x) := by
      rcases h with ⟨h, -⟩ | ⟨g, off, cap, h, hc, hx⟩
      · cases h
      · exact ⟨g, off, cap, h, hc, hx 0 x rfl⟩
    refine (nest_1 t g off cap x.1 x.2.1 x.2.2.1 x.2.2.2 w (by simpa using hx) (hd x (by simp))).mono ?_
    rintro e w' ⟨g', c', rfl, hc', hg1, hg2, hf, hb⟩
    rw [nq_R]
    show ∃ ao m c, Ending.returned (QV (nq (.un t x.1)) _) = _ ∧ _
    by_cases h64 : (Nd.un t x.1).dep ≤ 64
    · rw [if_pos h64]
      exact ⟨_, _, _, rfl, .inl ⟨g', c', sv x, rfl, hc', .inr ⟨hg1, hg2⟩, hf, keep _ hb x (by simp)⟩, hb⟩
    · rw [if_neg h64]
      exact ⟨_, _, _, rfl, .inr (by show (nq (.un t x.1)).e ≠ 0; unfold nq; rw [if_neg h64]; decide), hb⟩
  | [x, y], h, hl, hd, hN, keep =>
    obtain ⟨g, off, cap, rfl, hc, hx, hy⟩ : ∃ g off cap, v = .slice (some ⟨g, off, none⟩) 2 cap ∧ 2 ≤ cap ∧ Five w g (off + 0 * 5) x.1 (sv x) ∧ Five w g (off + 1 * 5) y.1 (sv y) := by
      rcases h with ⟨h, -⟩ | ⟨g, off, cap, h, hc, hx⟩
      · cases h
      · exact ⟨g, off, cap, h, hc, hx 0 x rfl, hx 1 y rfl⟩
    refine (nest_2 t g off cap x.1 y.1 x.2.1 x.2.2.1 x.2.2.2 y.2.1 y.2.2.1 y.2.2.2 w (by simpa using hx) (by simpa using hy) (hd x (by simp)) (hd y (by simp)) hc).mono ?_
    rintro e w' ⟨g', c', rfl, hc', hg1, hg2, hf, hf', hb⟩
    rw [nq_R]
    show ∃ ao m c, Ending.returned (QV (nq (.bi t x.1 y.1)) _) = _ ∧ _
    by_cases h64 : (Nd.bi t x.1 y.1).dep ≤ 64
    · rw [if_pos h64]
      exact ⟨_, _, _, rfl, .inl ⟨g', c', sv x, sv y, rfl, hc', .inr ⟨hg1, hg2⟩, hf, hf', keep _ hb x (by simp), keep _ hb y (by simp)⟩, hb⟩
    · rw [if_neg h64]
      exact ⟨_, _, _, rfl, .inr (by show (nq (.bi t x.1 y.1)).e ≠ 0; unfold nq; rw [if_neg h64]; decide), hb⟩
  | x :: y :: z :: A, h, hl, hd, hN, keep => simp at hl; omega
/-- terms folded to trees: none where one is too deep -/
def foldN : List Nd → List Tm → Option (List Nd)
  | st, [] => some st
  | st, t :: r => if (mkN t (st.drop (st.length - takesN t.k))).dep ≤ 64 then foldN (st.take (st.length - takesN t.k) ++ [mkN t (st.drop (st.length - takesN t.k))]) r else none
theorem foldN_snoc : ∀ (A : List Tm) (st st' : List Nd) (x : Tm), foldN st A = some st' → foldN st (A ++ [x]) = if (mkN x (st'.drop (st'.length - takesN x.k))).dep ≤ 64 then some (st'.take (st'.length - takesN x.k) ++ [mkN x (st'.drop (st'.length - takesN x.k))]) else none
  | [], st, st', x, h => by cases h; rfl
  | t :: A, st, st', x, h => by
    rw [foldN] at h
    split at h
    · rename_i hh
      rw [List.cons_append, foldN, if_pos hh]
      exact foldN_snoc A _ _ x h
    · cases h
theorem foldN_none : ∀ (A B : List Tm) (st : List Nd), foldN st A = none → foldN st (A ++ B) = none
  | [], B, st, h => by cases h
  | t :: A, B, st, h => by
    rw [foldN] at h
    rw [List.cons_append, foldN]
    split at h
    · rename_i hh; rw [if_pos hh]; exact foldN_none A B _ h
    · rename_i hh; rw [if_neg hh]
def rootN (T : List Tm) : Option Nd := (foldN [] T).bind fun l => l[0]?
end Go.Proofs.YtdkflmpdelfgoaaDoor
namespace Go.Proofs.YtdkflmpdelfgoaaDoor
open Go.RowKit Go.Shelf
set_option linter.unusedVariables false
set_option linter.unusedSimpArgs false
attribute [local go_sem] Oper.semAt_some

theorem below_of_drew {n : Nat} {w w' : World} (h : Below n w.drew w') : Below n w w' := ⟨h.os, h.tape, h.output, h.size, h.block⟩
theorem far5 {W : World} {B b : Nat} (hne : B ≠ b) {x0 x1 x2 x3 x4 v0 v1 v2 : Value} (h : W.cell? ⟨b, 0, none⟩ = some v0 ∧ W.cell? ⟨b, 1, none⟩ = some v1 ∧ W.cell? ⟨b, 2, none⟩ = some v2) :
    (((((W.setCell ⟨B, 0, none⟩ x0).setCell ⟨B, 1, none⟩ x1).setCell ⟨B, 2, none⟩ x2).setCell ⟨B, 3, none⟩ x3).setCell ⟨B, 4, none⟩ x4).cell? ⟨b, 0, none⟩ = some v0 ∧ (((((W.setCell ⟨B, 0, none⟩ x0).setCell ⟨B, 1, none⟩ x1).setCell ⟨B, 2, none⟩ x2).setCell ⟨B, 3, none⟩ x3).setCell ⟨B, 4, none⟩ x4).cell? ⟨b, 1, none⟩ = some v1 ∧ (((((W.setCell ⟨B, 0, none⟩ x0).setCell ⟨B, 1, none⟩ x1).setCell ⟨B, 2, none⟩ x2).setCell ⟨B, 3, none⟩ x3).setCell ⟨B, 4, none⟩ x4).cell? ⟨b, 2, none⟩ = some v2 := by
  have k : ∀ (V : World) (o j : Nat) (x : Value), (V.setCell ⟨B, o, none⟩ x).cell? ⟨b, j, none⟩ = V.cell? ⟨b, j, none⟩ := fun V o j x => World.cell?_setCell_far _ _ _ _ hne
  simp only [k]
  exact h
/-- what a round begins with -/
structure NdI (w : World) (T : List Tm) (k : Nat) (st : List NS) (P : Nat → Prop) (lv : Value) (wr : World) : Prop where
  fold : foldN [] (T.take k) = some (st.map Prod.fst)
  chk : checkF 0 (T.take k) = some st.length
  dep : ∀ x ∈ st, x.1.dep ≤ 64
  blk : ∀ g, P g → g < wr.heap.size ∧ w.heap.size + 1 ≤ g ∧ lv.ownBlock ≠ some g
  tree : ∀ x ∈ st, NdAt P wr x.1 (sv x)
def FoldP (T : List Tm) (e : Ending) (w' : World) : Prop := match rootN T with
  | some x => ∃ ao m c, e = .returned (QV (nq x) (.slice ao m c)) ∧ NdAt (fun g => g < w'.heap.size) w' x (.slice ao m c) ∧ x.dep ≤ 64
  | none => e = .returned (QV ⟨0, 0, E0, 0, 93⟩ ZN)
theorem rel_A {P : Nat → Prop} {wr W0 w1 : World} {o : Obj} {x : Nd} {v : Value} {q : Prop} (hb : Below wr.heap.size wr W0) (hP : ∀ g, P g → g < wr.heap.size) (hb1 : Below W0.heap.size W0 w1) (h : NdAt (PG P W0 w1) w1 x v ∨ q) : NdAt (PG P wr (w1.alloc o)) (w1.alloc o) x v ∨ q := by
  rcases h with h | h
  · have s1 := hb.size
    have s2 := hb1.size
    have s3 : (w1.alloc o).heap.size = w1.heap.size + 1 := by simp
    refine .inl (NdAt.keep ?_ ?_ h)
    · rintro g (hg | ⟨h1, h2⟩)
      · exact .inl hg
      · exact .inr ⟨by omega, by omega⟩
    · rintro g (hg | ⟨h1, h2⟩)
      · exact (below1 w1 o).block g (by have := hP g hg; omega)
      · exact (below1 w1 o).block g h2
  · exact .inr h
theorem rel_B {P : Nat → Prop} {wr W0 w1 : World} {o : Obj} {x : Nd} {v : Value} {q : Prop} (hb : Below wr.heap.size wr W0) (hP : ∀ g, P g → g < wr.heap.size) (hb1 : Below (W0.alloc o).heap.size (W0.alloc o) w1) (x0 x1 x2 x3 x4 : Value) {B : Nat} (hB : B = W0.heap.size) (h : NdAt (PG P (W0.alloc o) w1) w1 x v ∨ q) :
    NdAt (PG P wr (((((w1.setCell ⟨B, 0, none⟩ x0).setCell ⟨B, 1, none⟩ x1).setCell ⟨B, 2, none⟩ x2).setCell ⟨B, 3, none⟩ x3).setCell ⟨B, 4, none⟩ x4)) (((((w1.setCell ⟨B, 0, none⟩ x0).setCell ⟨B, 1, none⟩ x1).setCell ⟨B, 2, none⟩ x2).setCell ⟨B, 3, none⟩ x3).setCell ⟨B, 4, none⟩ x4) x v ∨ q := by
  rcases h with h | h
  · have s1 := hb.size
    have s2 := hb1.size
    have s3 : (W0.alloc o).heap.size = W0.heap.size + 1 := by simp
    refine .inl (NdAt.keep ?_ ?_ h)
    · rintro g (hg | ⟨h1, h2⟩)
      · exact .inl hg
      · exact .inr ⟨by omega, by simpa using h2⟩
    · rintro g (hg | ⟨h1, h2⟩)
      · exact node_far rfl (by have := hP g hg; omega)
      · exact node_far rfl (by omega)
  · exact .inr h
theorem own_len (A : Option Addr) (n n' c : Nat) : (Value.slice A n c).ownBlock = (Value.slice A n' c).ownBlock := by cases A <;> rfl
theorem keep_app {wc w3 : World} {o : Obj} {row : Option Nat} (hg : (wc.drew.alloc o).grownBy w3 row) {g : Nat} (h : g < wc.heap.size) (hne : some g ≠ row) : w3.heap[g]? = wc.heap[g]? :=
  (hg.block g (by show g < (wc.drew.alloc o).heap.size; simp; omega) hne).trans (Below.heap_alloc wc.drew o g h)
theorem nq_ok {x : Nd} {a b d e : Int} {s : BA} (h : nq x = ⟨a, b, s, d, e⟩) : (x.dep ≤ 64 ∧ a = x.tm.k ∧ b = x.tm.n ∧ s = x.tm.s ∧ d = (x.dep : Int) ∧ e = 0) ∨ (¬ x.dep ≤ 64 ∧ e = 93) := by
  unfold nq at h
  split at h
  · injection h with h1 h2 h3 h4 h5
    exact .inl ⟨by assumption, h1.symm, h2.symm, h3.symm, h4.symm, h5.symm⟩
  · injection h with h1 h2 h3 h4 h5
    exact .inr ⟨by assumption, h5.symm⟩
set_option maxRecDepth 100000 in
set_option maxHeartbeats 16000000 in
theorem nfold_any (v : Value) (T : List Tm) (w : World) (hG : GoodE w) (h : TriO tmF w v T) (hl : T.length ≤ 256) (hc : checkF 0 T = some 1) :
    Calls Tryd.prog 33 #[v, .func (.func 34) #[] #[]] w fun e w' => FoldP T e w' ∧ Below w.heap.size w w' := by
  have HT := Lib.hid h
  have HC := Lib.hid hc
  have GD := Lib.hid (fun V (hb : Below w.heap.size w V) => (hG.thn hb).ops)
  obtain ⟨A, c, rfl⟩ := tri_slice h
  clear h hG hc
  go_enter Tryd.func33, Tryd.ntmps33
  go_wp2_with fail
  go_loopw [15, 6] (fun iv lv wr => ∃ (k : Nat) (st : List NS) (P : Nat → Prop), k ≤ T.length ∧ iv = .int .i64 (k : Int) ∧ wr.ownsRow (w.heap.size + 1) 65 5 lv st.length (ndC st) ∧ Hid (NdI w T k st P lv wr) ∧ Hid (wr.heap[w.heap.size]? = some (NdO 0 0 E0 ZN 0)) ∧ Below w.heap.size w wr) (fun iv lv _ => T.length - (intOf iv).toNat)
  case atStart =>
    exact ⟨0, [], fun _ => False, Nat.zero_le _, rfl, World.ownsRow_nil _ _ _ _, Lib.hid ⟨rfl, rfl, fun x hx => (by cases hx), fun g hg => hg.elim, fun x hx => (by cases hx)⟩, Lib.hid (heap_alloc_new w _), below1 w _⟩
  case round =>
    obtain ⟨k, st, P, hk, rfl, hrow, hst, hz, hbr⟩ := hrel
    obtain ⟨vb, vc, rfl⟩ := own_sliceN hrow
    by_cases hlt : (k : Int) < (T.length : Int)
    · have hlt' : k < T.length := by omega
      obtain ⟨g, off, cap, x, hx, hv, x1, x2, x3⟩ := tri_at (HT.out.keep hbr) hlt'
      cases hv
      simp only [tmF] at x1 x2 x3
      have hst' := hst.out
      have hck : checkF 0 (T.take (k + 1)) ≠ none := fun hn => by
        have := checkF_none _ (T.drop (k + 1)) _ hn
        rw [List.take_append_drop, HC.out] at this
        cases this
      have htk1 : T.take (k + 1) = T.take k ++ [x] := by rw [List.take_add_one, hx]; rfl
      rw [htk1, checkF_snoc, hst'.chk] at hck
      simp only [Option.bind_some] at hck
      have hmt : mayB x = true ∧ takesN x.k ≤ st.length := by
        by_cases hh : mayB x = true ∧ takesN x.k ≤ st.length
        · exact hh
        · rw [if_neg hh] at hck; exact absurd rfl hck
      have HCK := Lib.hid (show checkF 0 (T.take (k + 1)) = some (st.length + 1 - takesN x.k) by rw [htk1, checkF_snoc, hst'.chk]; simp only [Option.bind_some]; rw [if_pos hmt])
      have HFS := Lib.hid (foldN_snoc _ _ _ x hst'.fold)
      have HTK1 := Lib.hid htk1
      have hnk : st.length ≤ k := by
        have := checkF_le _ _ _ hst'.chk
        rw [List.length_take] at this; omega
      obtain ⟨hmay, htk⟩ := hmt
      obtain ⟨kn, hkn, hk1, hk14⟩ := mayB_k hmay
      have HBR := Lib.hid hbr
      have HST := Lib.hid hst'
      have hi0 : (0 : Int) ≤ (kn : Int) := by omega
      have hi1 : (kn : Int) < 15 := by omega
      obtain ⟨o0, -, -⟩ := GD.out wr hbr kn (by omega)
      obtain ⟨tk, htk0⟩ : ∃ tk, takesN (kn : Int) = tk := ⟨_, rfl⟩
      rw [hkn, htk0] at htk HCK HFS
      rw [htk0] at o0
      obtain ⟨m, hm⟩ : ∃ m, st.length = m + tk := ⟨st.length - tk, by omega⟩
      rw [hm]
      have ht2 := takes_le (kn : Int)
      rw [htk0] at ht2
      obtain ⟨xk, xn, xs⟩ := x
      simp only at x1 x2 x3 hkn
      subst hkn
      have w9 : IntKind.i64.wrap ((k : Int) + 1) = ((k + 1 : Nat) : Int) := by rw [IntWalk.i64_in _ (by omega)]; omega
      rw [hm] at hrow
      have HROW := Lib.hid hrow
      have HZ := hz
      have HP := Lib.hid (fun g (hg : P g) => (hst'.blk g hg).1)
      have hoA : (wr.alloc (.cells #[.int .i64 (kn : Int), .int .i64 xn, .string xs] 57)).cell? ⟨0, kn * 3, none⟩ = some (.int .i64 (tk : Int)) := cell_kept (below1 wr _) o0
      clear hbr hst' hck htk1 hx o0 hmay hst hrow
      go_wp2_with fail
      have S0 := cell_three_new wr 57 (.int .i64 (kn : Int)) (.int .i64 xn) (.string xs)
      have hB0 := below1 wr (.cells #[.int .i64 (kn : Int), .int .i64 xn, .string xs] 57)
      have hz0 : (wr.alloc (.cells #[.int .i64 (kn : Int), .int .i64 xn, .string xs] 57)).heap.size = wr.heap.size + 1 := by simp
      generalize wr.alloc (.cells #[.int .i64 (kn : Int), .int .i64 xn, .string xs] 57) = W0 at *
      have HB0 := Lib.hid hB0
      clear hB0 hoA x1 x2 x3
      have hmc : (m : Int) ≤ (m : Int) + (tk : Int) := by omega
      have hown0 : W0.ownsRow (w.heap.size + 1) 65 5 (.slice vb (m + tk) vc) (m + tk) (ndC st) := own_mono HROW.out HB0.out (fun g hg => (HROW.out.lt g hg).2)
      have RK := Lib.hid (fun V (hb : Below W0.heap.size W0 V) => nest_any ⟨(kn : Int), xn, xs⟩ _ (st.drop m) P V ((qui_cut hown0 hm).keep hb) (by rw [List.length_drop, htk0]; omega) (fun y hy => HST.out.dep y (List.mem_of_mem_drop hy)) (fun g hg => by have h1 := HP.out g hg; have h2 := hb.size; omega) (fun y hy => NdAt.keep (fun g hg => hg) (fun g hg => (hb.block g (by have := HP.out g hg; omega)).trans (HB0.out.block g (HP.out g hg))) (HST.out.tree y (List.mem_of_mem_drop hy))))
      rw [show (st.map Prod.fst).length - tk = m by rw [List.length_map]; omega, ← List.map_drop, ← List.map_take] at HFS
      clear hown0
      obtain ⟨X, hX⟩ : ∃ X, mkN ⟨(kn : Int), xn, xs⟩ ((st.drop m).map Prod.fst) = X := ⟨_, rfl⟩
      rw [hX] at RK HFS
      clear hX
      obtain ⟨r, hr⟩ : ∃ r, nq X = r := ⟨_, rfl⟩
      rw [hr] at RK
      have HR := Lib.hid hr
      clear hr
      obtain ⟨rk, rn, rs, rd, re⟩ := r
      unfold QV tmV at RK
      simp only at RK
      go_cut [10, 11] from 16 to 46 (fun s10 s11 wc => ∃ B ao am ac, s10 = .pointer (some ⟨B, 0, none⟩) ∧ s11 = .int .i64 re ∧ wc.heap[B]? = some (NdO rk rn rs (.slice ao am ac) rd) ∧ wr.heap.size < B ∧ Below wr.heap.size wr wc ∧ (NdAt (PG P wr wc) wc X (.slice ao am ac) ∨ re ≠ 0))
      case first =>
        have SA : (W0.alloc (.cells #[.int .i64 0, .int .i64 0, .string ⟨#[]⟩, .slice none 0 0, .int .i64 0] 65)).cell? ⟨wr.heap.size, 0, none⟩ = some (.int .i64 (kn : Int)) ∧ (W0.alloc (.cells #[.int .i64 0, .int .i64 0, .string ⟨#[]⟩, .slice none 0 0, .int .i64 0] 65)).cell? ⟨wr.heap.size, 1, none⟩ = some (.int .i64 xn) ∧ (W0.alloc (.cells #[.int .i64 0, .int .i64 0, .string ⟨#[]⟩, .slice none 0 0, .int .i64 0] 65)).cell? ⟨wr.heap.size, 2, none⟩ = some (.string xs) := ⟨cell_kept (below1 W0 _) S0.1, cell_kept (below1 W0 _) S0.2.1, cell_kept (below1 W0 _) S0.2.2⟩
        have HNE := Lib.hid (show wr.heap.size + 1 ≠ wr.heap.size by omega)
        by_cases hcm : vc = m
        · subst hcm
          rw [if_pos rfl, Nat.sub_self] at RK
          go_region_held3 (fun w' => w'.cell? ⟨wr.heap.size, 0, none⟩ = some (.int .i64 (kn : Int)) ∧ w'.cell? ⟨wr.heap.size, 1, none⟩ = some (.int .i64 xn) ∧ w'.cell? ⟨wr.heap.size, 2, none⟩ = some (.string xs)) (first | with_reducible exact S0 | with_reducible exact SA | with_reducible exact S1 | with_reducible exact far5 HNE.out S1 | with_reducible exact keep3 (below1 w1 _) S1 | exact S0 | exact SA | exact S1 | exact keep3 (below1 w1 _) S1) (first
            | (go_at_call 34; ((with_reducible refine (RK.out (W0.alloc (.cells #[.int .i64 0, .int .i64 0, .string ⟨#[]⟩, .slice none 0 0, .int .i64 0] 65)).drew (below1 W0 _).drew).mono ?_); rintro e w1 ⟨ao, am, ac, rfl, hT1, hb1⟩); have S1 := keep3 hb1 SA; have n2 := (hb1.block W0.heap.size (show W0.heap.size < (W0.alloc _).heap.size by simp)).trans (heap_alloc_new W0 _); have HN1 := Lib.hid n2; obtain ⟨z0, z1, z2, z3, z4⟩ := node_cells n2; have fz := fz_of n2; rw [hz0] at z0 z1 z2 z3 z4 fz; have HB1 := Lib.hid (Below.thn (HB0.out.trans ((below1 W0 (.cells #[.int .i64 0, .int .i64 0, .string ⟨#[]⟩, .slice none 0 0, .int .i64 0] 65)).mono (by omega))).drew (by show wr.heap.size ≤ (W0.alloc _).heap.size; simp; omega) hb1); have HT1 := Lib.hid hT1; have HL1 := Lib.hid (show Below (W0.alloc (.cells #[.int .i64 0, .int .i64 0, .string ⟨#[]⟩, .slice none 0 0, .int .i64 0] 65)).heap.size (W0.alloc (.cells #[.int .i64 0, .int .i64 0, .string ⟨#[]⟩, .slice none 0 0, .int .i64 0] 65)) w1 from below_of_drew hb1); clear hb1 n2 hT1)
            | (go_at_call 34; ((with_reducible refine (RK.out W0.drew (Below.refl _ W0).drew).mono ?_); rintro e w1 ⟨ao, am, ac, rfl, hT1, hb1⟩); have S1 := keep3 hb1 S0; have HZ1 := Lib.hid (show W0.heap.size ≤ w1.heap.size from hb1.size); have HB1 := Lib.hid (Below.thn HB0.out.drew (by show wr.heap.size ≤ W0.heap.size; omega) hb1); have HT1 := Lib.hid hT1; have HL1 := Lib.hid (show Below W0.heap.size W0 w1 from below_of_drew hb1); clear hb1 hT1))
          all_goals
            go_wp2_with fail
            go_meet
          case rel => exact ⟨w1.heap.size, ao, am, ac, rfl, rfl, heap_alloc_new w1 _, by have := HZ1.out; omega, HB1.out.alloc HB1.out.size _, rel_A HB0.out HP.out HL1.out HT1.out⟩
          case rel => exact ⟨wr.heap.size + 1, ao, am, ac, rfl, rfl, node_set (by rw [← hz0]; exact HN1.out) _ _ _ _ _, by omega, below_node HB1.out (by omega) _ _ _ _ _, rel_B HB0.out HP.out HL1.out _ _ _ _ _ hz0.symm HT1.out⟩
        · rw [if_neg hcm] at RK
          go_region_held3 (fun w' => w'.cell? ⟨wr.heap.size, 0, none⟩ = some (.int .i64 (kn : Int)) ∧ w'.cell? ⟨wr.heap.size, 1, none⟩ = some (.int .i64 xn) ∧ w'.cell? ⟨wr.heap.size, 2, none⟩ = some (.string xs)) (first | with_reducible exact S0 | with_reducible exact SA | with_reducible exact S1 | with_reducible exact far5 HNE.out S1 | with_reducible exact keep3 (below1 w1 _) S1 | exact S0 | exact SA | exact S1 | exact keep3 (below1 w1 _) S1) (first
            | (go_at_call 34; ((with_reducible refine (RK.out (W0.alloc (.cells #[.int .i64 0, .int .i64 0, .string ⟨#[]⟩, .slice none 0 0, .int .i64 0] 65)).drew (below1 W0 _).drew).mono ?_); rintro e w1 ⟨ao, am, ac, rfl, hT1, hb1⟩); have S1 := keep3 hb1 SA; have n2 := (hb1.block W0.heap.size (show W0.heap.size < (W0.alloc _).heap.size by simp)).trans (heap_alloc_new W0 _); have HN1 := Lib.hid n2; obtain ⟨z0, z1, z2, z3, z4⟩ := node_cells n2; have fz := fz_of n2; rw [hz0] at z0 z1 z2 z3 z4 fz; have HB1 := Lib.hid (Below.thn (HB0.out.trans ((below1 W0 (.cells #[.int .i64 0, .int .i64 0, .string ⟨#[]⟩, .slice none 0 0, .int .i64 0] 65)).mono (by omega))).drew (by show wr.heap.size ≤ (W0.alloc _).heap.size; simp; omega) hb1); have HT1 := Lib.hid hT1; have HL1 := Lib.hid (show Below (W0.alloc (.cells #[.int .i64 0, .int .i64 0, .string ⟨#[]⟩, .slice none 0 0, .int .i64 0] 65)).heap.size (W0.alloc (.cells #[.int .i64 0, .int .i64 0, .string ⟨#[]⟩, .slice none 0 0, .int .i64 0] 65)) w1 from below_of_drew hb1); clear hb1 n2 hT1)
            | (go_at_call 34; ((with_reducible refine (RK.out W0.drew (Below.refl _ W0).drew).mono ?_); rintro e w1 ⟨ao, am, ac, rfl, hT1, hb1⟩); have S1 := keep3 hb1 S0; have HZ1 := Lib.hid (show W0.heap.size ≤ w1.heap.size from hb1.size); have HB1 := Lib.hid (Below.thn HB0.out.drew (by show wr.heap.size ≤ W0.heap.size; omega) hb1); have HT1 := Lib.hid hT1; have HL1 := Lib.hid (show Below W0.heap.size W0 w1 from below_of_drew hb1); clear hb1 hT1))
          all_goals
            go_wp2_with fail
            go_meet
          case rel => exact ⟨w1.heap.size, ao, am, ac, rfl, rfl, heap_alloc_new w1 _, by have := HZ1.out; omega, HB1.out.alloc HB1.out.size _, rel_A HB0.out HP.out HL1.out HT1.out⟩
          case rel => exact ⟨wr.heap.size + 1, ao, am, ac, rfl, rfl, node_set (by rw [← hz0]; exact HN1.out) _ _ _ _ _, by omega, below_node HB1.out (by omega) _ _ _ _ _, rel_B HB0.out HP.out HL1.out _ _ _ _ _ hz0.symm HT1.out⟩
      case rest =>
        obtain ⟨B, ao, am, ac, rfl, rfl, hBc, hBlt, hbw, hT1⟩ := hcut
        have HBC := Lib.hid hBc
        have HBW := Lib.hid hbw
        have HT1 := Lib.hid hT1
        have hBW := Below.thn HBR.out HBR.out.size (hbw.mono (by omega))
        have HBB := Lib.hid hBW
        clear hBW hbw S0 hz0 RK hT1
        have hown1 : wc.ownsRow (w.heap.size + 1) 65 5 (.slice vb (m + tk) vc) (m + tk) (ndC st) := own_mono HROW.out HBW.out (fun g hg => (HROW.out.lt g hg).2)
        have hz1 : wc.heap[w.heap.size]? = some (NdO 0 0 E0 ZN 0) := (HBW.out.block _ (heap_lt hz.out)).trans hz.out
        rcases nq_ok HR.out with ⟨hX64, rfl, rfl, rfl, rfl, rfl⟩ | ⟨hX64, rfl⟩
        · rw [if_pos hX64] at HFS
          have HXD := Lib.hid hX64
          have hT2 : NdAt (PG P wr wc) wc X (.slice ao am ac) := HT1.out.resolve_right (fun h => h rfl)
          have HT2 := Lib.hid hT2
          have hown := own_take hown1 (m := m) (by omega)
          rw [ndC_take] at hown
          obtain ⟨b0, b1, b2, b3, b4⟩ := node_cells hBc
          obtain ⟨i0, hi, hiz0, hiz1, hiz2⟩ := info_parts infoNd
          have HOWN := Lib.hid hown
          have HZ1 := Lib.hid hz1
          clear hBc hown1 hz1 hT2 hX64
          have hmv : m ≤ vc := own_cap hown
          have hws : w.heap.size < wc.heap.size := heap_lt HZ1.out
          have HV3 := Lib.hid (show ∀ (V : World) j u, ([.int .i64 X.tm.k, .int .i64 X.tm.n, .string X.tm.s, .slice ao am ac, .int .i64 (X.dep : Int)] : List Value)[j]? = some u → (V.alloc (.cells #[.int .i64 X.tm.k, .int .i64 X.tm.n, .string X.tm.s, .slice ao am ac, .int .i64 (X.dep : Int)] 65)).cell? ((⟨V.heap.size, 0, none⟩ : Addr).add j) = some u from fun V j u hu => World.news_of_block (heap_alloc_new V _) j u hu)
          go_wp2_with fail
          go_region_law (refine step_append_lies _ (by rfl) (.tmp 42) (.tmp 44) 63 (by rfl) (w.heap.size + 1) 65 i0 (.agg #[.int .i64 0, .int .i64 0, .string ⟨#[]⟩, .slice none 0 0, .int .i64 0]) 5 64 Tryd.underlying63 hi hiz0 hiz1 hiz2 (by rfl) (by decide) (.slice vb m vc) m (ndC (st.take m)) (by rfl) (HOWN.out.drew.alloc _) ⟨wc.heap.size, 0, none⟩ 1 1 [.int .i64 X.tm.k, .int .i64 X.tm.n, .string X.tm.s, .slice ao am ac, .int .i64 (X.dep : Int)] (by rfl) (by rfl) (by exact HV3.out _) (by simp [Value.oneCell']) (by decide) (by unfold maxLen; omega) (by omega) (by simp; omega) _ (by rfl) ?_; intro g' cap' w3 hown3 hgrow3 hat3 hlt3)
          all_goals
            go_wp2_with fail
            go_roundw
          case rel =>
            have hg3 : (wc.drew.alloc (.cells #[.int .i64 X.tm.k, .int .i64 X.tm.n, .string X.tm.s, .slice ao am ac, .int .i64 (X.dep : Int)] 65)).grownBy w3 (Value.slice vb m vc).ownBlock := hgrow3
            have hlen : (st.take m ++ [((X, ao, am, ac) : NS)]).length = m + 1 := by rw [List.length_append, List.length_take, List.length_singleton]; omega
            have hrow : ∀ g, (Value.slice vb m vc).ownBlock = some g → w.heap.size + 1 ≤ g ∧ g < wr.heap.size := fun g hg => HROW.out.lt g ((own_len _ _ _ _).trans hg)
            have hne : ∀ g, PG P wr wc g → some g ≠ (Value.slice vb m vc).ownBlock := by
              rintro g (hg | ⟨h1, h2⟩) e
              · exact (HST.out.blk g hg).2.2 ((own_len _ _ _ _).trans e.symm)
              · have := (hrow g e.symm).2; omega
            have hlt3' : ∀ g, PG P wr wc g → g < wc.heap.size := by
              rintro g (hg | ⟨h1, h2⟩)
              · have h1 := HP.out g hg; have h2 := HBW.out.size; omega
              · exact h2
            have hge3 : ∀ g, PG P wr wc g → w.heap.size + 1 ≤ g := by
              rintro g (hg | ⟨h1, h2⟩)
              · exact (HST.out.blk g hg).2.1
              · have := heap_lt hz.out; omega
            have hsz3 : wc.heap.size + 1 ≤ w3.heap.size := by have := hg3.size; simpa using this
            refine ⟨k + 1, st.take m ++ [(X, ao, am, ac)], PG P wr wc, by omega, rfl, ?_, Lib.hid ⟨?_, by rw [HCK.out, hlen]; congr 1; omega, ?_, ?_, ?_⟩, Lib.hid ?_, ?_⟩
            · rw [hlen, ndC_snoc]; exact hown3
            · rw [HTK1.out, HFS.out, List.map_append]; rfl
            · intro y hy
              rcases List.mem_append.1 hy with hy | hy
              · exact HST.out.dep y (List.mem_of_mem_take hy)
              · rw [List.mem_singleton.1 hy]; exact HXD.out
            · intro g hg
              refine ⟨by have := hlt3' g hg; omega, hge3 g hg, ?_⟩
              intro e
              have e' : g' = g := by simpa [Value.ownBlock] using e
              rcases hat3 with h | h
              · exact hne g hg (by rw [← e']; exact h.symm)
              · have h' : g' = (wc.drew.alloc (.cells #[.int .i64 X.tm.k, .int .i64 X.tm.n, .string X.tm.s, .slice ao am ac, .int .i64 (X.dep : Int)] 65)).heap.size := h
                have h2 : g' = wc.heap.size + 1 := by rw [h']; simp
                have := hlt3' g hg; omega
            · intro y hy
              rcases List.mem_append.1 hy with hy | hy
              · exact NdAt.keep (fun g hg => .inl hg) (fun g hg => (keep_app hg3 (hlt3' g (.inl hg)) (hne g (.inl hg))).trans (HBW.out.block g (HP.out g hg))) (HST.out.tree y (List.mem_of_mem_take hy))
              · rw [List.mem_singleton.1 hy]
                exact NdAt.keep (fun g hg => hg) (fun g hg => keep_app hg3 (hlt3' g hg) (hne g hg)) HT2.out
            · rw [keep_app hg3 hws (fun e => by have := (hrow _ e.symm).1; omega)]
              exact HZ1.out
            · exact ((HBB.out.drew).alloc (show w.heap.size ≤ wc.drew.heap.size from Nat.le_of_lt hws) _).grown hgrow3 (by simp; omega) (fun g hg => by have := (hrow g hg).1; omega)
          case measure => simp [intOf]; omega
        · rw [if_neg hX64] at HFS
          have R := Lib.hid (show rootN T = none by
            have e1 : foldN [] (T.take (k + 1)) = none := by rw [HTK1.out, HFS.out]
            have e2 := foldN_none (T.take (k + 1)) (T.drop (k + 1)) [] e1
            rw [List.take_append_drop] at e2
            unfold rootN
            rw [e2]; rfl)
          have hz2 := block_kept (below1 wc (.cells #[.int .i64 0, .int .i64 0, .string ⟨#[]⟩, .slice none 0 0, .int .i64 0] 65)) hz1
          obtain ⟨z0, z1, z2, z3, z4⟩ := node_cells hz2
          have fz := fz_of hz2
          have HZ1 := Lib.hid hz2
          clear hBc hown1 hz1 hz2 hX64
          go_wp2_with fail
          obtain ⟨e0, e1, e2, e3, e4⟩ := node_cells (node_set HZ1.out (.int .i64 0) (.int .i64 0) (.string E0) ZN (.int .i64 0))
          exact bodyPost_ret (v := QV ⟨0, 0, E0, 0, 93⟩ ZN) (by simp [QV, results, Tryd.results33, go_sem, e0, e1, e2, e3, e4]) rfl ⟨by unfold FoldP; rw [R.out], below_node (HBB.out.alloc HBB.out.size _) (Nat.le_refl _) _ _ _ _ _⟩
    · have hkl : k = T.length := by omega
      subst hkl
      have hst' := hst.out
      have hch := hst'.chk
      have hfo := hst'.fold
      rw [List.take_length, HC.out] at hch
      rw [List.take_length] at hfo
      have hl1 : st.length = 1 := by simpa using hch.symm
      obtain ⟨⟨X, ao, am, ac⟩, rfl⟩ := List.length_eq_one_iff.1 hl1
      have R := Lib.hid (show rootN T = some X by unfold rootN; rw [hfo]; rfl)
      have HX := Lib.hid (hst'.dep (X, ao, am, ac) (by simp))
      have HTR := Lib.hid (hst'.tree (X, ao, am, ac) (by simp))
      have HBK := Lib.hid hst'.blk
      obtain ⟨z0, z1, z2, z3, z4⟩ := node_cells hz.out
      have fz := fz_of hz.out
      have HBR := Lib.hid hbr
      obtain ⟨g, cap, hvb, -, -⟩ := hrow.form (by simp)
      cases hvb
      have c0 := hrow.cellAt 0 (by simp)
      have c1 := hrow.cellAt 1 (by simp)
      have c2 := hrow.cellAt 2 (by simp)
      have c3 := hrow.cellAt 3 (by simp)
      have c4 := hrow.cellAt 4 (by simp)
      simp only [ndC, NdC, List.flatMap_cons, List.flatMap_nil, List.append_nil, List.getElem?_cons_zero, List.getElem?_cons_succ] at c0 c1 c2 c3 c4
      clear hrow hbr hst hst' hch hfo
      go_wp2_with fail
      obtain ⟨e0, e1, e2, e3, e4⟩ := node_cells (node_set hz.out (.int .i64 X.tm.k) (.int .i64 X.tm.n) (.string X.tm.s) (.slice ao am ac) (.int .i64 (X.dep : Int)))
      have hq : nq X = ⟨X.tm.k, X.tm.n, X.tm.s, (X.dep : Int), 0⟩ := by unfold nq; rw [if_pos HX.out]
      refine bodyPost_ret (v := QV ⟨X.tm.k, X.tm.n, X.tm.s, (X.dep : Int), 0⟩ (.slice ao am ac)) (by simp [QV, results, Tryd.results33, go_sem, e0, e1, e2, e3, e4]) rfl ⟨?_, below_node HBR.out (Nat.le_refl _) _ _ _ _ _⟩
      unfold FoldP
      rw [R.out]
      refine ⟨ao, am, ac, by rw [hq], NdAt.keep (fun g hg => ?_) (fun g hg => ?_) HTR.out, HX.out⟩
      · have := (HBK.out g hg).1; simpa using this
      · exact node_far rfl (by have := (HBK.out g hg).2.1; omega)
end Go.Proofs.YtdkflmpdelfgoaaDoor
