/-
  Trees of terms: their texts and depths, how they lie in memory, and nest: what each call returns. Conditions: where a row of nodes lies.
-/
import Derived.Test.YtdkflmpdelfgoaaDoorExprRefK
import Derived.Test.YtdkflmpdelfgoaaDoorExprHexB
namespace Go.Proofs.YtdkflmpdelfgoaaDoor
open Go.RowKit Go.Shelf
set_option linter.unusedVariables false
set_option linter.unusedSimpArgs false
attribute [local go_sem] Oper.semAt_some

/-! ### trees -/
inductive Nd where
  | lf (t : Tm)
  | un (t : Tm) (a : Nd)
  | bi (t : Tm) (a b : Nd)
def Nd.tm : Nd → Tm
  | .lf t => t
  | .un t _ => t
  | .bi t _ _ => t
def Nd.dep : Nd → Nat
  | .lf _ => 0
  | .un _ a => a.dep + 1
  | .bi _ a b => max (a.dep + 1) (b.dep + 1)
def Nd.text : Nd → BA
  | .lf t => leafB t
  | .un t a => ⟨#[40]⟩ ++ signB t.k.toNat ++ a.text ++ ⟨#[41]⟩
  | .bi t a b => ⟨#[40]⟩ ++ a.text ++ signB t.k.toNat ++ b.text ++ ⟨#[41]⟩
def NdC (n : Nd) (v : Value) : List Value := [.int .i64 n.tm.k, .int .i64 n.tm.n, .string n.tm.s, v, .int .i64 (n.dep : Int)]
def NdV (n : Nd) (v : Value) : Value := .agg #[.int .i64 n.tm.k, .int .i64 n.tm.n, .string n.tm.s, v, .int .i64 (n.dep : Int)]
/-- five cells -/
def Five (W : World) (g o : Nat) (n : Nd) (v : Value) : Prop := W.cell? ⟨g, o, none⟩ = some (.int .i64 n.tm.k) ∧ W.cell? ⟨g, o + 1, none⟩ = some (.int .i64 n.tm.n) ∧ W.cell? ⟨g, o + 2, none⟩ = some (.string n.tm.s) ∧ W.cell? ⟨g, o + 3, none⟩ = some v ∧ W.cell? ⟨g, o + 4, none⟩ = some (.int .i64 (n.dep : Int))
theorem Five.keep {W W' : World} (hb : Below W.heap.size W W') {g o : Nat} {n : Nd} {v : Value} (h : Five W g o n v) : Five W' g o n v :=
  ⟨cell_kept hb h.1, cell_kept hb h.2.1, cell_kept hb h.2.2.1, cell_kept hb h.2.2.2.1, cell_kept hb h.2.2.2.2⟩
/-- a tree lies in blocks of P -/
def NdAt (P : Nat → Prop) (W : World) : Nd → Value → Prop
  | .lf _, v => v = .slice none 0 0
  | .un _ a, v => ∃ g c av, v = .slice (some ⟨g, 0, none⟩) 1 c ∧ 1 ≤ c ∧ P g ∧ Five W g 0 a av ∧ NdAt P W a av
  | .bi _ a b, v => ∃ g c av bv, v = .slice (some ⟨g, 0, none⟩) 2 c ∧ 2 ≤ c ∧ P g ∧ Five W g 0 a av ∧ Five W g 5 b bv ∧ NdAt P W a av ∧ NdAt P W b bv
theorem Five.stay {W W' : World} {g o : Nat} {n : Nd} {v : Value} (hg : W'.heap[g]? = W.heap[g]?) (h : Five W g o n v) : Five W' g o n v := by
  have k : ∀ j, W'.cell? ⟨g, j, none⟩ = W.cell? ⟨g, j, none⟩ := fun j => World.cell?_of_block hg
  exact ⟨(k _).trans h.1, (k _).trans h.2.1, (k _).trans h.2.2.1, (k _).trans h.2.2.2.1, (k _).trans h.2.2.2.2⟩
theorem NdAt.keep {P P' : Nat → Prop} {W W' : World} (hP : ∀ g, P g → P' g) (hg : ∀ g, P g → W'.heap[g]? = W.heap[g]?) : ∀ {n : Nd} {v : Value}, NdAt P W n v → NdAt P' W' n v
  | .lf _, v, h => h
  | .un _ a, v, ⟨g, c, av, h1, h2, h3, h4, h5⟩ => ⟨g, c, av, h1, h2, hP g h3, h4.stay (hg g h3), NdAt.keep hP hg h5⟩
  | .bi _ a b, v, ⟨g, c, av, bv, h1, h2, h3, h4, h5, h6, h7⟩ => ⟨g, c, av, bv, h1, h2, hP g h3, h4.stay (hg g h3), h5.stay (hg g h3), NdAt.keep hP hg h6, NdAt.keep hP hg h7⟩
theorem node_cells {W : World} {B : Nat} {T : TypeId} {z : Nat × Nat} {x0 x1 x2 x3 x4 : Value} (h : W.heap[B]? = some (.cells #[x0, x1, x2, x3, x4] T z)) :
    W.cell? ⟨B, 0, none⟩ = some x0 ∧ W.cell? ⟨B, 1, none⟩ = some x1 ∧ W.cell? ⟨B, 2, none⟩ = some x2 ∧ W.cell? ⟨B, 3, none⟩ = some x3 ∧ W.cell? ⟨B, 4, none⟩ = some x4 := by
  refine ⟨?_, ?_, ?_, ?_, ?_⟩ <;> (rw [Lib.cell_of_heap h]; rfl)
theorem infoNd : (Tryd.prog.info? 65).map (fun i => (i.zero, i.size, i.bytes)) = some (some (.agg #[.int .i64 0, .int .i64 0, .string ⟨#[]⟩, .slice none 0 0, .int .i64 0]), 5, 64) := by kernel_rfl
def NdR (n : Nd) (v : Value) : Value := if n.dep ≤ 64 then .tuple #[NdV n v, .int .i64 0] else .tuple #[.agg #[.int .i64 0, .int .i64 0, .string ⟨#[]⟩, .slice none 0 0, .int .i64 0], .int .i64 93]
theorem run_append_empty {P : Program} (w : World) (t ty e : TypeId) (i : TypeInfo) (z : Value) (ht : P.underlying t = some (.slice e)) (hi : P.info? e = some i) (hz : i.zero = some z) (A : Option Addr) (c : Nat) :
    (Builtin.append_ #[t, t] ty #[.slice none 0 0, .slice A 0 c]).run P w = .ok (.slice none 0 0) w := by
  have h := fun a => run_firstCells_some (P := P) w i.size 0 a 0 c [] (by simp) (fun j v e => by simp at e)
  have h0 := run_firstCells_none (P := P) w i.size 0 0 c
  rcases A with _ | a <;> simp [Builtin.append_, run_underlying ht, sizeOf, typeInfo, zeroValue, hi, hz, Builtin.lenOf, h, h0]
theorem step_append_empty {P : Program} (w : World) {ops : Array Oper} {o : Oper} {a : Act} {K : Act → World → Prop} {Q : Exit → Act → World → Prop} {E : Prop} (hgd : o.guard = none) (s x : Operand) (t : TypeId)
    (ho : o.op = .call { callee := .builtin .append, args := #[s, x], argTypes := #[t, t] })
    (e : TypeId) (i : TypeInfo) (z : Value) (ht : P.underlying t = some (.slice e)) (hi : P.info? e = some i) (hz : i.zero = some z) (hs : a.eval s = .slice none 0 0)
    (A : Option Addr) (c : Nat) (hx : a.eval x = .slice A 0 c) (h : K (a.put o.dst (.slice none 0 0)) w) :
    if Region.wanted o (yielded ops a.tmps) = true then Oper.wp P o a w K Q else E := by
  have hw : Region.wanted o (yielded ops a.tmps) = true := by simp [Region.wanted, hgd]
  rw [if_pos hw]
  have hr := run_append_empty (P := P) w t o.type e i z ht hi hz A c
  unfold Oper.wp execOp
  simp only [ho, resolve, invoke, builtin, Sem.run_bind, Sem.run_pure, Result.andThen_ok, List.map_toArray, List.map_cons, List.map_nil, hs, hx, hr]
  exact h
set_option maxRecDepth 100000 in
set_option maxHeartbeats 4000000 in
theorem nest_0 (t : Tm) (A : Option Addr) (c : Nat) (w : World) :
    Calls Tryd.prog 34 #[tmV t, .slice A 0 c] w fun e w' => e = .returned (NdR (.lf t) (.slice none 0 0)) ∧ Below w.heap.size w w' := by
  obtain ⟨k, n, s⟩ := t
  obtain ⟨i0, hi, hiz0, hiz1, hiz2⟩ := info_parts infoNd
  unfold tmV
  simp only
  go_enter Tryd.func34, Tryd.ntmps34
  go_wp2_with fail
  go_region_law (refine step_append_empty _ (by rfl) (.const (.slice none 0 0)) (.tmp 10) 63 (by rfl) 65 i0 (.agg #[.int .i64 0, .int .i64 0, .string ⟨#[]⟩, .slice none 0 0, .int .i64 0]) Tryd.underlying63 hi hiz0 (by rfl) A c (by rfl) ?_)
  all_goals
    go_wp2_with fail
    refine wp_loop_rounds 1 ?_
    rw [rounds_succ]
    go_wp2_with fail
  all_goals
    obtain ⟨n1, n2, n3, n4⟩ := two_new w (.cells #[.int .i64 k, .int .i64 n, .string s] 57) (.cells #[.int .i64 k, .int .i64 n, .string s, .slice none 0 0, .int .i64 0] 65)
    have n5 := block_kept (below1 _ (.cells #[.int .i64 k, .int .i64 n, .string s, .slice none 0 0, .int .i64 0] 65)).drew n2
    obtain ⟨e0, e1, e2, e3, e4⟩ := node_cells n5
    exact bodyPost_ret (v := NdR (.lf ⟨k, n, s⟩) (.slice none 0 0)) (by simp [NdR, NdV, Nd.dep, Nd.tm, results, Tryd.results34, go_sem, e0, e1, e2, e3, e4]) rfl ⟨rfl, Below.thn n3 n3.size (below1 _ _).drew⟩
theorem at_new (w : World) (b : Nat) (o : Obj) (h : w.heap.size = b) : (w.alloc o).heap[b]? = some o := by subst h; exact heap_alloc_new w o
theorem keep_grown {V W : World} (hg : V.grownBy W none) {b : Nat} {o : Obj} (h : V.heap[b]? = some o) : W.heap[b]? = some o := (hg.block b (heap_lt h) (by intro e; cases e)).trans h
abbrev ZN : Value := .slice none 0 0
abbrev NdO (k n : Int) (s : BA) (v : Value) (d : Int) : Obj := .cells #[.int .i64 k, .int .i64 n, .string s, v, .int .i64 d] 65 (0, 0)
theorem five_of {W : World} {base g cap : Nat} {n : Nd} {v : Value} (h : W.ownsRow base 65 5 (.slice (some ⟨g, 0, none⟩) 1 cap) 1 (NdC n v)) : Five W g 0 n v :=
  ⟨h.cellAt 0 (by simp [NdC]), h.cellAt 1 (by simp [NdC]), h.cellAt 2 (by simp [NdC]), h.cellAt 3 (by simp [NdC]), h.cellAt 4 (by simp [NdC])⟩
theorem five_news {W : World} {g o : Nat} {n : Nd} {v : Value} (h : Five W g o n v) : ∀ j u, (NdC n v)[j]? = some u → W.cell? ((⟨g, o, none⟩ : Addr).add j) = some u := by
  intro j u hu
  have hadd : (⟨g, o, none⟩ : Addr).add j = ⟨g, o + j, none⟩ := by unfold Addr.add; split <;> simp_all
  rw [hadd]
  obtain ⟨h0, h1, h2, h3, h4⟩ := h
  match j, hu with
  | 0, hu => simp [NdC] at hu; subst hu; exact h0
  | 1, hu => simp [NdC] at hu; subst hu; exact h1
  | 2, hu => simp [NdC] at hu; subst hu; exact h2
  | 3, hu => simp [NdC] at hu; subst hu; exact h3
  | 4, hu => simp [NdC] at hu; subst hu; exact h4
  | (j + 5), hu => simp [NdC] at hu
/-- what the region that lays a node leaves -/
def NR (w : World) (k n : Int) (s : BA) (m : Nat) (cs : List Value) (s6 : Value) (wc : World) : Prop := ∃ B g c, s6 = .pointer (some ⟨B, 0, none⟩) ∧ wc.heap[B]? = some (NdO k n s (.slice (some ⟨g, 0, none⟩) m c) 0) ∧ wc.heap[w.heap.size + 1]? = some (NdO 0 0 E0 ZN 0) ∧ w.heap.size + 2 ≤ B ∧ w.heap.size + 2 ≤ g ∧ B ≠ g ∧ m ≤ c ∧ g < wc.heap.size ∧ (∀ j u, cs[j]? = some u → wc.cell? ⟨g, j, none⟩ = some u) ∧ Below w.heap.size w wc
theorem row_cells {W : World} {base m g cap : Nat} {cs : List Value} (h : W.ownsRow base 65 5 (.slice (some ⟨g, 0, none⟩) m cap) m cs) : ∀ j u, cs[j]? = some u → W.cell? ⟨g, j, none⟩ = some u := fun j u hu => by
  have hj : j < cs.length := (List.getElem?_eq_some_iff.1 hu).1
  rw [h.cellAt j (by have := h.1; omega), hu]
theorem nr_A {w W0 w3 : World} {k n : Int} {s : BA} {m cap g : Nat} {cs : List Value} (N2 : W0.heap[w.heap.size + 1]? = some (NdO 0 0 E0 ZN 0)) (HB : Below w.heap.size w W0)
    (hown : w3.ownsRow (w.heap.size + 2) 65 5 (.slice (some ⟨g, 0, none⟩) m cap) m cs) (hg : W0.drew.grownBy w3 none) (hz : W0.heap.size = w.heap.size + 2) (hlt : g < w3.heap.size) (hm : 0 < m) :
    NR w k n s m cs (.pointer (some ⟨w3.heap.size, 0, none⟩)) (w3.alloc (NdO k n s (.slice (some ⟨g, 0, none⟩) m cap) 0)) := by
  have hsz : W0.heap.size ≤ w3.heap.size := hg.size
  have hb3 : Below w.heap.size w w3 := HB.drew.grown hg (show w.heap.size ≤ W0.heap.size by omega) (fun g e => by cases e)
  obtain ⟨g', cap', hv, hb', -⟩ := hown.form hm
  cases hv
  have hk := below1 w3 (NdO k n s (.slice (some ⟨g, 0, none⟩) m cap) 0)
  refine ⟨w3.heap.size, g, cap, rfl, heap_alloc_new _ _, block_kept hk (keep_grown (V := W0.drew) hg N2), by omega, hb', by omega, own_cap hown, Nat.lt_of_lt_of_le hlt hk.size, fun j u hu => cell_kept hk (row_cells hown j u hu), hb3.alloc (by omega) _⟩
theorem node_set {W : World} {B : Nat} {T : TypeId} {z : Nat × Nat} {a b c d e : Value} (h : W.heap[B]? = some (.cells #[a, b, c, d, e] T z)) (x0 x1 x2 x3 x4 : Value) :
    (((((W.setCell ⟨B, 0, none⟩ x0).setCell ⟨B, 1, none⟩ x1).setCell ⟨B, 2, none⟩ x2).setCell ⟨B, 3, none⟩ x3).setCell ⟨B, 4, none⟩ x4).heap[B]? = some (.cells #[x0, x1, x2, x3, x4] T z) := by
  simp only [World.setCell, Array.getElem?_modify, if_true, h, Option.map_some]
  rfl
theorem below_node {n B : Nat} {w W : World} (h : Below n w W) (hB : n ≤ B) (x0 x1 x2 x3 x4 : Value) : Below n w (((((W.setCell ⟨B, 0, none⟩ x0).setCell ⟨B, 1, none⟩ x1).setCell ⟨B, 2, none⟩ x2).setCell ⟨B, 3, none⟩ x3).setCell ⟨B, 4, none⟩ x4) :=
  ((((h.setCell (p := ⟨B, 0, none⟩) hB _).setCell (p := ⟨B, 1, none⟩) hB _).setCell (p := ⟨B, 2, none⟩) hB _).setCell (p := ⟨B, 3, none⟩) hB _).setCell (p := ⟨B, 4, none⟩) hB _
theorem node_far {W : World} {B b : Nat} {x0 x1 x2 x3 x4 : Value} {y : Option Obj} (h : W.heap[b]? = y) (hne : B ≠ b) : (((((W.setCell ⟨B, 0, none⟩ x0).setCell ⟨B, 1, none⟩ x1).setCell ⟨B, 2, none⟩ x2).setCell ⟨B, 3, none⟩ x3).setCell ⟨B, 4, none⟩ x4).heap[b]? = y :=
  set_far (set_far (set_far (set_far (set_far h hne) hne) hne) hne) hne
theorem nr_B {w W0 w3 : World} {k n : Int} {s : BA} {m cap g : Nat} {cs : List Value} (N2 : W0.heap[w.heap.size + 1]? = some (NdO 0 0 E0 ZN 0)) (HB : Below w.heap.size w W0)
    (hown : w3.ownsRow (w.heap.size + 2) 65 5 (.slice (some ⟨g, 0, none⟩) m cap) m cs) (hg : (W0.alloc (NdO 0 0 E0 ZN 0)).drew.grownBy w3 none) (hz : W0.heap.size = w.heap.size + 2) (hlt : g < w3.heap.size) (hm : 0 < m) (hat : none = some g ∨ g = (W0.alloc (NdO 0 0 E0 ZN 0)).drew.heap.size) :
    NR w k n s m cs (.pointer (some ⟨W0.heap.size, 0, none⟩)) (((((w3.setCell ⟨W0.heap.size, 0, none⟩ (.int .i64 k)).setCell ⟨W0.heap.size, 1, none⟩ (.int .i64 n)).setCell ⟨W0.heap.size, 2, none⟩ (.string s)).setCell ⟨W0.heap.size, 3, none⟩ (.slice (some ⟨g, 0, none⟩) m cap)).setCell ⟨W0.heap.size, 4, none⟩ (.int .i64 0)) := by
  have hz1 : (W0.alloc (NdO 0 0 E0 ZN 0)).heap.size = w.heap.size + 3 := by simp; omega
  have hge : g = w.heap.size + 3 := by
    rcases hat with h | h
    · cases h
    · exact h.trans hz1
  have hb1 := HB.alloc (show w.heap.size ≤ W0.heap.size by omega) (NdO 0 0 E0 ZN 0)
  have hb3 : Below w.heap.size w w3 := hb1.drew.grown hg (show w.heap.size ≤ (W0.alloc (NdO 0 0 E0 ZN 0)).heap.size by omega) (fun g e => by cases e)
  have hB : w3.heap[W0.heap.size]? = some (NdO 0 0 E0 ZN 0) := keep_grown (V := (W0.alloc (NdO 0 0 E0 ZN 0)).drew) hg (heap_alloc_new W0 _)
  have hne : W0.heap.size ≠ g := by omega
  have hw1 : w3.heap[w.heap.size + 1]? = some (NdO 0 0 E0 ZN 0) := keep_grown (V := (W0.alloc (NdO 0 0 E0 ZN 0)).drew) hg (block_kept (below1 W0 _) N2)
  refine ⟨W0.heap.size, g, cap, rfl, node_set hB _ _ _ _ _, node_far hw1 (by omega), by omega, by omega, hne, own_cap hown, by simpa using hlt, fun j u hu => ?_, below_node hb3 (by omega) _ _ _ _ _⟩
  rw [World.cell?_setCell_far _ _ _ _ hne, World.cell?_setCell_far _ _ _ _ hne, World.cell?_setCell_far _ _ _ _ hne, World.cell?_setCell_far _ _ _ _ hne, World.cell?_setCell_far _ _ _ _ hne]
  exact row_cells hown j u hu
theorem five_row {W : World} {g : Nat} {a : Nd} {av : Value} (h : ∀ j u, (NdC a av)[j]? = some u → W.cell? ⟨g, j, none⟩ = some u) : Five W g 0 a av := ⟨h 0 _ rfl, h 1 _ rfl, h 2 _ rfl, h 3 _ rfl, h 4 _ rfl⟩
set_option maxRecDepth 100000 in
set_option maxHeartbeats 8000000 in
theorem nest_1 (t : Tm) (G o cap : Nat) (a : Nd) (ao : Option Addr) (am ac : Nat) (w : World) (h : Five w G o a (.slice ao am ac)) (hd : a.dep ≤ 64) :
    Calls Tryd.prog 34 #[tmV t, .slice (some ⟨G, o, none⟩) 1 cap] w fun e w' => ∃ g c, e = .returned (NdR (.un t a) (.slice (some ⟨g, 0, none⟩) 1 c)) ∧ 1 ≤ c ∧ w.heap.size ≤ g ∧ g < w'.heap.size ∧ Five w' g 0 a (.slice ao am ac) ∧ Below w.heap.size w w' := by
  obtain ⟨k, n, s⟩ := t
  obtain ⟨i0, hi, hiz0, hiz1, hiz2⟩ := info_parts infoNd
  have HF := Lib.hid h
  have hG : G < w.heap.size := World.block_lt_of_cell? w _ h.1
  have HC : ∀ u ∈ NdC a (.slice ao am ac), u.oneCell' = true := by
    intro u hu
    simp only [NdC, List.mem_cons, List.not_mem_nil, or_false] at hu
    rcases hu with rfl | rfl | rfl | rfl | rfl
    · rfl
    · rfl
    · rfl
    · rfl
    · rfl
  have HCH := Lib.hid HC
  have HV := Lib.hid (fun (W : World) (hb : Below w.heap.size w W) => five_news (Five.keep hb h))
  clear h HC
  obtain ⟨d, hdd⟩ : ∃ d, a.dep = d := ⟨_, rfl⟩
  unfold tmV
  simp only
  go_enter Tryd.func34, Tryd.ntmps34
  go_upto_region 1 with fail
  obtain ⟨n1, n2, n3, n4⟩ := two_new w (.cells #[.int .i64 k, .int .i64 n, .string s] 57) (NdO 0 0 E0 ZN 0)
  generalize (w.alloc (.cells #[.int .i64 k, .int .i64 n, .string s] 57)).alloc (NdO 0 0 E0 ZN 0) = W0 at *
  have T0 := val_cells n1
  have N1 := Lib.hid n1
  have N2 := Lib.hid n2
  have HB := Lib.hid n3
  have HZ := Lib.hid n4
  clear n1 n2 n3 n4
  go_cut [6] (fun s6 wc => NR w k n s 1 (NdC a (.slice ao am ac)) s6 wc)
  case first =>
    obtain ⟨T00, T01, T02⟩ := T0
    obtain ⟨T10, T11, T12⟩ := val_cells (block_kept (below1 W0 (NdO 0 0 E0 ZN 0)) N1.out)
    go_region_law (refine step_append_lies _ (by rfl) (.const (.slice none 0 0)) (.tmp 10) 63 (by rfl) (w.heap.size + 2) 65 i0 (.agg #[.int .i64 0, .int .i64 0, .string ⟨#[]⟩, .slice none 0 0, .int .i64 0]) 5 64 Tryd.underlying63 hi hiz0 hiz1 hiz2 (by rfl) (by decide) (.slice none 0 0) 0 [] (by rfl) (World.ownsRow_nil _ _ _ _) ⟨G, o, none⟩ 1 cap (NdC a (.slice ao am ac)) (by rfl) (by rfl) (by first | exact HV.out _ HB.out.drew | exact HV.out _ (HB.out.alloc HB.out.size _).drew) (by exact HCH.out) (by decide) (by unfold maxLen; omega) (by omega) (by have := HZ.out; first | (show w.heap.size + 2 ≤ W0.heap.size; omega) | (show w.heap.size + 2 ≤ (W0.alloc _).heap.size; simp; omega)) _ (by rfl) ?_; intro g' cap' w3 hown3 hgrow3 hat3 hlt3; have ho3 := (show w3.ownsRow (w.heap.size + 2) 65 5 (.slice (some ⟨g', 0, none⟩) 1 cap') 1 (NdC a (.slice ao am ac)) from hown3); have hg3 := (show World.grownBy _ w3 none from hgrow3); have ha3 := (show none = some g' ∨ g' = _ from hat3); clear hown3 hat3; (first | (have hc3 := keep_grown hgrow3 N1.out) | (have hc3 := keep_grown hgrow3 (block_kept (below1 W0 (NdO 0 0 E0 ZN 0)) N1.out))); obtain ⟨T30, T31, T32⟩ := val_cells hc3; obtain ⟨T40, T41, T42⟩ := val_cells (block_kept (below1 w3 (NdO 0 0 E0 ZN 0)) hc3); (first | (have hb3 := keep_grown hgrow3 (heap_alloc_new W0 (NdO 0 0 E0 ZN 0)); have HB3 := Lib.hid hb3; obtain ⟨y0, y1, y2, y3, y4⟩ := node_cells hb3; have fz := fz_of hb3; clear hb3) | skip); clear hc3)
    all_goals go_wp2_with fail
    all_goals go_meet
    all_goals first | with_reducible exact nr_A N2.out HB.out ho3 hg3 HZ.out hlt3 Nat.zero_lt_one | with_reducible exact nr_B N2.out HB.out ho3 hg3 HZ.out hlt3 Nat.zero_lt_one ha3
  case rest =>
    obtain ⟨B, g, c, rfl, hB, hR, hB2, hg2, hne, hc, hgl, hrow, hbw⟩ := hcut
    have hF := Five.keep hbw HF.out
    have HFV := Lib.hid (five_row hrow)
    have HR := Lib.hid hR
    have HBW := Lib.hid hbw
    have HBC := Lib.hid hB
    obtain ⟨b0, b1, b2, b3, b4⟩ := node_cells hB
    obtain ⟨z0, z1, z2, z3, z4⟩ := node_cells hR
    have fzB := fz_of hB
    have fzR := fz_of hR
    have hBl := heap_lt hB
    have hnr : B ≠ w.heap.size + 1 := by omega
    have hnr2 : w.heap.size + 1 ≠ B := by omega
    have hnr3 : ¬ (B = w.heap.size + 1) := by omega
    have hrl := heap_lt hR
    obtain ⟨f0, f1, f2, f3, f4⟩ := hF
    have wx : IntKind.i64.wrap ((d : Int) + 1) = (d : Int) + 1 := by rw [IntWalk.i64_in _ (by omega)]
    have mx : max (0 : Int) ((d : Int) + 1) = (d : Int) + 1 := by omega
    rw [hdd] at f4 hd
    clear HF hB hR hrow hbw HV HCH T0 N1 N2 HB HZ
    go_wp2_with fail
    refine wp_loop_rounds 2 ?_
    rw [rounds_succ]
    go_wp2_with fail
    rw [rounds_succ]
    go_wp2_with fail
    all_goals
      have hb4 : Below w.heap.size w (wc.setCell ⟨B, 4, none⟩ (.int .i64 ((d : Int) + 1))) := HBW.out.setCell (p := ⟨B, 4, none⟩) (by show w.heap.size ≤ B; omega) _
      have hr4 : (wc.setCell ⟨B, 4, none⟩ (.int .i64 ((d : Int) + 1))).heap[w.heap.size + 1]? = some (NdO 0 0 E0 ZN 0) := set_far HR.out hnr
      have hg4 : (wc.setCell ⟨B, 4, none⟩ (.int .i64 ((d : Int) + 1))).heap[g]? = wc.heap[g]? := set_far rfl hne
      have hgz : g < (wc.setCell ⟨B, 4, none⟩ (.int .i64 ((d : Int) + 1))).heap.size := by simpa using hgl
      have hwz : w.heap.size ≤ (wc.setCell ⟨B, 4, none⟩ (.int .i64 ((d : Int) + 1))).heap.size := by simp; omega
      generalize wc.setCell ⟨B, 4, none⟩ (.int .i64 ((d : Int) + 1)) = W4 at *
    · obtain ⟨e0, e1, e2, e3, e4⟩ := node_cells (block_kept (below1 _ (NdO a.tm.k a.tm.n a.tm.s (.slice ao am ac) (d : Int))) (node_set hr4 (.int .i64 0) (.int .i64 0) (.string ⟨#[]⟩) ZN (.int .i64 0)))
      have HNR : NdR (.un ⟨k, n, s⟩ a) (.slice (some ⟨g, 0, none⟩) 1 c) = .tuple #[.agg #[.int .i64 0, .int .i64 0, .string ⟨#[]⟩, .slice none 0 0, .int .i64 0], .int .i64 93] := by
        unfold NdR
        exact if_neg (by show ¬ (a.dep + 1 ≤ 64); omega)
      exact bodyPost_ret (v := NdR (.un ⟨k, n, s⟩ a) (.slice (some ⟨g, 0, none⟩) 1 c)) (by rw [HNR]; simp [results, Tryd.results34, go_sem, e0, e1, e2, e3, e4]) rfl ⟨g, c, rfl, hc, by omega, by simp; omega, Five.keep (below1 _ _) (Five.stay ((node_far rfl (by omega)).trans hg4) HFV.out), (below_node hb4 (by omega) _ _ _ _ _).alloc (by simp; omega) _⟩
    · obtain ⟨e0, e1, e2, e3, e4⟩ := node_cells (block_kept (below1 _ (NdO a.tm.k a.tm.n a.tm.s (.slice ao am ac) (d : Int))) (node_set hr4 (.int .i64 k) (.int .i64 n) (.string s) (.slice (some ⟨g, 0, none⟩) 1 c) (.int .i64 ((d : Int) + 1))))
      have HNR : NdR (.un ⟨k, n, s⟩ a) (.slice (some ⟨g, 0, none⟩) 1 c) = .tuple #[.agg #[.int .i64 k, .int .i64 n, .string s, .slice (some ⟨g, 0, none⟩) 1 c, .int .i64 ((d : Int) + 1)], .int .i64 0] := by
        unfold NdR
        rw [if_pos (by show a.dep + 1 ≤ 64; omega)]
        unfold NdV Nd.dep Nd.tm
        rw [hdd]; rfl
      exact bodyPost_ret (v := NdR (.un ⟨k, n, s⟩ a) (.slice (some ⟨g, 0, none⟩) 1 c)) (by rw [HNR]; simp [results, Tryd.results34, go_sem, e0, e1, e2, e3, e4]) rfl ⟨g, c, rfl, hc, by omega, by simp; omega, Five.keep (below1 _ _) (Five.stay ((node_far rfl (by omega)).trans hg4) HFV.out), (below_node hb4 (by omega) _ _ _ _ _).alloc (by simp; omega) _⟩
end Go.Proofs.YtdkflmpdelfgoaaDoor
namespace Go.Proofs.YtdkflmpdelfgoaaDoor
open Go.RowKit Go.Shelf
set_option linter.unusedVariables false
set_option linter.unusedSimpArgs false
attribute [local go_sem] Oper.semAt_some

theorem ten_news {W : World} {g o : Nat} {n m : Nd} {v u : Value} (h : Five W g o n v) (h' : Five W g (o + 5) m u) : ∀ j x, (NdC n v ++ NdC m u)[j]? = some x → W.cell? ((⟨g, o, none⟩ : Addr).add j) = some x := by
  intro j x hx
  rcases Nat.lt_or_ge j 5 with hj | hj
  · rw [List.getElem?_append_left (by simpa [NdC] using hj)] at hx
    exact five_news h j x hx
  · rw [List.getElem?_append_right (by simpa [NdC] using hj)] at hx
    have := five_news h' (j - 5) x (by simpa [NdC] using hx)
    have e1 : (⟨g, o, none⟩ : Addr).add j = ⟨g, o + j, none⟩ := by unfold Addr.add; split <;> simp_all
    have e2 : (⟨g, o + 5, none⟩ : Addr).add (j - 5) = ⟨g, o + 5 + (j - 5), none⟩ := by unfold Addr.add; split <;> simp_all
    rw [e1, show o + j = o + 5 + (j - 5) by omega, ← e2]
    exact this
theorem five_row2 {W : World} {g : Nat} {a b : Nd} {av bv : Value} (h : ∀ j u, (NdC a av ++ NdC b bv)[j]? = some u → W.cell? ⟨g, j, none⟩ = some u) : Five W g 0 a av ∧ Five W g 5 b bv :=
  ⟨⟨h 0 _ rfl, h 1 _ rfl, h 2 _ rfl, h 3 _ rfl, h 4 _ rfl⟩, ⟨h 5 _ rfl, h 6 _ rfl, h 7 _ rfl, h 8 _ rfl, h 9 _ rfl⟩⟩
set_option maxRecDepth 100000 in
set_option maxHeartbeats 8000000 in
theorem nest_2 (t : Tm) (G o cap : Nat) (a b : Nd) (ao : Option Addr) (am ac : Nat) (bo : Option Addr) (bm bc : Nat) (w : World) (h : Five w G o a (.slice ao am ac)) (h' : Five w G (o + 5) b (.slice bo bm bc)) (hd : a.dep ≤ 64) (hd' : b.dep ≤ 64) (hcap : 2 ≤ cap) :
    Calls Tryd.prog 34 #[tmV t, .slice (some ⟨G, o, none⟩) 2 cap] w fun e w' => ∃ g c, e = .returned (NdR (.bi t a b) (.slice (some ⟨g, 0, none⟩) 2 c)) ∧ 2 ≤ c ∧ w.heap.size ≤ g ∧ g < w'.heap.size ∧ Five w' g 0 a (.slice ao am ac) ∧ Five w' g 5 b (.slice bo bm bc) ∧ Below w.heap.size w w' := by
  obtain ⟨k, n, s⟩ := t
  obtain ⟨i0, hi, hiz0, hiz1, hiz2⟩ := info_parts infoNd
  have HF := Lib.hid h
  have HF' := Lib.hid h'
  have hG : G < w.heap.size := World.block_lt_of_cell? w _ h.1
  have HC : ∀ u ∈ (NdC a (.slice ao am ac) ++ NdC b (.slice bo bm bc)), u.oneCell' = true := by
    intro u hu
    simp only [NdC, List.cons_append, List.nil_append, List.mem_cons, List.not_mem_nil, or_false] at hu
    rcases hu with rfl | rfl | rfl | rfl | rfl | rfl | rfl | rfl | rfl | rfl <;> rfl
  have HCH := Lib.hid HC
  have HV := Lib.hid (fun (W : World) (hb : Below w.heap.size w W) => ten_news (Five.keep hb h) (Five.keep hb h'))
  clear h h' HC
  obtain ⟨d, hdd⟩ : ∃ d, a.dep = d := ⟨_, rfl⟩
  obtain ⟨d', hdd'⟩ : ∃ d, b.dep = d := ⟨_, rfl⟩
  obtain ⟨D, hDD⟩ : ∃ D, max (d + 1) (d' + 1) = D := ⟨_, rfl⟩
  unfold tmV
  simp only
  go_enter Tryd.func34, Tryd.ntmps34
  go_upto_region 1 with fail
  obtain ⟨n1, n2, n3, n4⟩ := two_new w (.cells #[.int .i64 k, .int .i64 n, .string s] 57) (NdO 0 0 E0 ZN 0)
  generalize (w.alloc (.cells #[.int .i64 k, .int .i64 n, .string s] 57)).alloc (NdO 0 0 E0 ZN 0) = W0 at *
  have T0 := val_cells n1
  have N1 := Lib.hid n1
  have N2 := Lib.hid n2
  have HB := Lib.hid n3
  have HZ := Lib.hid n4
  clear n1 n2 n3 n4
  go_cut [6] (fun s6 wc => NR w k n s 2 ((NdC a (.slice ao am ac) ++ NdC b (.slice bo bm bc))) s6 wc)
  case first =>
    obtain ⟨T00, T01, T02⟩ := T0
    obtain ⟨T10, T11, T12⟩ := val_cells (block_kept (below1 W0 (NdO 0 0 E0 ZN 0)) N1.out)
    go_region_law (refine step_append_lies _ (by rfl) (.const (.slice none 0 0)) (.tmp 10) 63 (by rfl) (w.heap.size + 2) 65 i0 (.agg #[.int .i64 0, .int .i64 0, .string ⟨#[]⟩, .slice none 0 0, .int .i64 0]) 5 64 Tryd.underlying63 hi hiz0 hiz1 hiz2 (by rfl) (by decide) (.slice none 0 0) 0 [] (by rfl) (World.ownsRow_nil _ _ _ _) ⟨G, o, none⟩ 2 cap ((NdC a (.slice ao am ac) ++ NdC b (.slice bo bm bc))) (by rfl) (by rfl) (by first | exact HV.out _ HB.out.drew | exact HV.out _ (HB.out.alloc HB.out.size _).drew) (by exact HCH.out) (by decide) (by unfold maxLen; omega) (by omega) (by have := HZ.out; first | (show w.heap.size + 2 ≤ W0.heap.size; omega) | (show w.heap.size + 2 ≤ (W0.alloc _).heap.size; simp; omega)) _ (by rfl) ?_; intro g' cap' w3 hown3 hgrow3 hat3 hlt3; have ho3 := (show w3.ownsRow (w.heap.size + 2) 65 5 (.slice (some ⟨g', 0, none⟩) 2 cap') 2 ((NdC a (.slice ao am ac) ++ NdC b (.slice bo bm bc))) from hown3); have hg3 := (show World.grownBy _ w3 none from hgrow3); have ha3 := (show none = some g' ∨ g' = _ from hat3); clear hown3 hat3; (first | (have hc3 := keep_grown hgrow3 N1.out) | (have hc3 := keep_grown hgrow3 (block_kept (below1 W0 (NdO 0 0 E0 ZN 0)) N1.out))); obtain ⟨T30, T31, T32⟩ := val_cells hc3; obtain ⟨T40, T41, T42⟩ := val_cells (block_kept (below1 w3 (NdO 0 0 E0 ZN 0)) hc3); (first | (have hb3 := keep_grown hgrow3 (heap_alloc_new W0 (NdO 0 0 E0 ZN 0)); have HB3 := Lib.hid hb3; obtain ⟨y0, y1, y2, y3, y4⟩ := node_cells hb3; have fz := fz_of hb3; clear hb3) | skip); clear hc3)
    all_goals go_wp2_with fail
    all_goals go_meet
    all_goals first | with_reducible exact nr_A N2.out HB.out ho3 hg3 HZ.out hlt3 Nat.zero_lt_two | with_reducible exact nr_B N2.out HB.out ho3 hg3 HZ.out hlt3 Nat.zero_lt_two ha3
  case rest =>
    obtain ⟨B, g, c, rfl, hB, hR, hB2, hg2, hne, hc, hgl, hrow, hbw⟩ := hcut
    have hF := Five.keep hbw HF.out
    have hF' := Five.keep hbw HF'.out
    have HFV := Lib.hid (five_row2 hrow)
    have HR := Lib.hid hR
    have HBW := Lib.hid hbw
    have HBC := Lib.hid hB
    obtain ⟨b0, b1, b2, b3, b4⟩ := node_cells hB
    obtain ⟨z0, z1, z2, z3, z4⟩ := node_cells hR
    have fzB := fz_of hB
    have fzR := fz_of hR
    have hBl := heap_lt hB
    have hnr : B ≠ w.heap.size + 1 := by omega
    have hgw := World.block_lt_of_cell? wc _ hF.1
    simp only at hgw
    have hbg : B ≠ G := by omega
    have hbg2 : G ≠ B := by omega
    have hbg3 : ¬ (B = G) := by omega
    have hnr2 : w.heap.size + 1 ≠ B := by omega
    have hnr3 : ¬ (B = w.heap.size + 1) := by omega
    have hrl := heap_lt hR
    have hrl2 : w.heap.size + 1 < wc.heap.size + 1 := by omega
    have hBl2 : B < wc.heap.size + 1 := by omega
    have hgw2 : G < wc.heap.size + 1 := by omega
    obtain ⟨f0, f1, f2, f3, f4⟩ := hF
    obtain ⟨g0, g1, g2, g3, g4⟩ := hF'
    have wx' : IntKind.i64.wrap ((d' : Int) + 1) = (d' : Int) + 1 := by rw [hdd'] at hd'; rw [IntWalk.i64_in _ (by omega)]
    have mx' : max ((d : Int) + 1) ((d' : Int) + 1) = (D : Int) := by omega
    have HDD := Lib.hid hDD
    have wx : IntKind.i64.wrap ((d : Int) + 1) = (d : Int) + 1 := by rw [IntWalk.i64_in _ (by omega)]
    have mx : max (0 : Int) ((d : Int) + 1) = (d : Int) + 1 := by omega
    rw [hdd] at f4 hd
    rw [hdd'] at g4 hd'
    clear hDD HF HF' hB hR hrow hbw HV HCH T0 N1 N2 HB HZ
    go_wp2_with fail
    refine wp_loop_rounds 3 ?_
    rw [rounds_succ]
    go_wp2_with fail
    rw [rounds_succ]
    go_wp2_with fail
    rw [rounds_succ]
    go_wp2_with fail
    all_goals
      have hb4 : Below w.heap.size w ((wc.setCell ⟨B, 4, none⟩ (.int .i64 ((d : Int) + 1))).setCell ⟨B, 4, none⟩ (.int .i64 (D : Int))) := (HBW.out.setCell (p := ⟨B, 4, none⟩) (by show w.heap.size ≤ B; omega) _).setCell (p := ⟨B, 4, none⟩) (by show w.heap.size ≤ B; omega) _
      have hr4 : ((wc.setCell ⟨B, 4, none⟩ (.int .i64 ((d : Int) + 1))).setCell ⟨B, 4, none⟩ (.int .i64 (D : Int))).heap[w.heap.size + 1]? = some (NdO 0 0 E0 ZN 0) := set_far (set_far HR.out hnr) hnr
      have hg4 : ((wc.setCell ⟨B, 4, none⟩ (.int .i64 ((d : Int) + 1))).setCell ⟨B, 4, none⟩ (.int .i64 (D : Int))).heap[g]? = wc.heap[g]? := set_far (set_far rfl hne) hne
      have hgz : g < ((wc.setCell ⟨B, 4, none⟩ (.int .i64 ((d : Int) + 1))).setCell ⟨B, 4, none⟩ (.int .i64 (D : Int))).heap.size := by simpa using hgl
      have hwz : w.heap.size ≤ ((wc.setCell ⟨B, 4, none⟩ (.int .i64 ((d : Int) + 1))).setCell ⟨B, 4, none⟩ (.int .i64 (D : Int))).heap.size := by simp; omega
      generalize (wc.setCell ⟨B, 4, none⟩ (.int .i64 ((d : Int) + 1))).setCell ⟨B, 4, none⟩ (.int .i64 (D : Int)) = W4 at *
    · obtain ⟨e0, e1, e2, e3, e4⟩ := node_cells (block_kept (below1 _ (NdO b.tm.k b.tm.n b.tm.s (.slice bo bm bc) (d' : Int))) (block_kept (below1 _ (NdO a.tm.k a.tm.n a.tm.s (.slice ao am ac) (d : Int))) (node_set hr4 (.int .i64 0) (.int .i64 0) (.string ⟨#[]⟩) ZN (.int .i64 0))))
      have HNR : NdR (.bi ⟨k, n, s⟩ a b) (.slice (some ⟨g, 0, none⟩) 2 c) = .tuple #[.agg #[.int .i64 0, .int .i64 0, .string ⟨#[]⟩, .slice none 0 0, .int .i64 0], .int .i64 93] := by
        unfold NdR
        exact if_neg (by show ¬ (max (a.dep + 1) (b.dep + 1) ≤ 64); have := HDD.out; rw [hdd, hdd', this]; omega)
      exact bodyPost_ret (v := NdR (.bi ⟨k, n, s⟩ a b) (.slice (some ⟨g, 0, none⟩) 2 c)) (by rw [HNR]; simp [results, Tryd.results34, go_sem, e0, e1, e2, e3, e4]) rfl ⟨g, c, rfl, hc, by omega, by simp; omega, Five.keep (below1 _ _) (Five.keep (below1 _ _) (Five.stay ((node_far rfl (by omega)).trans hg4) HFV.out.1)), Five.keep (below1 _ _) (Five.keep (below1 _ _) (Five.stay ((node_far rfl (by omega)).trans hg4) HFV.out.2)), ((below_node hb4 (by omega) _ _ _ _ _).alloc (by simp; omega) _).alloc (by simp; omega) _⟩
    · obtain ⟨e0, e1, e2, e3, e4⟩ := node_cells (block_kept (below1 _ (NdO b.tm.k b.tm.n b.tm.s (.slice bo bm bc) (d' : Int))) (block_kept (below1 _ (NdO a.tm.k a.tm.n a.tm.s (.slice ao am ac) (d : Int))) (node_set hr4 (.int .i64 k) (.int .i64 n) (.string s) (.slice (some ⟨g, 0, none⟩) 2 c) (.int .i64 (D : Int)))))
      have HNR : NdR (.bi ⟨k, n, s⟩ a b) (.slice (some ⟨g, 0, none⟩) 2 c) = .tuple #[.agg #[.int .i64 k, .int .i64 n, .string s, .slice (some ⟨g, 0, none⟩) 2 c, .int .i64 (D : Int)], .int .i64 0] := by
        unfold NdR
        rw [if_pos (by show max (a.dep + 1) (b.dep + 1) ≤ 64; have := HDD.out; rw [hdd, hdd', this]; omega)]
        unfold NdV Nd.dep Nd.tm
        rw [hdd, hdd', HDD.out]
      exact bodyPost_ret (v := NdR (.bi ⟨k, n, s⟩ a b) (.slice (some ⟨g, 0, none⟩) 2 c)) (by rw [HNR]; simp [results, Tryd.results34, go_sem, e0, e1, e2, e3, e4]) rfl ⟨g, c, rfl, hc, by omega, by simp; omega, Five.keep (below1 _ _) (Five.keep (below1 _ _) (Five.stay ((node_far rfl (by omega)).trans hg4) HFV.out.1)), Five.keep (below1 _ _) (Five.keep (below1 _ _) (Five.stay ((node_far rfl (by omega)).trans hg4) HFV.out.2)), ((below_node hb4 (by omega) _ _ _ _ _).alloc (by simp; omega) _).alloc (by simp; omega) _⟩
end Go.Proofs.YtdkflmpdelfgoaaDoor
