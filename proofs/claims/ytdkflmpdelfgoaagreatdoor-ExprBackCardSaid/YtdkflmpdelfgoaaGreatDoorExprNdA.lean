/-
  Trees of terms: their texts and depths, how they lie in memory, and nest: what each call returns. Conditions: where a row of nodes lies.
-/
import Derived.Test.YtdkflmpdelfgoaaGreatDoorExprRefX
import Derived.Test.YtdkflmpdelfgoaaGreatDoorExprJ
import Derived.Test.YtdkflmpdelfgoaaGreatDoorExprP
namespace Go.Proofs.YtdkflmpdelfgoaaGreatDoor
open Go.RowKit Go.Shelf
set_option linter.unusedVariables false
set_option linter.unusedSimpArgs false
attribute [local go_sem] Oper.semAt_some

/-! ### trees -/
inductive Nd where
  | lf (t : Tm)
  | un (t : Tm) (a : Nd)
  | bi (t : Tm) (a b : Nd)
def Nd.tm : Nd → Tm
  | .lf t => t
  | .un t _ => t
  | .bi t _ _ => t
def Nd.dep : Nd → Nat
  | .lf _ => 0
  | .un _ a => a.dep + 1
  | .bi _ a b => max (a.dep + 1) (b.dep + 1)
def Nd.text : Nd → BA
  | .lf t => leafB t
  | .un t a => ⟨#[40]⟩ ++ signB t.k.toNat ++ a.text ++ ⟨#[41]⟩
  | .bi t a b => ⟨#[40]⟩ ++ a.text ++ signB t.k.toNat ++ b.text ++ ⟨#[41]⟩
def NdC (n : Nd) (v : Value) : List Value := [.int .i64 n.tm.k, .int .i64 n.tm.n, .string n.tm.s, v, .int .i64 (n.dep : Int)]
def NdV (n : Nd) (v : Value) : Value := .agg #[.int .i64 n.tm.k, .int .i64 n.tm.n, .string n.tm.s, v, .int .i64 (n.dep : Int)]
/-- five cells -/
def Five (W : World) (g o : Nat) (n : Nd) (v : Value) : Prop := W.cell? ⟨g, o, none⟩ = some (.int .i64 n.tm.k) ∧ W.cell? ⟨g, o + 1, none⟩ = some (.int .i64 n.tm.n) ∧ W.cell? ⟨g, o + 2, none⟩ = some (.string n.tm.s) ∧ W.cell? ⟨g, o + 3, none⟩ = some v ∧ W.cell? ⟨g, o + 4, none⟩ = some (.int .i64 (n.dep : Int))
theorem Five.keep {W W' : World} (hb : Below W.heap.size W W') {g o : Nat} {n : Nd} {v : Value} (h : Five W g o n v) : Five W' g o n v :=
  ⟨cell_kept hb h.1, cell_kept hb h.2.1, cell_kept hb h.2.2.1, cell_kept hb h.2.2.2.1, cell_kept hb h.2.2.2.2⟩
/-- a tree lies in blocks of P -/
def NdAt (P : Nat → Prop) (W : World) : Nd → Value → Prop
  | .lf _, v => v = .slice none 0 0
  | .un _ a, v => ∃ g c av, v = .slice (some ⟨g, 0, none⟩) 1 c ∧ 1 ≤ c ∧ P g ∧ Five W g 0 a av ∧ NdAt P W a av
  | .bi _ a b, v => ∃ g c av bv, v = .slice (some ⟨g, 0, none⟩) 2 c ∧ 2 ≤ c ∧ P g ∧ Five W g 0 a av ∧ Five W g 5 b bv ∧ NdAt P W a av ∧ NdAt P W b bv
theorem Five.stay {W W' : World} {g o : Nat} {n : Nd} {v : Value} (hg : W'.heap[g]? = W.heap[g]?) (h : Five W g o n v) : Five W' g o n v := by
  have k : ∀ j, W'.cell? ⟨g, j, none⟩ = W.cell? ⟨g, j, none⟩ := fun j => World.cell?_of_block hg
  exact ⟨(k _).trans h.1, (k _).trans h.2.1, (k _).trans h.2.2.1, (k _).trans h.2.2.2.1, (k _).trans h.2.2.2.2⟩
theorem NdAt.keep {P P' : Nat → Prop} {W W' : World} (hP : ∀ g, P g → P' g) (hg : ∀ g, P g → W'.heap[g]? = W.heap[g]?) : ∀ {n : Nd} {v : Value}, NdAt P W n v → NdAt P' W' n v
  | .lf _, v, h => h
  | .un _ a, v, ⟨g, c, av, h1, h2, h3, h4, h5⟩ => ⟨g, c, av, h1, h2, hP g h3, h4.stay (hg g h3), NdAt.keep hP hg h5⟩
  | .bi _ a b, v, ⟨g, c, av, bv, h1, h2, h3, h4, h5, h6, h7⟩ => ⟨g, c, av, bv, h1, h2, hP g h3, h4.stay (hg g h3), h5.stay (hg g h3), NdAt.keep hP hg h6, NdAt.keep hP hg h7⟩
theorem node_cells {W : World} {B : Nat} {T : TypeId} {z : Nat × Nat} {x0 x1 x2 x3 x4 : Value} (h : W.heap[B]? = some (.cells #[x0, x1, x2, x3, x4] T z)) :
    W.cell? ⟨B, 0, none⟩ = some x0 ∧ W.cell? ⟨B, 1, none⟩ = some x1 ∧ W.cell? ⟨B, 2, none⟩ = some x2 ∧ W.cell? ⟨B, 3, none⟩ = some x3 ∧ W.cell? ⟨B, 4, none⟩ = some x4 := by
  refine ⟨?_, ?_, ?_, ?_, ?_⟩ <;> (rw [Lib.cell_of_heap h]; rfl)
theorem infoNd : (Tryz.prog.info? 46).map (fun i => (i.zero, i.size, i.bytes)) = some (some (.agg #[.int .i64 0, .int .i64 0, .string ⟨#[]⟩, .slice none 0 0, .int .i64 0]), 5, 64) := by kernel_rfl
def NdR (n : Nd) (v : Value) : Value := if n.dep ≤ 64 then .tuple #[NdV n v, .int .i64 0] else .tuple #[.agg #[.int .i64 0, .int .i64 0, .string ⟨#[]⟩, .slice none 0 0, .int .i64 0], .int .i64 93]
theorem run_append_empty {P : Program} (w : World) (t ty e : TypeId) (i : TypeInfo) (z : Value) (ht : P.underlying t = some (.slice e)) (hi : P.info? e = some i) (hz : i.zero = some z) (A : Option Addr) (c : Nat) :
    (Builtin.append_ #[t, t] ty #[.slice none 0 0, .slice A 0 c]).run P w = .ok (.slice none 0 0) w := by
  have h := fun a => run_firstCells_some (P := P) w i.size 0 a 0 c [] (by simp) (fun j v e => by simp at e)
  have h0 := run_firstCells_none (P := P) w i.size 0 0 c
  rcases A with _ | a <;> simp [Builtin.append_, run_underlying ht, sizeOf, typeInfo, zeroValue, hi, hz, Builtin.lenOf, h, h0]
theorem step_append_empty {P : Program} (w : World) {ops : Array Oper} {o : Oper} {a : Act} {K : Act → World → Prop} {Q : Exit → Act → World → Prop} {E : Prop} (hgd : o.guard = none) (s x : Operand) (t : TypeId)
    (ho : o.op = .call { callee := .builtin .append, args := #[s, x], argTypes := #[t, t] })
    (e : TypeId) (i : TypeInfo) (z : Value) (ht : P.underlying t = some (.slice e)) (hi : P.info? e = some i) (hz : i.zero = some z) (hs : a.eval s = .slice none 0 0)
    (A : Option Addr) (c : Nat) (hx : a.eval x = .slice A 0 c) (h : K (a.put o.dst (.slice none 0 0)) w) :
    if Region.wanted o (yielded ops a.tmps) = true then Oper.wp P o a w K Q else E := by
  have hw : Region.wanted o (yielded ops a.tmps) = true := by simp [Region.wanted, hgd]
  rw [if_pos hw]
  have hr := run_append_empty (P := P) w t o.type e i z ht hi hz A c
  unfold Oper.wp execOp
  simp only [ho, resolve, invoke, builtin, Sem.run_bind, Sem.run_pure, Result.andThen_ok, List.map_toArray, List.map_cons, List.map_nil, hs, hx, hr]
  exact h
set_option maxRecDepth 100000 in
set_option maxHeartbeats 4000000 in
theorem nest_0 (t : Tm) (A : Option Addr) (c : Nat) (w : World) :
    Calls Tryz.prog 16 #[tmV t, .slice A 0 c] w fun e w' => e = .returned (NdR (.lf t) (.slice none 0 0)) ∧ Below w.heap.size w w' := by
  obtain ⟨k, n, s⟩ := t
  obtain ⟨i0, hi, hiz0, hiz1, hiz2⟩ := info_parts infoNd
  unfold tmV
  simp only
  go_enter Tryz.func16, Tryz.ntmps16
  go_wp2_with fail
  go_region_law (refine step_append_empty _ (by rfl) (.const (.slice none 0 0)) (.tmp 10) 44 (by rfl) 46 i0 (.agg #[.int .i64 0, .int .i64 0, .string ⟨#[]⟩, .slice none 0 0, .int .i64 0]) Tryz.underlying44 hi hiz0 (by rfl) A c (by rfl) ?_)
  all_goals
    go_wp2_with fail
    refine wp_loop_rounds 1 ?_
    rw [rounds_succ]
    go_wp2_with fail
  all_goals
    obtain ⟨n1, n2, n3, n4⟩ := two_new w (.cells #[.int .i64 k, .int .i64 n, .string s] 42) (.cells #[.int .i64 k, .int .i64 n, .string s, .slice none 0 0, .int .i64 0] 46)
    have n5 := block_kept (below1 _ (.cells #[.int .i64 k, .int .i64 n, .string s, .slice none 0 0, .int .i64 0] 46)).drew n2
    obtain ⟨e0, e1, e2, e3, e4⟩ := node_cells n5
    exact bodyPost_ret (v := NdR (.lf ⟨k, n, s⟩) (.slice none 0 0)) (by simp [NdR, NdV, Nd.dep, Nd.tm, results, Tryz.results16, go_sem, e0, e1, e2, e3, e4]) rfl ⟨rfl, Below.thn n3 n3.size (below1 _ _).drew⟩
theorem at_new (w : World) (b : Nat) (o : Obj) (h : w.heap.size = b) : (w.alloc o).heap[b]? = some o := by subst h; exact heap_alloc_new w o
theorem keep_grown {V W : World} (hg : V.grownBy W none) {b : Nat} {o : Obj} (h : V.heap[b]? = some o) : W.heap[b]? = some o := (hg.block b (heap_lt h) (by intro e; cases e)).trans h
abbrev ZN : Value := .slice none 0 0
abbrev NdO (k n : Int) (s : BA) (v : Value) (d : Int) : Obj := .cells #[.int .i64 k, .int .i64 n, .string s, v, .int .i64 d] 46 (0, 0)
theorem five_of {W : World} {base g cap : Nat} {n : Nd} {v : Value} (h : W.ownsRow base 46 5 (.slice (some ⟨g, 0, none⟩) 1 cap) 1 (NdC n v)) : Five W g 0 n v :=
  ⟨h.cellAt 0 (by simp [NdC]), h.cellAt 1 (by simp [NdC]), h.cellAt 2 (by simp [NdC]), h.cellAt 3 (by simp [NdC]), h.cellAt 4 (by simp [NdC])⟩
theorem five_news {W : World} {g o : Nat} {n : Nd} {v : Value} (h : Five W g o n v) : ∀ j u, (NdC n v)[j]? = some u → W.cell? ((⟨g, o, none⟩ : Addr).add j) = some u := by
  intro j u hu
  have hadd : (⟨g, o, none⟩ : Addr).add j = ⟨g, o + j, none⟩ := by unfold Addr.add; split <;> simp_all
  rw [hadd]
  obtain ⟨h0, h1, h2, h3, h4⟩ := h
  match j, hu with
  | 0, hu => simp [NdC] at hu; subst hu; exact h0
  | 1, hu => simp [NdC] at hu; subst hu; exact h1
  | 2, hu => simp [NdC] at hu; subst hu; exact h2
  | 3, hu => simp [NdC] at hu; subst hu; exact h3
  | 4, hu => simp [NdC] at hu; subst hu; exact h4
  | (j + 5), hu => simp [NdC] at hu
/-- what the region that lays a node leaves -/
def NR (w : World) (k n : Int) (s : BA) (m : Nat) (cs : List Value) (s6 : Value) (wc : World) : Prop := ∃ B g c, s6 = .pointer (some ⟨B, 0, none⟩) ∧ wc.heap[B]? = some (NdO k n s (.slice (some ⟨g, 0, none⟩) m c) 0) ∧ wc.heap[w.heap.size + 1]? = some (NdO 0 0 E0 ZN 0) ∧ w.heap.size + 2 ≤ B ∧ w.heap.size + 2 ≤ g ∧ B ≠ g ∧ m ≤ c ∧ g < wc.heap.size ∧ (∀ j u, cs[j]? = some u → wc.cell? ⟨g, j, none⟩ = some u) ∧ Below w.heap.size w wc
theorem row_cells {W : World} {base m g cap : Nat} {cs : List Value} (h : W.ownsRow base 46 5 (.slice (some ⟨g, 0, none⟩) m cap) m cs) : ∀ j u, cs[j]? = some u → W.cell? ⟨g, j, none⟩ = some u := fun j u hu => by
  have hj : j < cs.length := (List.getElem?_eq_some_iff.1 hu).1
  rw [h.cellAt j (by have := h.1; omega), hu]
theorem nr_A {w W0 w3 : World} {k n : Int} {s : BA} {m cap g : Nat} {cs : List Value} (N2 : W0.heap[w.heap.size + 1]? = some (NdO 0 0 E0 ZN 0)) (HB : Below w.heap.size w W0)
    (hown : w3.ownsRow (w.heap.size + 2) 46 5 (.slice (some ⟨g, 0, none⟩) m cap) m cs) (hg : W0.drew.grownBy w3 none) (hz : W0.heap.size = w.heap.size + 2) (hlt : g < w3.heap.size) (hm : 0 < m) :
    NR w k n s m cs (.pointer (some ⟨w3.heap.size, 0, none⟩)) (w3.alloc (NdO k n s (.slice (some ⟨g, 0, none⟩) m cap) 0)) := by
  have hsz : W0.heap.size ≤ w3.heap.size := hg.size
  have hb3 : Below w.heap.size w w3 := HB.drew.grown hg (show w.heap.size ≤ W0.heap.size by omega) (fun g e => by cases e)
  obtain ⟨g', cap', hv, hb', -⟩ := hown.form hm
  cases hv
  have hk := below1 w3 (NdO k n s (.slice (some ⟨g, 0, none⟩) m cap) 0)
  refine ⟨w3.heap.size, g, cap, rfl, heap_alloc_new _ _, block_kept hk (keep_grown (V := W0.drew) hg N2), by omega, hb', by omega, own_cap hown, Nat.lt_of_lt_of_le hlt hk.size, fun j u hu => cell_kept hk (row_cells hown j u hu), hb3.alloc (by omega) _⟩
theorem node_set {W : World} {B : Nat} {T : TypeId} {z : Nat × Nat} {a b c d e : Value} (h : W.heap[B]? = some (.cells #[a, b, c, d, e] T z)) (x0 x1 x2 x3 x4 : Value) :
    (((((W.setCell ⟨B, 0, none⟩ x0).setCell ⟨B, 1, none⟩ x1).setCell ⟨B, 2, none⟩ x2).setCell ⟨B, 3, none⟩ x3).setCell ⟨B, 4, none⟩ x4).heap[B]? = some (.cells #[x0, x1, x2, x3, x4] T z) := by
  simp only [World.setCell, Array.getElem?_modify, if_true, h, Option.map_some]
  rfl
theorem below_node {n B : Nat} {w W : World} (h : Below n w W) (hB : n ≤ B) (x0 x1 x2 x3 x4 : Value) : Below n w (((((W.setCell ⟨B, 0, none⟩ x0).setCell ⟨B, 1, none⟩ x1).setCell ⟨B, 2, none⟩ x2).setCell ⟨B, 3, none⟩ x3).setCell ⟨B, 4, none⟩ x4) :=
  ((((h.setCell (p := ⟨B, 0, none⟩) hB _).setCell (p := ⟨B, 1, none⟩) hB _).setCell (p := ⟨B, 2, none⟩) hB _).setCell (p := ⟨B, 3, none⟩) hB _).setCell (p := ⟨B, 4, none⟩) hB _
theorem node_far {W : World} {B b : Nat} {x0 x1 x2 x3 x4 : Value} {y : Option Obj} (h : W.heap[b]? = y) (hne : B ≠ b) : (((((W.setCell ⟨B, 0, none⟩ x0).setCell ⟨B, 1, none⟩ x1).setCell ⟨B, 2, none⟩ x2).setCell ⟨B, 3, none⟩ x3).setCell ⟨B, 4, none⟩ x4).heap[b]? = y :=
  set_far (set_far (set_far (set_far (set_far h hne) hne) hne) hne) hne
theorem nr_B {w W0 w3 : World} {k n : Int} {s : BA} {m cap g : Nat} {cs : List Value} (N2 : W0.heap[w.heap.size + 1]? = some (NdO 0 0 E0 ZN 0)) (HB : Below w.heap.size w W0)
    (hown : w3.ownsRow (w.heap.size + 2) 46 5 (.slice (some ⟨g, 0, none⟩) m cap) m cs) (hg : (W0.alloc (NdO 0 0 E0 ZN 0)).drew.grownBy w3 none) (hz : W0.heap.size = w.heap.size + 2) (hlt : g < w3.heap.size) (hm : 0 < m) (hat : none = some g ∨ g = (W0.alloc (NdO 0 0 E0 ZN 0)).drew.heap.size) :
    NR w k n s m cs (.pointer (some ⟨W0.heap.size, 0, none⟩)) (((((w3.setCell ⟨W0.heap.size, 0, none⟩ (.int .i64 k)).setCell ⟨W0.heap.size, 1, none⟩ (.int .i64 n)).setCell ⟨W0.heap.size, 2, none⟩ (.string s)).setCell ⟨W0.heap.size, 3, none⟩ (.slice (some ⟨g, 0, none⟩) m cap)).setCell ⟨W0.heap.size, 4, none⟩ (.int .i64 0)) := by
  have hz1 : (W0.alloc (NdO 0 0 E0 ZN 0)).heap.size = w.heap.size + 3 := by simp; omega
  have hge : g = w.heap.size + 3 := by
    rcases hat with h | h
    · cases h
    · exact h.trans hz1
  have hb1 := HB.alloc (show w.heap.size ≤ W0.heap.size by omega) (NdO 0 0 E0 ZN 0)
  have hb3 : Below w.heap.size w w3 := hb1.drew.grown hg (show w.heap.size ≤ (W0.alloc (NdO 0 0 E0 ZN 0)).heap.size by omega) (fun g e => by cases e)
  have hB : w3.heap[W0.heap.size]? = some (NdO 0 0 E0 ZN 0) := keep_grown (V := (W0.alloc (NdO 0 0 E0 ZN 0)).drew) hg (heap_alloc_new W0 _)
  have hne : W0.heap.size ≠ g := by omega
  have hw1 : w3.heap[w.heap.size + 1]? = some (NdO 0 0 E0 ZN 0) := keep_grown (V := (W0.alloc (NdO 0 0 E0 ZN 0)).drew) hg (block_kept (below1 W0 _) N2)
  refine ⟨W0.heap.size, g, cap, rfl, node_set hB _ _ _ _ _, node_far hw1 (by omega), by omega, by omega, hne, own_cap hown, by simpa using hlt, fun j u hu => ?_, below_node hb3 (by omega) _ _ _ _ _⟩
  rw [World.cell?_setCell_far _ _ _ _ hne, World.cell?_setCell_far _ _ _ _ hne, World.cell?_setCell_far _ _ _ _ hne, World.cell?_setCell_far _ _ _ _ hne, World.cell?_setCell_far _ _ _ _ hne]
  exact row_cells hown j u hu
theorem five_row {W : World} {g : Nat} {a : Nd} {av : Value} (h : ∀ j u, (NdC a av)[j]? = some u → W.cell? ⟨g, j, none⟩ = some u) : Five W g 0 a av := ⟨h 0 _ rfl, h 1 _ rfl, h 2 _ rfl, h 3 _ rfl, h 4 _ rfl⟩
set_option maxRecDepth 100000 in
set_option maxHeartbeats 8000000 in
theorem nest_1 (t : Tm) (G o cap : Nat) (a : Nd) (ao : Option Addr) (am ac : Nat) (w : World) (h : Five w G o a (.slice ao am ac)) (hd : a.dep ≤ 64) :
    Calls Tryz.prog 16 #[tmV t, .slice (some ⟨G, o, none⟩) 1 cap] w fun e w' => ∃ g c, e = .returned (NdR (.un t a) (.slice (some ⟨g, 0, none⟩) 1 c)) ∧ 1 ≤ c ∧ w.heap.size ≤ g ∧ g < w'.heap.size ∧ Five w' g 0 a (.slice ao am ac) ∧ Below w.heap.size w w' := by
  obtain ⟨k, n, s⟩ := t
  obtain ⟨i0, hi, hiz0, hiz1, hiz2⟩ := info_parts infoNd
  have HF := Lib.hid h
  have hG : G < w.heap.size := World.block_lt_of_cell? w _ h.1
  have HC : ∀ u ∈ NdC a (.slice ao am ac), u.oneCell' = true := by
    intro u hu
    simp only [NdC, List.mem_cons, List.not_mem_nil, or_false] at hu
    rcases hu with rfl | rfl | rfl | rfl | rfl
    · rfl
    · rfl
    · rfl
    · rfl
    · rfl
  have HCH := Lib.hid HC
  have HV := Lib.hid (fun (W : World) (hb : Below w.heap.size w W) => five_news (Five.keep hb h))
  clear h HC
  obtain ⟨d, hdd⟩ : ∃ d, a.dep = d := ⟨_, rfl⟩
  unfold tmV
  simp only
  go_enter Tryz.func16, Tryz.ntmps16
  go_upto_region 1 with fail
  obtain ⟨n1, n2, n3, n4⟩ := two_new w (.cells #[.int .i64 k, .int .i64 n, .string s] 42) (NdO 0 0 E0 ZN 0)
  generalize (w.alloc (.cells #[.int .i64 k, .int .i64 n, .string s] 42)).alloc (NdO 0 0 E0 ZN 0) = W0 at *
  have T0 := val_cells n1
  have N1 := Lib.hid n1
  have N2 := Lib.hid n2
  have HB := Lib.hid n3
  have HZ := Lib.hid n4
  clear n1 n2 n3 n4
  go_cut [6] (fun s6 wc => NR w k n s 1 (NdC a (.slice ao am ac)) s6 wc)
  case first =>
    obtain ⟨T00, T01, T02⟩ := T0
    obtain ⟨T10, T11, T12⟩ := val_cells (block_kept (below1 W0 (NdO 0 0 E0 ZN 0)) N1.out)
    go_region_law (refine step_append_lies _ (by rfl) (.const (.slice none 0 0)) (.tmp 10) 44 (by rfl) (w.heap.size + 2) 46 i0 (.agg #[.int .i64 0, .int .i64 0, .string ⟨#[]⟩, .slice none 0 0, .int .i64 0]) 5 64 Tryz.underlying44 hi hiz0 hiz1 hiz2 (by rfl) (by decide) (.slice none 0 0) 0 [] (by rfl) (World.ownsRow_nil _ _ _ _) ⟨G, o, none⟩ 1 cap (NdC a (.slice ao am ac)) (by rfl) (by rfl) (by first | exact HV.out _ HB.out.drew | exact HV.out _ (HB.out.alloc HB.out.size _).drew) (by exact HCH.out) (by decide) (by unfold maxLen; omega) (by omega) (by have := HZ.out; first | (show w.heap.size + 2 ≤ W0.heap.size; omega) | (show w.heap.size + 2 ≤ (W0.alloc _).heap.size; simp; omega)) _ (by rfl) ?_; intro g' cap' w3 hown3 hgrow3 hat3 hlt3; have ho3 := (show w3.ownsRow (w.heap.size + 2) 46 5 (.slice (some ⟨g', 0, none⟩) 1 cap') 1 (NdC a (.slice ao am ac)) from hown3); have hg3 := (show World.grownBy _ w3 none from hgrow3); have ha3 := (show none = some g' ∨ g' = _ from hat3); clear hown3 hat3; (first | (have hc3 := keep_grown hgrow3 N1.out) | (have hc3 := keep_grown hgrow3 (block_kept (below1 W0 (NdO 0 0 E0 ZN 0)) N1.out))); obtain ⟨T30, T31, T32⟩ := val_cells hc3; obtain ⟨T40, T41, T42⟩ := val_cells (block_kept (below1 w3 (NdO 0 0 E0 ZN 0)) hc3); (first | (have hb3 := keep_grown hgrow3 (heap_alloc_new W0 (NdO 0 0 E0 ZN 0)); have HB3 := Lib.hid hb3; obtain ⟨y0, y1, y2, y3, y4⟩ := node_cells hb3; have fz := fz_of hb3; clear hb3) | skip); clear hc3)
    all_goals go_wp2_with fail
    all_goals go_meet
    all_goals first | with_reducible exact nr_A N2.out HB.out ho3 hg3 HZ.out hlt3 Nat.zero_lt_one | with_reducible exact nr_B N2.out HB.out ho3 hg3 HZ.out hlt3 Nat.zero_lt_one ha3
  case rest =>
    obtain ⟨B, g, c, rfl, hB, hR, hB2, hg2, hne, hc, hgl, hrow, hbw⟩ := hcut
    have hF := Five.keep hbw HF.out
    have HFV := Lib.hid (five_row hrow)
    have HR := Lib.hid hR
    have HBW := Lib.hid hbw
    have HBC := Lib.hid hB
    obtain ⟨b0, b1, b2, b3, b4⟩ := node_cells hB
    obtain ⟨z0, z1, z2, z3, z4⟩ := node_cells hR
    have fzB := fz_of hB
    have fzR := fz_of hR
    have hBl := heap_lt hB
    have hnr : B ≠ w.heap.size + 1 := by omega
    have hnr2 : w.heap.size + 1 ≠ B := by omega
    have hnr3 : ¬ (B = w.heap.size + 1) := by omega
    have hrl := heap_lt hR
    obtain ⟨f0, f1, f2, f3, f4⟩ := hF
    have wx : IntKind.i64.wrap ((d : Int) + 1) = (d : Int) + 1 := by rw [IntWalk.i64_in _ (by omega)]
    have mx : max (0 : Int) ((d : Int) + 1) = (d : Int) + 1 := by omega
    rw [hdd] at f4 hd
    clear HF hB hR hrow hbw HV HCH T0 N1 N2 HB HZ
    go_wp2_with fail
    refine wp_loop_rounds 2 ?_
    rw [rounds_succ]
    go_wp2_with fail
    rw [rounds_succ]
    go_wp2_with fail
    all_goals
      have hb4 : Below w.heap.size w (wc.setCell ⟨B, 4, none⟩ (.int .i64 ((d : Int) + 1))) := HBW.out.setCell (p := ⟨B, 4, none⟩) (by show w.heap.size ≤ B; omega) _
      have hr4 : (wc.setCell ⟨B, 4, none⟩ (.int .i64 ((d : Int) + 1))).heap[w.heap.size + 1]? = some (NdO 0 0 E0 ZN 0) := set_far HR.out hnr
      have hg4 : (wc.setCell ⟨B, 4, none⟩ (.int .i64 ((d : Int) + 1))).heap[g]? = wc.heap[g]? := set_far rfl hne
      have hgz : g < (wc.setCell ⟨B, 4, none⟩ (.int .i64 ((d : Int) + 1))).heap.size := by simpa using hgl
      have hwz : w.heap.size ≤ (wc.setCell ⟨B, 4, none⟩ (.int .i64 ((d : Int) + 1))).heap.size := by simp; omega
      generalize wc.setCell ⟨B, 4, none⟩ (.int .i64 ((d : Int) + 1)) = W4 at *
    · obtain ⟨e0, e1, e2, e3, e4⟩ := node_cells (block_kept (below1 _ (NdO a.tm.k a.tm.n a.tm.s (.slice ao am ac) (d : Int))) (node_set hr4 (.int .i64 0) (.int .i64 0) (.string ⟨#[]⟩) ZN (.int .i64 0)))
      have HNR : NdR (.un ⟨k, n, s⟩ a) (.slice (some ⟨g, 0, none⟩) 1 c) = .tuple #[.agg #[.int .i64 0, .int .i64 0, .string ⟨#[]⟩, .slice none 0 0, .int .i64 0], .int .i64 93] := by
        unfold NdR
        exact if_neg (by show ¬ (a.dep + 1 ≤ 64); omega)
      exact bodyPost_ret (v := NdR (.un ⟨k, n, s⟩ a) (.slice (some ⟨g, 0, none⟩) 1 c)) (by rw [HNR]; simp [results, Tryz.results16, go_sem, e0, e1, e2, e3, e4]) rfl ⟨g, c, rfl, hc, by omega, by simp; omega, Five.keep (below1 _ _) (Five.stay ((node_far rfl (by omega)).trans hg4) HFV.out), (below_node hb4 (by omega) _ _ _ _ _).alloc (by simp; omega) _⟩
    · obtain ⟨e0, e1, e2, e3, e4⟩ := node_cells (block_kept (below1 _ (NdO a.tm.k a.tm.n a.tm.s (.slice ao am ac) (d : Int))) (node_set hr4 (.int .i64 k) (.int .i64 n) (.string s) (.slice (some ⟨g, 0, none⟩) 1 c) (.int .i64 ((d : Int) + 1))))
      have HNR : NdR (.un ⟨k, n, s⟩ a) (.slice (some ⟨g, 0, none⟩) 1 c) = .tuple #[.agg #[.int .i64 k, .int .i64 n, .string s, .slice (some ⟨g, 0, none⟩) 1 c, .int .i64 ((d : Int) + 1)], .int .i64 0] := by
        unfold NdR
        rw [if_pos (by show a.dep + 1 ≤ 64; omega)]
        unfold NdV Nd.dep Nd.tm
        rw [hdd]; rfl
      exact bodyPost_ret (v := NdR (.un ⟨k, n, s⟩ a) (.slice (some ⟨g, 0, none⟩) 1 c)) (by rw [HNR]; simp [results, Tryz.results16, go_sem, e0, e1, e2, e3, e4]) rfl ⟨g, c, rfl, hc, by omega, by simp; omega, Five.keep (below1 _ _) (Five.stay ((node_far rfl (by omega)).trans hg4) HFV.out), (below_node hb4 (by omega) _ _ _ _ _).alloc (by simp; omega) _⟩
end Go.Proofs.YtdkflmpdelfgoaaGreatDoor
namespace Go.Proofs.YtdkflmpdelfgoaaGreatDoor
open Go.RowKit Go.Shelf
set_option linter.unusedVariables false
set_option linter.unusedSimpArgs false
attribute [local go_sem] Oper.semAt_some

theorem ten_news {W : World} {g o : Nat} {n m : Nd} {v u : Value} (h : Five W g o n v) (h' : Five W g (o + 5) m u) : ∀ j x, (NdC n v ++ NdC m u)[j]? = some x → W.cell? ((⟨g, o, none⟩ : Addr).add j) = some x := by
  intro j x hx
  rcases Nat.lt_or_ge j 5 with hj | hj
  · rw [List.getElem?_append_left (by simpa [NdC] using hj)] at hx
    exact five_news h j x hx
  · rw [List.getElem?_append_right (by simpa [NdC] using hj)] at hx
    have := five_news h' (j - 5) x (by simpa [NdC] using hx)
    have e1 : (⟨g, o, none⟩ : Addr).add j = ⟨g, o + j, none⟩ := by unfold Addr.add; split <;> simp_all
    have e2 : (⟨g, o + 5, none⟩ : Addr).add (j - 5) = ⟨g, o + 5 + (j - 5), none⟩ := by unfold Addr.add; split <;> simp_all
    rw [e1, show o + j = o + 5 + (j - 5) by omega, ← e2]
    exact this
theorem five_row2 {W : World} {g : Nat} {a b : Nd} {av bv : Value} (h : ∀ j u, (NdC a av ++ NdC b bv)[j]? = some u → W.cell? ⟨g, j, none⟩ = some u) : Five W g 0 a av ∧ Five W g 5 b bv :=
  ⟨⟨h 0 _ rfl, h 1 _ rfl, h 2 _ rfl, h 3 _ rfl, h 4 _ rfl⟩, ⟨h 5 _ rfl, h 6 _ rfl, h 7 _ rfl, h 8 _ rfl, h 9 _ rfl⟩⟩
set_option maxRecDepth 100000 in
set_option maxHeartbeats 8000000 in
theorem nest_2 (t : Tm) (G o cap : Nat) (a b : Nd) (ao : Option Addr) (am ac : Nat) (bo : Option Addr) (bm bc : Nat) (w : World) (h : Five w G o a (.slice ao am ac)) (h' : Five w G (o + 5) b (.slice bo bm bc)) (hd : a.dep ≤ 64) (hd' : b.dep ≤ 64) (hcap : 2 ≤ cap) :
    Calls Tryz.prog 16 #[tmV t, .slice (some ⟨G, o, none⟩) 2 cap] w fun e w' => ∃ g c, e = .returned (NdR (.bi t a b) (.slice (some ⟨g, 0, none⟩) 2 c)) ∧ 2 ≤ c ∧ w.heap.size ≤ g ∧ g < w'.heap.size ∧ Five w' g 0 a (.slice ao am ac) ∧ Five w' g 5 b (.slice bo bm bc) ∧ Below w.heap.size w w' := by
  obtain ⟨k, n, s⟩ := t
  obtain ⟨i0, hi, hiz0, hiz1, hiz2⟩ := info_parts infoNd
  have HF := Lib.hid h
  have HF' := Lib.hid h'
  have hG : G < w.heap.size := World.block_lt_of_cell? w _ h.1
  have HC : ∀ u ∈ (NdC a (.slice ao am ac) ++ NdC b (.slice bo bm bc)), u.oneCell' = true := by
    intro u hu
    simp only [NdC, List.cons_append, List.nil_append, List.mem_cons, List.not_mem_nil, or_false] at hu
    rcases hu with rfl | rfl | rfl | rfl | rfl | rfl | rfl | rfl | rfl | rfl <;> rfl
  have HCH := Lib.hid HC
  have HV := Lib.hid (fun (W : World) (hb : Below w.heap.size w W) => ten_news (Five.keep hb h) (Five.keep hb h'))
  clear h h' HC
  obtain ⟨d, hdd⟩ : ∃ d, a.dep = d := ⟨_, rfl⟩
  obtain ⟨d', hdd'⟩ : ∃ d, b.dep = d := ⟨_, rfl⟩
  obtain ⟨D, hDD⟩ : ∃ D, max (d + 1) (d' + 1) = D := ⟨_, rfl⟩
  unfold tmV
  simp only
  go_enter Tryz.func16, Tryz.ntmps16
  go_upto_region 1 with fail
  obtain ⟨n1, n2, n3, n4⟩ := two_new w (.cells #[.int .i64 k, .int .i64 n, .string s] 42) (NdO 0 0 E0 ZN 0)
  generalize (w.alloc (.cells #[.int .i64 k, .int .i64 n, .string s] 42)).alloc (NdO 0 0 E0 ZN 0) = W0 at *
  have T0 := val_cells n1
  have N1 := Lib.hid n1
  have N2 := Lib.hid n2
  have HB := Lib.hid n3
  have HZ := Lib.hid n4
  clear n1 n2 n3 n4
  go_cut [6] (fun s6 wc => NR w k n s 2 ((NdC a (.slice ao am ac) ++ NdC b (.slice bo bm bc))) s6 wc)
  case first =>
    obtain ⟨T00, T01, T02⟩ := T0
    obtain ⟨T10, T11, T12⟩ := val_cells (block_kept (below1 W0 (NdO 0 0 E0 ZN 0)) N1.out)
    go_region_law (refine step_append_lies _ (by rfl) (.const (.slice none 0 0)) (.tmp 10) 44 (by rfl) (w.heap.size + 2) 46 i0 (.agg #[.int .i64 0, .int .i64 0, .string ⟨#[]⟩, .slice none 0 0, .int .i64 0]) 5 64 Tryz.underlying44 hi hiz0 hiz1 hiz2 (by rfl) (by decide) (.slice none 0 0) 0 [] (by rfl) (World.ownsRow_nil _ _ _ _) ⟨G, o, none⟩ 2 cap ((NdC a (.slice ao am ac) ++ NdC b (.slice bo bm bc))) (by rfl) (by rfl) (by first | exact HV.out _ HB.out.drew | exact HV.out _ (HB.out.alloc HB.out.size _).drew) (by exact HCH.out) (by decide) (by unfold maxLen; omega) (by omega) (by have := HZ.out; first | (show w.heap.size + 2 ≤ W0.heap.size; omega) | (show w.heap.size + 2 ≤ (W0.alloc _).heap.size; simp; omega)) _ (by rfl) ?_; intro g' cap' w3 hown3 hgrow3 hat3 hlt3; have ho3 := (show w3.ownsRow (w.heap.size + 2) 46 5 (.slice (some ⟨g', 0, none⟩) 2 cap') 2 ((NdC a (.slice ao am ac) ++ NdC b (.slice bo bm bc))) from hown3); have hg3 := (show World.grownBy _ w3 none from hgrow3); have ha3 := (show none = some g' ∨ g' = _ from hat3); clear hown3 hat3; (first | (have hc3 := keep_grown hgrow3 N1.out) | (have hc3 := keep_grown hgrow3 (block_kept (below1 W0 (NdO 0 0 E0 ZN 0)) N1.out))); obtain ⟨T30, T31, T32⟩ := val_cells hc3; obtain ⟨T40, T41, T42⟩ := val_cells (block_kept (below1 w3 (NdO 0 0 E0 ZN 0)) hc3); (first | (have hb3 := keep_grown hgrow3 (heap_alloc_new W0 (NdO 0 0 E0 ZN 0)); have HB3 := Lib.hid hb3; obtain ⟨y0, y1, y2, y3, y4⟩ := node_cells hb3; have fz := fz_of hb3; clear hb3) | skip); clear hc3)
    all_goals go_wp2_with fail
    all_goals go_meet
    all_goals first | with_reducible exact nr_A N2.out HB.out ho3 hg3 HZ.out hlt3 Nat.zero_lt_two | with_reducible exact nr_B N2.out HB.out ho3 hg3 HZ.out hlt3 Nat.zero_lt_two ha3
  case rest =>
    obtain ⟨B, g, c, rfl, hB, hR, hB2, hg2, hne, hc, hgl, hrow, hbw⟩ := hcut
    have hF := Five.keep hbw HF.out
    have hF' := Five.keep hbw HF'.out
    have HFV := Lib.hid (five_row2 hrow)
    have HR := Lib.hid hR
    have HBW := Lib.hid hbw
    have HBC := Lib.hid hB
    obtain ⟨b0, b1, b2, b3, b4⟩ := node_cells hB
    obtain ⟨z0, z1, z2, z3, z4⟩ := node_cells hR
    have fzB := fz_of hB
    have fzR := fz_of hR
    have hBl := heap_lt hB
    have hnr : B ≠ w.heap.size + 1 := by omega
    have hgw := World.block_lt_of_cell? wc _ hF.1
    simp only at hgw
    have hbg : B ≠ G := by omega
    have hbg2 : G ≠ B := by omega
    have hbg3 : ¬ (B = G) := by omega
    have hnr2 : w.heap.size + 1 ≠ B := by omega
    have hnr3 : ¬ (B = w.heap.size + 1) := by omega
    have hrl := heap_lt hR
    have hrl2 : w.heap.size + 1 < wc.heap.size + 1 := by omega
    have hBl2 : B < wc.heap.size + 1 := by omega
    have hgw2 : G < wc.heap.size + 1 := by omega
    obtain ⟨f0, f1, f2, f3, f4⟩ := hF
    obtain ⟨g0, g1, g2, g3, g4⟩ := hF'
    have wx' : IntKind.i64.wrap ((d' : Int) + 1) = (d' : Int) + 1 := by rw [hdd'] at hd'; rw [IntWalk.i64_in _ (by omega)]
    have mx' : max ((d : Int) + 1) ((d' : Int) + 1) = (D : Int) := by omega
    have HDD := Lib.hid hDD
    have wx : IntKind.i64.wrap ((d : Int) + 1) = (d : Int) + 1 := by rw [IntWalk.i64_in _ (by omega)]
    have mx : max (0 : Int) ((d : Int) + 1) = (d : Int) + 1 := by omega
    rw [hdd] at f4 hd
    rw [hdd'] at g4 hd'
    clear hDD HF HF' hB hR hrow hbw HV HCH T0 N1 N2 HB HZ
    go_wp2_with fail
    refine wp_loop_rounds 3 ?_
    rw [rounds_succ]
    go_wp2_with fail
    rw [rounds_succ]
    go_wp2_with fail
    rw [rounds_succ]
    go_wp2_with fail
    all_goals
      have hb4 : Below w.heap.size w ((wc.setCell ⟨B, 4, none⟩ (.int .i64 ((d : Int) + 1))).setCell ⟨B, 4, none⟩ (.int .i64 (D : Int))) := (HBW.out.setCell (p := ⟨B, 4, none⟩) (by show w.heap.size ≤ B; omega) _).setCell (p := ⟨B, 4, none⟩) (by show w.heap.size ≤ B; omega) _
      have hr4 : ((wc.setCell ⟨B, 4, none⟩ (.int .i64 ((d : Int) + 1))).setCell ⟨B, 4, none⟩ (.int .i64 (D : Int))).heap[w.heap.size + 1]? = some (NdO 0 0 E0 ZN 0) := set_far (set_far HR.out hnr) hnr
      have hg4 : ((wc.setCell ⟨B, 4, none⟩ (.int .i64 ((d : Int) + 1))).setCell ⟨B, 4, none⟩ (.int .i64 (D : Int))).heap[g]? = wc.heap[g]? := set_far (set_far rfl hne) hne
      have hgz : g < ((wc.setCell ⟨B, 4, none⟩ (.int .i64 ((d : Int) + 1))).setCell ⟨B, 4, none⟩ (.int .i64 (D : Int))).heap.size := by simpa using hgl
      have hwz : w.heap.size ≤ ((wc.setCell ⟨B, 4, none⟩ (.int .i64 ((d : Int) + 1))).setCell ⟨B, 4, none⟩ (.int .i64 (D : Int))).heap.size := by simp; omega
      generalize (wc.setCell ⟨B, 4, none⟩ (.int .i64 ((d : Int) + 1))).setCell ⟨B, 4, none⟩ (.int .i64 (D : Int)) = W4 at *
    · obtain ⟨e0, e1, e2, e3, e4⟩ := node_cells (block_kept (below1 _ (NdO b.tm.k b.tm.n b.tm.s (.slice bo bm bc) (d' : Int))) (block_kept (below1 _ (NdO a.tm.k a.tm.n a.tm.s (.slice ao am ac) (d : Int))) (node_set hr4 (.int .i64 0) (.int .i64 0) (.string ⟨#[]⟩) ZN (.int .i64 0))))
      have HNR : NdR (.bi ⟨k, n, s⟩ a b) (.slice (some ⟨g, 0, none⟩) 2 c) = .tuple #[.agg #[.int .i64 0, .int .i64 0, .string ⟨#[]⟩, .slice none 0 0, .int .i64 0], .int .i64 93] := by
        unfold NdR
        exact if_neg (by show ¬ (max (a.dep + 1) (b.dep + 1) ≤ 64); have := HDD.out; rw [hdd, hdd', this]; omega)
      exact bodyPost_ret (v := NdR (.bi ⟨k, n, s⟩ a b) (.slice (some ⟨g, 0, none⟩) 2 c)) (by rw [HNR]; simp [results, Tryz.results16, go_sem, e0, e1, e2, e3, e4]) rfl ⟨g, c, rfl, hc, by omega, by simp; omega, Five.keep (below1 _ _) (Five.keep (below1 _ _) (Five.stay ((node_far rfl (by omega)).trans hg4) HFV.out.1)), Five.keep (below1 _ _) (Five.keep (below1 _ _) (Five.stay ((node_far rfl (by omega)).trans hg4) HFV.out.2)), ((below_node hb4 (by omega) _ _ _ _ _).alloc (by simp; omega) _).alloc (by simp; omega) _⟩
    · obtain ⟨e0, e1, e2, e3, e4⟩ := node_cells (block_kept (below1 _ (NdO b.tm.k b.tm.n b.tm.s (.slice bo bm bc) (d' : Int))) (block_kept (below1 _ (NdO a.tm.k a.tm.n a.tm.s (.slice ao am ac) (d : Int))) (node_set hr4 (.int .i64 k) (.int .i64 n) (.string s) (.slice (some ⟨g, 0, none⟩) 2 c) (.int .i64 (D : Int)))))
      have HNR : NdR (.bi ⟨k, n, s⟩ a b) (.slice (some ⟨g, 0, none⟩) 2 c) = .tuple #[.agg #[.int .i64 k, .int .i64 n, .string s, .slice (some ⟨g, 0, none⟩) 2 c, .int .i64 (D : Int)], .int .i64 0] := by
        unfold NdR
        rw [if_pos (by show max (a.dep + 1) (b.dep + 1) ≤ 64; have := HDD.out; rw [hdd, hdd', this]; omega)]
        unfold NdV Nd.dep Nd.tm
        rw [hdd, hdd', HDD.out]
      exact bodyPost_ret (v := NdR (.bi ⟨k, n, s⟩ a b) (.slice (some ⟨g, 0, none⟩) 2 c)) (by rw [HNR]; simp [results, Tryz.results16, go_sem, e0, e1, e2, e3, e4]) rfl ⟨g, c, rfl, hc, by omega, by simp; omega, Five.keep (below1 _ _) (Five.keep (below1 _ _) (Five.stay ((node_far rfl (by omega)).trans hg4) HFV.out.1)), Five.keep (below1 _ _) (Five.keep (below1 _ _) (Five.stay ((node_far rfl (by omega)).trans hg4) HFV.out.2)), ((below_node hb4 (by omega) _ _ _ _ _).alloc (by simp; omega) _).alloc (by simp; omega) _⟩
end Go.Proofs.YtdkflmpdelfgoaaGreatDoor
namespace Go.Proofs.YtdkflmpdelfgoaaGreatDoor
open Go.RowKit Go.Shelf
set_option linter.unusedVariables false
set_option linter.unusedSimpArgs false
attribute [local go_sem] Oper.semAt_some

abbrev NS := Nd × Option Addr × Nat × Nat
abbrev sv (x : NS) : Value := .slice x.2.1 x.2.2.1 x.2.2.2
def ndC (l : List NS) : List Value := l.flatMap fun x => NdC x.1 (sv x)
theorem ndC_length : ∀ l : List NS, (ndC l).length = l.length * 5
  | [] => rfl
  | x :: l => by
    have ih := ndC_length l
    unfold ndC at ih ⊢
    rw [List.flatMap_cons, List.length_append, ih, List.length_cons]
    show 5 + _ = _
    omega
theorem ndC_at : ∀ (T : List NS) (k : Nat) (x : NS), T[k]? = some x → (ndC T)[k * 5]? = some (.int .i64 x.1.tm.k) ∧ (ndC T)[k * 5 + 1]? = some (.int .i64 x.1.tm.n) ∧ (ndC T)[k * 5 + 2]? = some (.string x.1.tm.s) ∧ (ndC T)[k * 5 + 3]? = some (sv x) ∧ (ndC T)[k * 5 + 4]? = some (.int .i64 (x.1.dep : Int))
  | [], k, x, h => by simp at h
  | y :: T, 0, x, h => by simp at h; subst h; exact ⟨rfl, rfl, rfl, rfl, rfl⟩
  | y :: T, k + 1, x, h => by
    have := ndC_at T k x (by simpa using h)
    rw [show (k + 1) * 5 = k * 5 + 1 + 1 + 1 + 1 + 1 by omega]
    exact this
theorem ndC_take (T : List NS) (m : Nat) : (ndC T).take (m * 5) = ndC (T.take m) := by
  induction T generalizing m with
  | nil => simp [ndC]
  | cons x T ih =>
    cases m with
    | zero => simp [ndC]
    | succ m =>
      have h := ih m
      unfold ndC at h ⊢
      rw [List.flatMap_cons, List.take_succ_cons, List.flatMap_cons, show (m + 1) * 5 = 5 + m * 5 by omega, List.take_append]
      rw [show (NdC x.1 (sv x)).take (5 + m * 5) = NdC x.1 (sv x) from List.take_of_length_le (by simp [NdC])]
      rw [show 5 + m * 5 - (NdC x.1 (sv x)).length = m * 5 by simp [NdC], h]
theorem ndC_snoc (l : List NS) (x : NS) : ndC (l ++ [x]) = ndC l ++ NdC x.1 (sv x) := by
  unfold ndC; rw [List.flatMap_append]; simp
/-- a slice reads as a row of nodes -/
def QuiO (W : World) (v : Value) (A : List NS) : Prop := (A = [] ∧ ∃ a c, v = .slice a 0 c) ∨ ∃ g off cap, v = .slice (some ⟨g, off, none⟩) A.length cap ∧ A.length ≤ cap ∧ ∀ (k : Nat) (x : NS), A[k]? = some x → Five W g (off + k * 5) x.1 (sv x)
theorem QuiO.keep {W W' : World} {v : Value} {A : List NS} (h : QuiO W v A) (hb : Below W.heap.size W W') : QuiO W' v A := by
  rcases h with h | ⟨g, off, cap, h1, h2, h3⟩
  · exact .inl h
  · exact .inr ⟨g, off, cap, h1, h2, fun k x hx => (h3 k x hx).keep hb⟩
theorem qui_cut {W : World} {base m tk cap : Nat} {A : Option Addr} {st : List NS} (h : W.ownsRow base 46 5 (.slice A (m + tk) cap) (m + tk) (ndC st)) (hl : st.length = m + tk) : QuiO W (.slice (if cap = m then A else Option.map (fun x => x.add (m * 5)) A) tk (cap - m)) (st.drop m) := by
  have hdl : (st.drop m).length = tk := by rw [List.length_drop]; omega
  rcases Nat.eq_zero_or_pos tk with h0 | h0
  · subst h0
    rw [List.length_eq_zero_iff.1 hdl]
    exact .inl ⟨rfl, _, _, rfl⟩
  · rcases h.2 with ⟨h1, h2⟩ | ⟨g, cap', cur, h1, h2, h3, h4, h5, h6, h7⟩
    · omega
    · cases h1
      rw [if_neg (by omega)]
      simp only [Option.map_some]
      rw [Go.WideShapes.add_plain]
      refine .inr ⟨g, 0 + m * 5, cap - m, by rw [hdl], by omega, fun k x hx => ?_⟩
      rw [List.getElem?_drop] at hx
      obtain ⟨a, b, c, d, e⟩ := ndC_at st _ _ hx
      have hk : m + k < st.length := by
        rcases Nat.lt_or_ge (m + k) st.length with g | g
        · exact g
        · rw [List.getElem?_eq_none g] at hx; cases hx
      refine ⟨?_, ?_, ?_, ?_, ?_⟩
      · rw [h.cellAt _ (by omega), show 0 + m * 5 + k * 5 = (m + k) * 5 by omega]; exact a
      · rw [h.cellAt _ (by omega), show 0 + m * 5 + k * 5 + 1 = (m + k) * 5 + 1 by omega]; exact b
      · rw [h.cellAt _ (by omega), show 0 + m * 5 + k * 5 + 2 = (m + k) * 5 + 2 by omega]; exact c
      · rw [h.cellAt _ (by omega), show 0 + m * 5 + k * 5 + 3 = (m + k) * 5 + 3 by omega]; exact d
      · rw [h.cellAt _ (by omega), show 0 + m * 5 + k * 5 + 4 = (m + k) * 5 + 4 by omega]; exact e
def mkN (t : Tm) : List Nd → Nd
  | [a] => .un t a
  | [a, b] => .bi t a b
  | _ => .lf t
/-- what nest tells beside the row: the term's fields, the depth, the error -/
structure NQ where
  k : Int
  n : Int
  s : BA
  d : Int
  e : Int
def nq (x : Nd) : NQ := if x.dep ≤ 64 then ⟨x.tm.k, x.tm.n, x.tm.s, (x.dep : Int), 0⟩ else ⟨0, 0, E0, 0, 93⟩
def QV (r : NQ) (v : Value) : Value := .tuple #[.agg #[.int .i64 r.k, .int .i64 r.n, .string r.s, v, .int .i64 r.d], .int .i64 r.e]
theorem nq_R (x : Nd) (v : Value) : NdR x v = QV (nq x) (if x.dep ≤ 64 then v else ZN) := by
  unfold NdR nq QV
  split <;> rfl
/-- blocks of what is there, or was made -/
def PG (P : Nat → Prop) (w w' : World) (g : Nat) : Prop := P g ∨ (w.heap.size ≤ g ∧ g < w'.heap.size)
theorem nest_any (t : Tm) (v : Value) (A : List NS) (P : Nat → Prop) (w : World) (h : QuiO w v A) (hl : A.length = takesN t.k) (hd : ∀ x ∈ A, x.1.dep ≤ 64) (hP : ∀ g, P g → g < w.heap.size) (hN : ∀ x ∈ A, NdAt P w x.1 (sv x)) :
    Calls Tryz.prog 16 #[tmV t, v] w fun e w' => ∃ ao m c, e = .returned (QV (nq (mkN t (A.map Prod.fst))) (.slice ao m c)) ∧ (NdAt (PG P w w') w' (mkN t (A.map Prod.fst)) (.slice ao m c) ∨ (nq (mkN t (A.map Prod.fst))).e ≠ 0) ∧ Below w.heap.size w w' := by
  have ht := takes_le t.k
  have keep : ∀ (w' : World), Below w.heap.size w w' → ∀ x ∈ A, NdAt (PG P w w') w' x.1 (sv x) := fun w' hb x hx =>
    NdAt.keep (fun g hg => .inl hg) (fun g hg => hb.block g (hP g hg)) (hN x hx)
  match A, h, hl, hd, hN, keep with
  | [], h, hl, hd, hN, keep =>
    obtain ⟨a, c, rfl⟩ : ∃ a c, v = .slice a 0 c := by
      rcases h with ⟨-, h⟩ | ⟨g, off, cap, h, -⟩
      · exact h
      · exact ⟨_, _, h⟩
    refine (nest_0 t a c w).mono ?_
    rintro e w' ⟨rfl, hb⟩
    refine ⟨none, 0, 0, ?_, .inl rfl, hb⟩
    rw [nq_R]
    show _ = Ending.returned (QV (nq (.lf t)) ZN)
    split <;> rfl
  | [x], h, hl, hd, hN, keep =>
    obtain ⟨g, off, cap, rfl, hc, hx⟩ : ∃ g off cap, v = .slice (some ⟨g, off, none⟩) 1 cap ∧ 1 ≤ cap ∧ Five w g (off + 0 * 5) x.1 (sv x) := by
      rcases h with ⟨h, -⟩ | ⟨g, off, cap, h, hc, hx⟩
      · cases h
      · exact ⟨g, off, cap, h, hc, hx 0 x rfl⟩
    refine (nest_1 t g off cap x.1 x.2.1 x.2.2.1 x.2.2.2 w (by simpa using hx) (hd x (by simp))).mono ?_
    rintro e w' ⟨g', c', rfl, hc', hg1, hg2, hf, hb⟩
    rw [nq_R]
    show ∃ ao m c, Ending.returned (QV (nq (.un t x.1)) _) = _ ∧ _
    by_cases h64 : (Nd.un t x.1).dep ≤ 64
    · rw [if_pos h64]
      exact ⟨_, _, _, rfl, .inl ⟨g', c', sv x, rfl, hc', .inr ⟨hg1, hg2⟩, hf, keep _ hb x (by simp)⟩, hb⟩
    · rw [if_neg h64]
      exact ⟨_, _, _, rfl, .inr (by show (nq (.un t x.1)).e ≠ 0; unfold nq; rw [if_neg h64]; decide), hb⟩
  | [x, y], h, hl, hd, hN, keep =>
    obtain ⟨g, off, cap, rfl, hc, hx, hy⟩ : ∃ g off cap, v = .slice (some ⟨g, off, none⟩) 2 cap ∧ 2 ≤ cap ∧ Five w g (off + 0 * 5) x.1 (sv x) ∧ Five w g (off + 1 * 5) y.1 (sv y) := by
      rcases h with ⟨h, -⟩ | ⟨g, off, cap, h, hc, hx⟩
      · cases h
      · exact ⟨g, off, cap, h, hc, hx 0 x rfl, hx 1 y rfl⟩
    refine (nest_2 t g off cap x.1 y.1 x.2.1 x.2.2.1 x.2.2.2 y.2.1 y.2.2.1 y.2.2.2 w (by simpa using hx) (by simpa using hy) (hd x (by simp)) (hd y (by simp)) hc).mono ?_
    rintro e w' ⟨g', c', rfl, hc', hg1, hg2, hf, hf', hb⟩
    rw [nq_R]
    show ∃ ao m c, Ending.returned (QV (nq (.bi t x.1 y.1)) _) = _ ∧ _
    by_cases h64 : (Nd.bi t x.1 y.1).dep ≤ 64
    · rw [if_pos h64]
      exact ⟨_, _, _, rfl, .inl ⟨g', c', sv x, sv y, rfl, hc', .inr ⟨hg1, hg2⟩, hf, hf', keep _ hb x (by simp), keep _ hb y (by simp)⟩, hb⟩
    · rw [if_neg h64]
      exact ⟨_, _, _, rfl, .inr (by show (nq (.bi t x.1 y.1)).e ≠ 0; unfold nq; rw [if_neg h64]; decide), hb⟩
  | x :: y :: z :: A, h, hl, hd, hN, keep => simp at hl; omega
/-- terms folded to trees: none where one is too deep -/
def foldN : List Nd → List Tm → Option (List Nd)
  | st, [] => some st
  | st, t :: r => if (mkN t (st.drop (st.length - takesN t.k))).dep ≤ 64 then foldN (st.take (st.length - takesN t.k) ++ [mkN t (st.drop (st.length - takesN t.k))]) r else none
theorem foldN_snoc : ∀ (A : List Tm) (st st' : List Nd) (x : Tm), foldN st A = some st' → foldN st (A ++ [x]) = if (mkN x (st'.drop (st'.length - takesN x.k))).dep ≤ 64 then some (st'.take (st'.length - takesN x.k) ++ [mkN x (st'.drop (st'.length - takesN x.k))]) else none
  | [], st, st', x, h => by cases h; rfl
  | t :: A, st, st', x, h => by
    rw [foldN] at h
    split at h
    · rename_i hh
      rw [List.cons_append, foldN, if_pos hh]
      exact foldN_snoc A _ _ x h
    · cases h
theorem foldN_none : ∀ (A B : List Tm) (st : List Nd), foldN st A = none → foldN st (A ++ B) = none
  | [], B, st, h => by cases h
  | t :: A, B, st, h => by
    rw [foldN] at h
    rw [List.cons_append, foldN]
    split at h
    · rename_i hh; rw [if_pos hh]; exact foldN_none A B _ h
    · rename_i hh; rw [if_neg hh]
def rootN (T : List Tm) : Option Nd := (foldN [] T).bind fun l => l[0]?
end Go.Proofs.YtdkflmpdelfgoaaGreatDoor
namespace Go.Proofs.YtdkflmpdelfgoaaGreatDoor
open Go.RowKit Go.Shelf
set_option linter.unusedVariables false
set_option linter.unusedSimpArgs false
attribute [local go_sem] Oper.semAt_some

theorem below_of_drew {n : Nat} {w w' : World} (h : Below n w.drew w') : Below n w w' := ⟨h.os, h.tape, h.output, h.size, h.block⟩
theorem far5 {W : World} {B b : Nat} (hne : B ≠ b) {x0 x1 x2 x3 x4 v0 v1 v2 : Value} (h : W.cell? ⟨b, 0, none⟩ = some v0 ∧ W.cell? ⟨b, 1, none⟩ = some v1 ∧ W.cell? ⟨b, 2, none⟩ = some v2) :
    (((((W.setCell ⟨B, 0, none⟩ x0).setCell ⟨B, 1, none⟩ x1).setCell ⟨B, 2, none⟩ x2).setCell ⟨B, 3, none⟩ x3).setCell ⟨B, 4, none⟩ x4).cell? ⟨b, 0, none⟩ = some v0 ∧ (((((W.setCell ⟨B, 0, none⟩ x0).setCell ⟨B, 1, none⟩ x1).setCell ⟨B, 2, none⟩ x2).setCell ⟨B, 3, none⟩ x3).setCell ⟨B, 4, none⟩ x4).cell? ⟨b, 1, none⟩ = some v1 ∧ (((((W.setCell ⟨B, 0, none⟩ x0).setCell ⟨B, 1, none⟩ x1).setCell ⟨B, 2, none⟩ x2).setCell ⟨B, 3, none⟩ x3).setCell ⟨B, 4, none⟩ x4).cell? ⟨b, 2, none⟩ = some v2 := by
  have k : ∀ (V : World) (o j : Nat) (x : Value), (V.setCell ⟨B, o, none⟩ x).cell? ⟨b, j, none⟩ = V.cell? ⟨b, j, none⟩ := fun V o j x => World.cell?_setCell_far _ _ _ _ hne
  simp only [k]
  exact h
/-- what a round begins with -/
structure NdI (w : World) (T : List Tm) (k : Nat) (st : List NS) (P : Nat → Prop) (lv : Value) (wr : World) : Prop where
  fold : foldN [] (T.take k) = some (st.map Prod.fst)
  chk : checkF 0 (T.take k) = some st.length
  dep : ∀ x ∈ st, x.1.dep ≤ 64
  blk : ∀ g, P g → g < wr.heap.size ∧ w.heap.size + 1 ≤ g ∧ lv.ownBlock ≠ some g
  tree : ∀ x ∈ st, NdAt P wr x.1 (sv x)
def FoldP (T : List Tm) (e : Ending) (w' : World) : Prop := match rootN T with
  | some x => ∃ ao m c, e = .returned (QV (nq x) (.slice ao m c)) ∧ NdAt (fun g => g < w'.heap.size) w' x (.slice ao m c) ∧ x.dep ≤ 64
  | none => e = .returned (QV ⟨0, 0, E0, 0, 93⟩ ZN)
theorem rel_A {P : Nat → Prop} {wr W0 w1 : World} {o : Obj} {x : Nd} {v : Value} {q : Prop} (hb : Below wr.heap.size wr W0) (hP : ∀ g, P g → g < wr.heap.size) (hb1 : Below W0.heap.size W0 w1) (h : NdAt (PG P W0 w1) w1 x v ∨ q) : NdAt (PG P wr (w1.alloc o)) (w1.alloc o) x v ∨ q := by
  rcases h with h | h
  · have s1 := hb.size
    have s2 := hb1.size
    have s3 : (w1.alloc o).heap.size = w1.heap.size + 1 := by simp
    refine .inl (NdAt.keep ?_ ?_ h)
    · rintro g (hg | ⟨h1, h2⟩)
      · exact .inl hg
      · exact .inr ⟨by omega, by omega⟩
    · rintro g (hg | ⟨h1, h2⟩)
      · exact (below1 w1 o).block g (by have := hP g hg; omega)
      · exact (below1 w1 o).block g h2
  · exact .inr h
theorem rel_B {P : Nat → Prop} {wr W0 w1 : World} {o : Obj} {x : Nd} {v : Value} {q : Prop} (hb : Below wr.heap.size wr W0) (hP : ∀ g, P g → g < wr.heap.size) (hb1 : Below (W0.alloc o).heap.size (W0.alloc o) w1) (x0 x1 x2 x3 x4 : Value) {B : Nat} (hB : B = W0.heap.size) (h : NdAt (PG P (W0.alloc o) w1) w1 x v ∨ q) :
    NdAt (PG P wr (((((w1.setCell ⟨B, 0, none⟩ x0).setCell ⟨B, 1, none⟩ x1).setCell ⟨B, 2, none⟩ x2).setCell ⟨B, 3, none⟩ x3).setCell ⟨B, 4, none⟩ x4)) (((((w1.setCell ⟨B, 0, none⟩ x0).setCell ⟨B, 1, none⟩ x1).setCell ⟨B, 2, none⟩ x2).setCell ⟨B, 3, none⟩ x3).setCell ⟨B, 4, none⟩ x4) x v ∨ q := by
  rcases h with h | h
  · have s1 := hb.size
    have s2 := hb1.size
    have s3 : (W0.alloc o).heap.size = W0.heap.size + 1 := by simp
    refine .inl (NdAt.keep ?_ ?_ h)
    · rintro g (hg | ⟨h1, h2⟩)
      · exact .inl hg
      · exact .inr ⟨by omega, by simpa using h2⟩
    · rintro g (hg | ⟨h1, h2⟩)
      · exact node_far rfl (by have := hP g hg; omega)
      · exact node_far rfl (by omega)
  · exact .inr h
theorem own_len (A : Option Addr) (n n' c : Nat) : (Value.slice A n c).ownBlock = (Value.slice A n' c).ownBlock := by cases A <;> rfl
theorem keep_app {wc w3 : World} {o : Obj} {row : Option Nat} (hg : (wc.drew.alloc o).grownBy w3 row) {g : Nat} (h : g < wc.heap.size) (hne : some g ≠ row) : w3.heap[g]? = wc.heap[g]? :=
  (hg.block g (by show g < (wc.drew.alloc o).heap.size; simp; omega) hne).trans (Below.heap_alloc wc.drew o g h)
theorem nq_ok {x : Nd} {a b d e : Int} {s : BA} (h : nq x = ⟨a, b, s, d, e⟩) : (x.dep ≤ 64 ∧ a = x.tm.k ∧ b = x.tm.n ∧ s = x.tm.s ∧ d = (x.dep : Int) ∧ e = 0) ∨ (¬ x.dep ≤ 64 ∧ e = 93) := by
  unfold nq at h
  split at h
  · injection h with h1 h2 h3 h4 h5
    exact .inl ⟨by assumption, h1.symm, h2.symm, h3.symm, h4.symm, h5.symm⟩
  · injection h with h1 h2 h3 h4 h5
    exact .inr ⟨by assumption, h5.symm⟩
set_option maxRecDepth 100000 in
set_option maxHeartbeats 16000000 in
theorem nfold_any (v : Value) (T : List Tm) (w : World) (hG : GoodE w) (h : TriO tmF w v T) (hl : T.length ≤ 256) (hc : checkF 0 T = some 1) :
    Calls Tryz.prog 15 #[v, .func (.func 16) #[] #[]] w fun e w' => FoldP T e w' ∧ Below w.heap.size w w' := by
  have HT := Lib.hid h
  have HC := Lib.hid hc
  have GD := Lib.hid (fun V (hb : Below w.heap.size w V) => (hG.thn hb).ops)
  obtain ⟨A, c, rfl⟩ := tri_slice h
  clear h hG hc
  go_enter Tryz.func15, Tryz.ntmps15
  go_wp2_with fail
  go_loopw [15, 6] (fun iv lv wr => ∃ (k : Nat) (st : List NS) (P : Nat → Prop), k ≤ T.length ∧ iv = .int .i64 (k : Int) ∧ wr.ownsRow (w.heap.size + 1) 46 5 lv st.length (ndC st) ∧ Hid (NdI w T k st P lv wr) ∧ Hid (wr.heap[w.heap.size]? = some (NdO 0 0 E0 ZN 0)) ∧ Below w.heap.size w wr) (fun iv lv _ => T.length - (intOf iv).toNat)
  case atStart =>
    exact ⟨0, [], fun _ => False, Nat.zero_le _, rfl, World.ownsRow_nil _ _ _ _, Lib.hid ⟨rfl, rfl, fun x hx => (by cases hx), fun g hg => hg.elim, fun x hx => (by cases hx)⟩, Lib.hid (heap_alloc_new w _), below1 w _⟩
  case round =>
    obtain ⟨k, st, P, hk, rfl, hrow, hst, hz, hbr⟩ := hrel
    obtain ⟨vb, vc, rfl⟩ := own_sliceN hrow
    by_cases hlt : (k : Int) < (T.length : Int)
    · have hlt' : k < T.length := by omega
      obtain ⟨g, off, cap, x, hx, hv, x1, x2, x3⟩ := tri_at (HT.out.keep hbr) hlt'
      cases hv
      simp only [tmF] at x1 x2 x3
      have hst' := hst.out
      have hck : checkF 0 (T.take (k + 1)) ≠ none := fun hn => by
        have := checkF_none _ (T.drop (k + 1)) _ hn
        rw [List.take_append_drop, HC.out] at this
        cases this
      have htk1 : T.take (k + 1) = T.take k ++ [x] := by rw [List.take_add_one, hx]; rfl
      rw [htk1, checkF_snoc, hst'.chk] at hck
      simp only [Option.bind_some] at hck
      have hmt : mayB x = true ∧ takesN x.k ≤ st.length := by
        by_cases hh : mayB x = true ∧ takesN x.k ≤ st.length
        · exact hh
        · rw [if_neg hh] at hck; exact absurd rfl hck
      have HCK := Lib.hid (show checkF 0 (T.take (k + 1)) = some (st.length + 1 - takesN x.k) by rw [htk1, checkF_snoc, hst'.chk]; simp only [Option.bind_some]; rw [if_pos hmt])
      have HFS := Lib.hid (foldN_snoc _ _ _ x hst'.fold)
      have HTK1 := Lib.hid htk1
      have hnk : st.length ≤ k := by
        have := checkF_le _ _ _ hst'.chk
        rw [List.length_take] at this; omega
      obtain ⟨hmay, htk⟩ := hmt
      obtain ⟨kn, hkn, hk1, hk14⟩ := mayB_k hmay
      have HBR := Lib.hid hbr
      have HST := Lib.hid hst'
      have hi0 : (0 : Int) ≤ (kn : Int) := by omega
      have hi1 : (kn : Int) < 15 := by omega
      obtain ⟨o0, -, -⟩ := GD.out wr hbr kn (by omega)
      obtain ⟨tk, htk0⟩ : ∃ tk, takesN (kn : Int) = tk := ⟨_, rfl⟩
      rw [hkn, htk0] at htk HCK HFS
      rw [htk0] at o0
      obtain ⟨m, hm⟩ : ∃ m, st.length = m + tk := ⟨st.length - tk, by omega⟩
      rw [hm]
      have ht2 := takes_le (kn : Int)
      rw [htk0] at ht2
      obtain ⟨xk, xn, xs⟩ := x
      simp only at x1 x2 x3 hkn
      subst hkn
      have w9 : IntKind.i64.wrap ((k : Int) + 1) = ((k + 1 : Nat) : Int) := by rw [IntWalk.i64_in _ (by omega)]; omega
      rw [hm] at hrow
      have HROW := Lib.hid hrow
      have HZ := hz
      have HP := Lib.hid (fun g (hg : P g) => (hst'.blk g hg).1)
      have hoA : (wr.alloc (.cells #[.int .i64 (kn : Int), .int .i64 xn, .string xs] 42)).cell? ⟨0, kn * 3, none⟩ = some (.int .i64 (tk : Int)) := cell_kept (below1 wr _) o0
      clear hbr hst' hck htk1 hx o0 hmay hst hrow
      go_wp2_with fail
      have S0 := cell_three_new wr 42 (.int .i64 (kn : Int)) (.int .i64 xn) (.string xs)
      have hB0 := below1 wr (.cells #[.int .i64 (kn : Int), .int .i64 xn, .string xs] 42)
      have hz0 : (wr.alloc (.cells #[.int .i64 (kn : Int), .int .i64 xn, .string xs] 42)).heap.size = wr.heap.size + 1 := by simp
      generalize wr.alloc (.cells #[.int .i64 (kn : Int), .int .i64 xn, .string xs] 42) = W0 at *
      have HB0 := Lib.hid hB0
      clear hB0 hoA x1 x2 x3
      have hmc : (m : Int) ≤ (m : Int) + (tk : Int) := by omega
      have hown0 : W0.ownsRow (w.heap.size + 1) 46 5 (.slice vb (m + tk) vc) (m + tk) (ndC st) := own_mono HROW.out HB0.out (fun g hg => (HROW.out.lt g hg).2)
      have RK := Lib.hid (fun V (hb : Below W0.heap.size W0 V) => nest_any ⟨(kn : Int), xn, xs⟩ _ (st.drop m) P V ((qui_cut hown0 hm).keep hb) (by rw [List.length_drop, htk0]; omega) (fun y hy => HST.out.dep y (List.mem_of_mem_drop hy)) (fun g hg => by have h1 := HP.out g hg; have h2 := hb.size; omega) (fun y hy => NdAt.keep (fun g hg => hg) (fun g hg => (hb.block g (by have := HP.out g hg; omega)).trans (HB0.out.block g (HP.out g hg))) (HST.out.tree y (List.mem_of_mem_drop hy))))
      rw [show (st.map Prod.fst).length - tk = m by rw [List.length_map]; omega, ← List.map_drop, ← List.map_take] at HFS
      clear hown0
      obtain ⟨X, hX⟩ : ∃ X, mkN ⟨(kn : Int), xn, xs⟩ ((st.drop m).map Prod.fst) = X := ⟨_, rfl⟩
      rw [hX] at RK HFS
      clear hX
      obtain ⟨r, hr⟩ : ∃ r, nq X = r := ⟨_, rfl⟩
      rw [hr] at RK
      have HR := Lib.hid hr
      clear hr
      obtain ⟨rk, rn, rs, rd, re⟩ := r
      unfold QV tmV at RK
      simp only at RK
      go_cut [10, 11] from 16 to 46 (fun s10 s11 wc => ∃ B ao am ac, s10 = .pointer (some ⟨B, 0, none⟩) ∧ s11 = .int .i64 re ∧ wc.heap[B]? = some (NdO rk rn rs (.slice ao am ac) rd) ∧ wr.heap.size < B ∧ Below wr.heap.size wr wc ∧ (NdAt (PG P wr wc) wc X (.slice ao am ac) ∨ re ≠ 0))
      case first =>
        have SA : (W0.alloc (.cells #[.int .i64 0, .int .i64 0, .string ⟨#[]⟩, .slice none 0 0, .int .i64 0] 46)).cell? ⟨wr.heap.size, 0, none⟩ = some (.int .i64 (kn : Int)) ∧ (W0.alloc (.cells #[.int .i64 0, .int .i64 0, .string ⟨#[]⟩, .slice none 0 0, .int .i64 0] 46)).cell? ⟨wr.heap.size, 1, none⟩ = some (.int .i64 xn) ∧ (W0.alloc (.cells #[.int .i64 0, .int .i64 0, .string ⟨#[]⟩, .slice none 0 0, .int .i64 0] 46)).cell? ⟨wr.heap.size, 2, none⟩ = some (.string xs) := ⟨cell_kept (below1 W0 _) S0.1, cell_kept (below1 W0 _) S0.2.1, cell_kept (below1 W0 _) S0.2.2⟩
        have HNE := Lib.hid (show wr.heap.size + 1 ≠ wr.heap.size by omega)
        by_cases hcm : vc = m
        · subst hcm
          rw [if_pos rfl, Nat.sub_self] at RK
          go_region_held3 (fun w' => w'.cell? ⟨wr.heap.size, 0, none⟩ = some (.int .i64 (kn : Int)) ∧ w'.cell? ⟨wr.heap.size, 1, none⟩ = some (.int .i64 xn) ∧ w'.cell? ⟨wr.heap.size, 2, none⟩ = some (.string xs)) (first | with_reducible exact S0 | with_reducible exact SA | with_reducible exact S1 | with_reducible exact far5 HNE.out S1 | with_reducible exact keep3 (below1 w1 _) S1 | exact S0 | exact SA | exact S1 | exact keep3 (below1 w1 _) S1) (first
            | (go_at_call 16; ((with_reducible refine (RK.out (W0.alloc (.cells #[.int .i64 0, .int .i64 0, .string ⟨#[]⟩, .slice none 0 0, .int .i64 0] 46)).drew (below1 W0 _).drew).mono ?_); rintro e w1 ⟨ao, am, ac, rfl, hT1, hb1⟩); have S1 := keep3 hb1 SA; have n2 := (hb1.block W0.heap.size (show W0.heap.size < (W0.alloc _).heap.size by simp)).trans (heap_alloc_new W0 _); have HN1 := Lib.hid n2; obtain ⟨z0, z1, z2, z3, z4⟩ := node_cells n2; have fz := fz_of n2; rw [hz0] at z0 z1 z2 z3 z4 fz; have HB1 := Lib.hid (Below.thn (HB0.out.trans ((below1 W0 (.cells #[.int .i64 0, .int .i64 0, .string ⟨#[]⟩, .slice none 0 0, .int .i64 0] 46)).mono (by omega))).drew (by show wr.heap.size ≤ (W0.alloc _).heap.size; simp; omega) hb1); have HT1 := Lib.hid hT1; have HL1 := Lib.hid (show Below (W0.alloc (.cells #[.int .i64 0, .int .i64 0, .string ⟨#[]⟩, .slice none 0 0, .int .i64 0] 46)).heap.size (W0.alloc (.cells #[.int .i64 0, .int .i64 0, .string ⟨#[]⟩, .slice none 0 0, .int .i64 0] 46)) w1 from below_of_drew hb1); clear hb1 n2 hT1)
            | (go_at_call 16; ((with_reducible refine (RK.out W0.drew (Below.refl _ W0).drew).mono ?_); rintro e w1 ⟨ao, am, ac, rfl, hT1, hb1⟩); have S1 := keep3 hb1 S0; have HZ1 := Lib.hid (show W0.heap.size ≤ w1.heap.size from hb1.size); have HB1 := Lib.hid (Below.thn HB0.out.drew (by show wr.heap.size ≤ W0.heap.size; omega) hb1); have HT1 := Lib.hid hT1; have HL1 := Lib.hid (show Below W0.heap.size W0 w1 from below_of_drew hb1); clear hb1 hT1))
          all_goals
            go_wp2_with fail
            go_meet
          case rel => exact ⟨w1.heap.size, ao, am, ac, rfl, rfl, heap_alloc_new w1 _, by have := HZ1.out; omega, HB1.out.alloc HB1.out.size _, rel_A HB0.out HP.out HL1.out HT1.out⟩
          case rel => exact ⟨wr.heap.size + 1, ao, am, ac, rfl, rfl, node_set (by rw [← hz0]; exact HN1.out) _ _ _ _ _, by omega, below_node HB1.out (by omega) _ _ _ _ _, rel_B HB0.out HP.out HL1.out _ _ _ _ _ hz0.symm HT1.out⟩
        · rw [if_neg hcm] at RK
          go_region_held3 (fun w' => w'.cell? ⟨wr.heap.size, 0, none⟩ = some (.int .i64 (kn : Int)) ∧ w'.cell? ⟨wr.heap.size, 1, none⟩ = some (.int .i64 xn) ∧ w'.cell? ⟨wr.heap.size, 2, none⟩ = some (.string xs)) (first | with_reducible exact S0 | with_reducible exact SA | with_reducible exact S1 | with_reducible exact far5 HNE.out S1 | with_reducible exact keep3 (below1 w1 _) S1 | exact S0 | exact SA | exact S1 | exact keep3 (below1 w1 _) S1) (first
            | (go_at_call 16; ((with_reducible refine (RK.out (W0.alloc (.cells #[.int .i64 0, .int .i64 0, .string ⟨#[]⟩, .slice none 0 0, .int .i64 0] 46)).drew (below1 W0 _).drew).mono ?_); rintro e w1 ⟨ao, am, ac, rfl, hT1, hb1⟩); have S1 := keep3 hb1 SA; have n2 := (hb1.block W0.heap.size (show W0.heap.size < (W0.alloc _).heap.size by simp)).trans (heap_alloc_new W0 _); have HN1 := Lib.hid n2; obtain ⟨z0, z1, z2, z3, z4⟩ := node_cells n2; have fz := fz_of n2; rw [hz0] at z0 z1 z2 z3 z4 fz; have HB1 := Lib.hid (Below.thn (HB0.out.trans ((below1 W0 (.cells #[.int .i64 0, .int .i64 0, .string ⟨#[]⟩, .slice none 0 0, .int .i64 0] 46)).mono (by omega))).drew (by show wr.heap.size ≤ (W0.alloc _).heap.size; simp; omega) hb1); have HT1 := Lib.hid hT1; have HL1 := Lib.hid (show Below (W0.alloc (.cells #[.int .i64 0, .int .i64 0, .string ⟨#[]⟩, .slice none 0 0, .int .i64 0] 46)).heap.size (W0.alloc (.cells #[.int .i64 0, .int .i64 0, .string ⟨#[]⟩, .slice none 0 0, .int .i64 0] 46)) w1 from below_of_drew hb1); clear hb1 n2 hT1)
            | (go_at_call 16; ((with_reducible refine (RK.out W0.drew (Below.refl _ W0).drew).mono ?_); rintro e w1 ⟨ao, am, ac, rfl, hT1, hb1⟩); have S1 := keep3 hb1 S0; have HZ1 := Lib.hid (show W0.heap.size ≤ w1.heap.size from hb1.size); have HB1 := Lib.hid (Below.thn HB0.out.drew (by show wr.heap.size ≤ W0.heap.size; omega) hb1); have HT1 := Lib.hid hT1; have HL1 := Lib.hid (show Below W0.heap.size W0 w1 from below_of_drew hb1); clear hb1 hT1))
          all_goals
            go_wp2_with fail
            go_meet
          case rel => exact ⟨w1.heap.size, ao, am, ac, rfl, rfl, heap_alloc_new w1 _, by have := HZ1.out; omega, HB1.out.alloc HB1.out.size _, rel_A HB0.out HP.out HL1.out HT1.out⟩
          case rel => exact ⟨wr.heap.size + 1, ao, am, ac, rfl, rfl, node_set (by rw [← hz0]; exact HN1.out) _ _ _ _ _, by omega, below_node HB1.out (by omega) _ _ _ _ _, rel_B HB0.out HP.out HL1.out _ _ _ _ _ hz0.symm HT1.out⟩
      case rest =>
        obtain ⟨B, ao, am, ac, rfl, rfl, hBc, hBlt, hbw, hT1⟩ := hcut
        have HBC := Lib.hid hBc
        have HBW := Lib.hid hbw
        have HT1 := Lib.hid hT1
        have hBW := Below.thn HBR.out HBR.out.size (hbw.mono (by omega))
        have HBB := Lib.hid hBW
        clear hBW hbw S0 hz0 RK hT1
        have hown1 : wc.ownsRow (w.heap.size + 1) 46 5 (.slice vb (m + tk) vc) (m + tk) (ndC st) := own_mono HROW.out HBW.out (fun g hg => (HROW.out.lt g hg).2)
        have hz1 : wc.heap[w.heap.size]? = some (NdO 0 0 E0 ZN 0) := (HBW.out.block _ (heap_lt hz.out)).trans hz.out
        rcases nq_ok HR.out with ⟨hX64, rfl, rfl, rfl, rfl, rfl⟩ | ⟨hX64, rfl⟩
        · rw [if_pos hX64] at HFS
          have HXD := Lib.hid hX64
          have hT2 : NdAt (PG P wr wc) wc X (.slice ao am ac) := HT1.out.resolve_right (fun h => h rfl)
          have HT2 := Lib.hid hT2
          have hown := own_take hown1 (m := m) (by omega)
          rw [ndC_take] at hown
          obtain ⟨b0, b1, b2, b3, b4⟩ := node_cells hBc
          obtain ⟨i0, hi, hiz0, hiz1, hiz2⟩ := info_parts infoNd
          have HOWN := Lib.hid hown
          have HZ1 := Lib.hid hz1
          clear hBc hown1 hz1 hT2 hX64
          have hmv : m ≤ vc := own_cap hown
          have hws : w.heap.size < wc.heap.size := heap_lt HZ1.out
          have HV3 := Lib.hid (show ∀ (V : World) j u, ([.int .i64 X.tm.k, .int .i64 X.tm.n, .string X.tm.s, .slice ao am ac, .int .i64 (X.dep : Int)] : List Value)[j]? = some u → (V.alloc (.cells #[.int .i64 X.tm.k, .int .i64 X.tm.n, .string X.tm.s, .slice ao am ac, .int .i64 (X.dep : Int)] 46)).cell? ((⟨V.heap.size, 0, none⟩ : Addr).add j) = some u from fun V j u hu => World.news_of_block (heap_alloc_new V _) j u hu)
          go_wp2_with fail
          go_region_law (refine step_append_lies _ (by rfl) (.tmp 42) (.tmp 44) 44 (by rfl) (w.heap.size + 1) 46 i0 (.agg #[.int .i64 0, .int .i64 0, .string ⟨#[]⟩, .slice none 0 0, .int .i64 0]) 5 64 Tryz.underlying44 hi hiz0 hiz1 hiz2 (by rfl) (by decide) (.slice vb m vc) m (ndC (st.take m)) (by rfl) (HOWN.out.drew.alloc _) ⟨wc.heap.size, 0, none⟩ 1 1 [.int .i64 X.tm.k, .int .i64 X.tm.n, .string X.tm.s, .slice ao am ac, .int .i64 (X.dep : Int)] (by rfl) (by rfl) (by exact HV3.out _) (by simp [Value.oneCell']) (by decide) (by unfold maxLen; omega) (by omega) (by simp; omega) _ (by rfl) ?_; intro g' cap' w3 hown3 hgrow3 hat3 hlt3)
          all_goals
            go_wp2_with fail
            go_roundw
          case rel =>
            have hg3 : (wc.drew.alloc (.cells #[.int .i64 X.tm.k, .int .i64 X.tm.n, .string X.tm.s, .slice ao am ac, .int .i64 (X.dep : Int)] 46)).grownBy w3 (Value.slice vb m vc).ownBlock := hgrow3
            have hlen : (st.take m ++ [((X, ao, am, ac) : NS)]).length = m + 1 := by rw [List.length_append, List.length_take, List.length_singleton]; omega
            have hrow : ∀ g, (Value.slice vb m vc).ownBlock = some g → w.heap.size + 1 ≤ g ∧ g < wr.heap.size := fun g hg => HROW.out.lt g ((own_len _ _ _ _).trans hg)
            have hne : ∀ g, PG P wr wc g → some g ≠ (Value.slice vb m vc).ownBlock := by
              rintro g (hg | ⟨h1, h2⟩) e
              · exact (HST.out.blk g hg).2.2 ((own_len _ _ _ _).trans e.symm)
              · have := (hrow g e.symm).2; omega
            have hlt3' : ∀ g, PG P wr wc g → g < wc.heap.size := by
              rintro g (hg | ⟨h1, h2⟩)
              · have h1 := HP.out g hg; have h2 := HBW.out.size; omega
              · exact h2
            have hge3 : ∀ g, PG P wr wc g → w.heap.size + 1 ≤ g := by
              rintro g (hg | ⟨h1, h2⟩)
              · exact (HST.out.blk g hg).2.1
              · have := heap_lt hz.out; omega
            have hsz3 : wc.heap.size + 1 ≤ w3.heap.size := by have := hg3.size; simpa using this
            refine ⟨k + 1, st.take m ++ [(X, ao, am, ac)], PG P wr wc, by omega, rfl, ?_, Lib.hid ⟨?_, by rw [HCK.out, hlen]; congr 1; omega, ?_, ?_, ?_⟩, Lib.hid ?_, ?_⟩
            · rw [hlen, ndC_snoc]; exact hown3
            · rw [HTK1.out, HFS.out, List.map_append]; rfl
            · intro y hy
              rcases List.mem_append.1 hy with hy | hy
              · exact HST.out.dep y (List.mem_of_mem_take hy)
              · rw [List.mem_singleton.1 hy]; exact HXD.out
            · intro g hg
              refine ⟨by have := hlt3' g hg; omega, hge3 g hg, ?_⟩
              intro e
              have e' : g' = g := by simpa [Value.ownBlock] using e
              rcases hat3 with h | h
              · exact hne g hg (by rw [← e']; exact h.symm)
              · have h' : g' = (wc.drew.alloc (.cells #[.int .i64 X.tm.k, .int .i64 X.tm.n, .string X.tm.s, .slice ao am ac, .int .i64 (X.dep : Int)] 46)).heap.size := h
                have h2 : g' = wc.heap.size + 1 := by rw [h']; simp
                have := hlt3' g hg; omega
            · intro y hy
              rcases List.mem_append.1 hy with hy | hy
              · exact NdAt.keep (fun g hg => .inl hg) (fun g hg => (keep_app hg3 (hlt3' g (.inl hg)) (hne g (.inl hg))).trans (HBW.out.block g (HP.out g hg))) (HST.out.tree y (List.mem_of_mem_take hy))
              · rw [List.mem_singleton.1 hy]
                exact NdAt.keep (fun g hg => hg) (fun g hg => keep_app hg3 (hlt3' g hg) (hne g hg)) HT2.out
            · rw [keep_app hg3 hws (fun e => by have := (hrow _ e.symm).1; omega)]
              exact HZ1.out
            · exact ((HBB.out.drew).alloc (show w.heap.size ≤ wc.drew.heap.size from Nat.le_of_lt hws) _).grown hgrow3 (by simp; omega) (fun g hg => by have := (hrow g hg).1; omega)
          case measure => simp [intOf]; omega
        · rw [if_neg hX64] at HFS
          have R := Lib.hid (show rootN T = none by
            have e1 : foldN [] (T.take (k + 1)) = none := by rw [HTK1.out, HFS.out]
            have e2 := foldN_none (T.take (k + 1)) (T.drop (k + 1)) [] e1
            rw [List.take_append_drop] at e2
            unfold rootN
            rw [e2]; rfl)
          have hz2 := block_kept (below1 wc (.cells #[.int .i64 0, .int .i64 0, .string ⟨#[]⟩, .slice none 0 0, .int .i64 0] 46)) hz1
          obtain ⟨z0, z1, z2, z3, z4⟩ := node_cells hz2
          have fz := fz_of hz2
          have HZ1 := Lib.hid hz2
          clear hBc hown1 hz1 hz2 hX64
          go_wp2_with fail
          obtain ⟨e0, e1, e2, e3, e4⟩ := node_cells (node_set HZ1.out (.int .i64 0) (.int .i64 0) (.string E0) ZN (.int .i64 0))
          exact bodyPost_ret (v := QV ⟨0, 0, E0, 0, 93⟩ ZN) (by simp [QV, results, Tryz.results15, go_sem, e0, e1, e2, e3, e4]) rfl ⟨by unfold FoldP; rw [R.out], below_node (HBB.out.alloc HBB.out.size _) (Nat.le_refl _) _ _ _ _ _⟩
    · have hkl : k = T.length := by omega
      subst hkl
      have hst' := hst.out
      have hch := hst'.chk
      have hfo := hst'.fold
      rw [List.take_length, HC.out] at hch
      rw [List.take_length] at hfo
      have hl1 : st.length = 1 := by simpa using hch.symm
      obtain ⟨⟨X, ao, am, ac⟩, rfl⟩ := List.length_eq_one_iff.1 hl1
      have R := Lib.hid (show rootN T = some X by unfold rootN; rw [hfo]; rfl)
      have HX := Lib.hid (hst'.dep (X, ao, am, ac) (by simp))
      have HTR := Lib.hid (hst'.tree (X, ao, am, ac) (by simp))
      have HBK := Lib.hid hst'.blk
      obtain ⟨z0, z1, z2, z3, z4⟩ := node_cells hz.out
      have fz := fz_of hz.out
      have HBR := Lib.hid hbr
      obtain ⟨g, cap, hvb, -, -⟩ := hrow.form (by simp)
      cases hvb
      have c0 := hrow.cellAt 0 (by simp)
      have c1 := hrow.cellAt 1 (by simp)
      have c2 := hrow.cellAt 2 (by simp)
      have c3 := hrow.cellAt 3 (by simp)
      have c4 := hrow.cellAt 4 (by simp)
      simp only [ndC, NdC, List.flatMap_cons, List.flatMap_nil, List.append_nil, List.getElem?_cons_zero, List.getElem?_cons_succ] at c0 c1 c2 c3 c4
      clear hrow hbr hst hst' hch hfo
      go_wp2_with fail
      obtain ⟨e0, e1, e2, e3, e4⟩ := node_cells (node_set hz.out (.int .i64 X.tm.k) (.int .i64 X.tm.n) (.string X.tm.s) (.slice ao am ac) (.int .i64 (X.dep : Int)))
      have hq : nq X = ⟨X.tm.k, X.tm.n, X.tm.s, (X.dep : Int), 0⟩ := by unfold nq; rw [if_pos HX.out]
      refine bodyPost_ret (v := QV ⟨X.tm.k, X.tm.n, X.tm.s, (X.dep : Int), 0⟩ (.slice ao am ac)) (by simp [QV, results, Tryz.results15, go_sem, e0, e1, e2, e3, e4]) rfl ⟨?_, below_node HBR.out (Nat.le_refl _) _ _ _ _ _⟩
      unfold FoldP
      rw [R.out]
      refine ⟨ao, am, ac, by rw [hq], NdAt.keep (fun g hg => ?_) (fun g hg => ?_) HTR.out, HX.out⟩
      · have := (HBK.out g hg).1; simpa using this
      · exact node_far rfl (by have := (HBK.out g hg).2.1; omega)
end Go.Proofs.YtdkflmpdelfgoaaGreatDoor
namespace Go.Proofs.YtdkflmpdelfgoaaGreatDoor
open Go.RowKit Go.Shelf
set_option linter.unusedVariables false
set_option linter.unusedSimpArgs false
attribute [local go_sem] Oper.semAt_some

def OkN : Nd → Prop
  | .lf t => InB t.n
  | .un t a => (3 ≤ t.k ∧ t.k ≤ 14) ∧ OkN a
  | .bi t a b => (3 ≤ t.k ∧ t.k ≤ 14) ∧ OkN a ∧ OkN b
/-- the writer's own box, the builder, what lies below -/
structure WT (w : World) (n : Nd) (v : Value) (B : Nat) (l : Bs) (W : World) : Prop where
  bld : Bld B B l W
  box : W.heap[w.heap.size]? = some (NdO n.tm.k n.tm.n n.tm.s v (n.dep : Int))
  bel : Below B w W
  kept : Kept B w W
  size : w.heap.size + 1 ≤ W.heap.size
theorem neNB : 46 ≠ 5 := by decide
theorem wt_new {w : World} {n : Nd} {v : Value} {B : Nat} {l : Bs} (h : Bld B B l w) (hB : B < w.heap.size) : WT w n v B l (w.alloc (NdO n.tm.k n.tm.n n.tm.s v (n.dep : Int))) :=
  ⟨bld_keep h (below1 w _), heap_alloc_new w _, (below1 w _).mono (by omega), (Lib.OthersKept.refl _ _ w).alloc _, by simp⟩
theorem WT.go {w : World} {n : Nd} {v : Value} {B : Nat} {l l' : Bs} {W W' : World} (h : WT w n v B l W) (hB : B < w.heap.size) (h1 : Bld B B l' W') (h2 : Below B W W') (h3 : Kept B W W') : WT w n v B l' W' :=
  ⟨h1, h3 _ _ h.box (by intro e; cases e; omega) (fun c fz e => neNB (by injection e)), h.bel.trans h2, h.kept.trans h3, Nat.le_trans h.size h2.size⟩
theorem WT.thn {w : World} {n : Nd} {v : Value} {B : Nat} {l : Bs} {W W' : World} (h : WT w n v B l W) (hB : B < w.heap.size) (hb : Below W.heap.size W W') : WT w n v B l W' :=
  ⟨bld_keep h.bld hb, block_kept hb h.box, Below.thn h.bel (by have := h.size; omega) hb, fun k o hk hb' ho => block_kept hb (h.kept k o hk hb' ho), Nat.le_trans h.size hb.size⟩
theorem WT.write {w : World} {n : Nd} {v : Value} {B : Nat} {l : Bs} {W : World} (h : WT w n v B l W) (hB : B < w.heap.size) (s : ByteArray) (hl : l.length + s.size ≤ 140737488355328) :
    Calls Tryz.prog 29 #[.pointer (some ⟨B, 0, none⟩), .string s] W fun e w' => e = .returned (.tuple #[.int .i64 s.size, .nilIface]) ∧ WT w n v B (l ++ s.data.toList) w' := by
  refine (wstring_any B B l s W h.bld (by omega) (by have := h.size; omega)).mono ?_
  rintro e w' ⟨rfl, h1, h2, h3⟩
  exact ⟨rfl, h.go hB h1 h2 h3⟩
def WroteP (B : Nat) (l : Bs) (w : World) (e : Ending) (w' : World) : Prop := e = .returned (.tuple #[]) ∧ Bld B B l w' ∧ Below B w w' ∧ Kept B w w'
set_option maxRecDepth 100000 in
set_option maxHeartbeats 8000000 in
theorem write_lf (t : Tm) (B : Nat) (l : Bs) (w : World) (hG : GoodE w) (hb : BruAt w) (hn : InB t.n) (hB : Bld B B l w) (hBw : B < w.heap.size) (hl : l.length + (leafB t).size ≤ 140737488355328) :
    Calls Tryz.prog 17 #[NdV (.lf t) ZN, .pointer (some ⟨B, 0, none⟩)] w fun e w' => WroteP B (l ++ (leafB t).data.toList) w e w' := by
  have W0 := wt_new (n := .lf t) (v := ZN) hB hBw
  have hG0 := hG.thn (below1 w (NdO t.k t.n t.s ZN 0))
  have LF := Lib.hid (lftext_any t _ hG0 (cell_kept (below1 w (NdO t.k t.n t.s ZN 0)) hb) hn)
  have HW := Lib.hid W0
  have WW := Lib.hid (fun (V : World) (h : WT w (.lf t) ZN B l V) => h.write hBw (leafB t) hl)
  obtain ⟨k, n, s⟩ := t
  unfold NdV Nd.tm Nd.dep
  unfold tmV at LF
  simp only at LF ⊢
  generalize leafB ⟨k, n, s⟩ = lb at *
  clear hB hG hb W0 hG0
  go_enter Tryz.func17, Tryz.ntmps17
  go_wp2_with fail
  refine LF.out.mono ?_
  rintro e w1 ⟨rfl, hb1⟩
  have N1 := Lib.hid (HW.out.thn hBw hb1)
  clear hb1
  go_wp2_with fail
  refine (WW.out _ N1.out).mono ?_
  rintro e w2 ⟨rfl, hv⟩
  have N2 := Lib.hid hv
  clear hv
  go_wp2_with fail
  refine bodyPost_ret (results_none rfl _ _ _) rfl ?_
  exact ⟨rfl, N2.out.bld, N2.out.bel, N2.out.kept⟩
theorem five0 {W : World} {g : Nat} {n : Nd} {v : Value} (h : Five W g 0 n v) : W.cell? ⟨g, 0, none⟩ = some (.int .i64 n.tm.k) ∧ W.cell? ⟨g, 1, none⟩ = some (.int .i64 n.tm.n) ∧ W.cell? ⟨g, 2, none⟩ = some (.string n.tm.s) ∧ W.cell? ⟨g, 3, none⟩ = some v ∧ W.cell? ⟨g, 4, none⟩ = some (.int .i64 (n.dep : Int)) := h
theorem five5 {W : World} {g : Nat} {n : Nd} {v : Value} (h : Five W g 5 n v) : W.cell? ⟨g, 5, none⟩ = some (.int .i64 n.tm.k) ∧ W.cell? ⟨g, 6, none⟩ = some (.int .i64 n.tm.n) ∧ W.cell? ⟨g, 7, none⟩ = some (.string n.tm.s) ∧ W.cell? ⟨g, 8, none⟩ = some v ∧ W.cell? ⟨g, 9, none⟩ = some (.int .i64 (n.dep : Int)) := h
theorem Five.far {B : Nat} {w W : World} (hb : Below B w W) {g o : Nat} {n : Nd} {v : Value} (hg : g < B) (h : Five w g o n v) : Five W g o n v := h.stay (hb.block g hg)
theorem BruAt.far {B : Nat} {w W : World} (hb : Below B w W) (hB : 4 ≤ B) (h : BruAt w) : BruAt W := (hb.cell (p := ⟨3, 15, none⟩) (by show 3 < B; omega)).trans h
set_option maxRecDepth 100000 in
set_option maxHeartbeats 8000000 in
theorem write_un (t : Tm) (a : Nd) (av : Value) (ao : Option Addr) (am ac : Nat) (g c : Nat) (B : Nat) (l : Bs) (w : World) (hG : GoodE w) (hk : 3 ≤ t.k ∧ t.k ≤ 14) (hc : 1 ≤ c) (hg : g < B) (hf : Five w g 0 a av) (hav : av = .slice ao am ac) (hB : Bld B B l w) (hB4 : 4 ≤ B) (hBw : B < w.heap.size) (hl : l.length + (Nd.un t a).text.size ≤ 140737488355328)
    (ih : ∀ (V : World) (l' : Bs), Below B w V → Bld B B l' V → B < V.heap.size → l'.length + a.text.size ≤ 140737488355328 → Calls Tryz.prog 17 #[NdV a av, .pointer (some ⟨B, 0, none⟩)] V fun e w' => WroteP B (l' ++ a.text.data.toList) V e w') :
    Calls Tryz.prog 17 #[NdV (.un t a) (.slice (some ⟨g, 0, none⟩) 1 c), .pointer (some ⟨B, 0, none⟩)] w fun e w' => WroteP B (l ++ (Nd.un t a).text.data.toList) w e w' := by
  subst hav
  obtain ⟨k, n, s⟩ := t
  obtain ⟨kk, rfl⟩ : ∃ kk : Nat, k = (kk : Int) := ⟨k.toNat, by simp only at hk; omega⟩
  simp only at hk
  have hi0 : (0 : Int) ≤ (kk : Int) := by omega
  have hi1 : (kk : Int) < 15 := by omega
  have hsg := signB_size kk
  have HTX : (Nd.un ⟨(kk : Int), n, s⟩ a).text = ⟨#[40]⟩ ++ signB kk ++ a.text ++ ⟨#[41]⟩ := rfl
  rw [HTX] at hl ⊢
  have HG := Lib.hid (fun V (hb : Below B w V) => ((hG.keep hB4 hb).ops kk (by omega)).2.1)
  have HF := Lib.hid (fun V (hb : Below B w V) => Five.far hb hg hf)
  have IH := Lib.hid ih
  generalize signB kk = sg at *
  have hl' : l.length + (1 + sg.size + a.text.size + 1) ≤ 140737488355328 := by
    have e1 : (⟨#[40]⟩ : BA).size = 1 := rfl
    have e2 : (⟨#[41]⟩ : BA).size = 1 := rfl
    rw [ByteArray.size_append, ByteArray.size_append, ByteArray.size_append, e1, e2] at hl
    exact hl
  have HL := Lib.hid hl'
  have hw0 := wt_new (n := .un ⟨(kk : Int), n, s⟩ a) (v := .slice (some ⟨g, 0, none⟩) 1 c) hB hBw
  have WW := Lib.hid (fun (V : World) (l' : Bs) (s' : BA) (h : WT w (.un ⟨(kk : Int), n, s⟩ a) (.slice (some ⟨g, 0, none⟩) 1 c) B l' V) hq => h.write hBw s' hq)
  have hd : (Nd.un ⟨(kk : Int), n, s⟩ a).dep = a.dep + 1 := rfl
  obtain ⟨d, hdd⟩ : ∃ d, a.dep + 1 = d := ⟨_, rfl⟩
  unfold NdV
  simp only [Nd.tm]
  rw [hd, hdd]
  have hdd' : (Nd.un ⟨(kk : Int), n, s⟩ a).dep = d := hdd
  simp only [Nd.tm] at hw0
  rw [hdd'] at hw0
  have HW := Lib.hid hw0
  clear hw0
  clear hB hG hl hl' ih hf HTX hd
  go_enter Tryz.func17, Tryz.ntmps17
  go_wp2_with fail
  refine (WW.out _ _ ⟨#[40]⟩ HW.out (by have := HL.out; rw [show (⟨#[40]⟩ : BA).size = 1 from rfl]; omega)).mono ?_
  rintro e w1 ⟨rfl, hv⟩
  have N1 := Lib.hid hv
  obtain ⟨q0, q1, q2, q3, q4⟩ := node_cells N1.out.box
  simp only [Nd.tm] at q0 q1 q2
  rw [hdd'] at q4
  clear hv HW
  go_wp2_with fail
  refine wp_loop_rounds 1 ?_
  rw [rounds_succ]
  have o1 := HG.out _ N1.out.bel
  go_wp2_with fail
  refine (WW.out _ _ sg N1.out (by have := HL.out; simp only [List.length_append, List.length_cons, List.length_nil, Array.length_toList, show (⟨#[40]⟩ : BA).data.size = 1 from rfl]; omega)).mono ?_
  rintro e w2 ⟨rfl, hv⟩
  have N2 := Lib.hid hv
  obtain ⟨q0, q1, q2, q3, q4⟩ := node_cells N2.out.box
  obtain ⟨f0, f1, f2, f3, f4⟩ := five0 (HF.out _ N2.out.bel)
  simp only [Nd.tm] at q0 q1 q2
  rw [hdd'] at q4
  clear hv N1 o1
  go_wp2_with fail
  refine (IH.out _ _ N2.out.bel N2.out.bld (by have := N2.out.size; omega) (by have := HL.out; simp only [List.length_append, List.length_cons, List.length_nil, Array.length_toList, show (⟨#[40]⟩ : BA).data.size = 1 from rfl, show sg.data.size = sg.size from rfl]; omega)).mono ?_
  rintro e w3 ⟨rfl, h1, h2, h3⟩
  have N3 := Lib.hid (N2.out.go hBw h1 h2 h3)
  obtain ⟨q0, q1, q2, q3, q4⟩ := node_cells N3.out.box
  simp only [Nd.tm] at q0 q1 q2
  rw [hdd'] at q4
  clear h1 h2 h3 N2
  go_wp2_with fail
  refine (WW.out _ _ ⟨#[41]⟩ N3.out (by have := HL.out; simp only [List.length_append, List.length_cons, List.length_nil, Array.length_toList, show (⟨#[40]⟩ : BA).data.size = 1 from rfl, show sg.data.size = sg.size from rfl, show a.text.data.size = a.text.size from rfl, show (⟨#[41]⟩ : BA).size = 1 from rfl]; omega)).mono ?_
  rintro e w4 ⟨rfl, hv⟩
  have N4 := Lib.hid hv
  clear hv N3
  go_wp2_with fail
  refine bodyPost_end (results_none rfl _ _ _) rfl ?_
  refine ⟨rfl, ?_, N4.out.bel, N4.out.kept⟩
  have := N4.out.bld
  simpa [ByteArray.data_append, List.append_assoc] using this
set_option maxRecDepth 100000 in
set_option maxHeartbeats 8000000 in
theorem write_bi (t : Tm) (a b : Nd) (av bv : Value) (ao : Option Addr) (am ac : Nat) (bo : Option Addr) (bm bc : Nat) (g c : Nat) (B : Nat) (l : Bs) (w : World) (hG : GoodE w) (hk : 3 ≤ t.k ∧ t.k ≤ 14) (hc : 2 ≤ c) (hg : g < B) (hf : Five w g 0 a av) (hf' : Five w g 5 b bv) (hav : av = .slice ao am ac) (hbv : bv = .slice bo bm bc) (hB : Bld B B l w) (hB4 : 4 ≤ B) (hBw : B < w.heap.size) (hl : l.length + (Nd.bi t a b).text.size ≤ 140737488355328)
    (ih : ∀ (V : World) (l' : Bs), Below B w V → Bld B B l' V → B < V.heap.size → l'.length + a.text.size ≤ 140737488355328 → Calls Tryz.prog 17 #[NdV a av, .pointer (some ⟨B, 0, none⟩)] V fun e w' => WroteP B (l' ++ a.text.data.toList) V e w')
    (ih' : ∀ (V : World) (l' : Bs), Below B w V → Bld B B l' V → B < V.heap.size → l'.length + b.text.size ≤ 140737488355328 → Calls Tryz.prog 17 #[NdV b bv, .pointer (some ⟨B, 0, none⟩)] V fun e w' => WroteP B (l' ++ b.text.data.toList) V e w') :
    Calls Tryz.prog 17 #[NdV (.bi t a b) (.slice (some ⟨g, 0, none⟩) 2 c), .pointer (some ⟨B, 0, none⟩)] w fun e w' => WroteP B (l ++ (Nd.bi t a b).text.data.toList) w e w' := by
  subst hav
  subst hbv
  obtain ⟨k, n, s⟩ := t
  obtain ⟨kk, rfl⟩ : ∃ kk : Nat, k = (kk : Int) := ⟨k.toNat, by simp only at hk; omega⟩
  simp only at hk
  have hi0 : (0 : Int) ≤ (kk : Int) := by omega
  have hi1 : (kk : Int) < 15 := by omega
  have hsg := signB_size kk
  have HTX : (Nd.bi ⟨(kk : Int), n, s⟩ a b).text = ⟨#[40]⟩ ++ a.text ++ signB kk ++ b.text ++ ⟨#[41]⟩ := rfl
  rw [HTX] at hl ⊢
  have HG := Lib.hid (fun V (hb : Below B w V) => ((hG.keep hB4 hb).ops kk (by omega)).2.1)
  have HF := Lib.hid (fun V (hb : Below B w V) => Five.far hb hg hf)
  have HF' := Lib.hid (fun V (hb : Below B w V) => Five.far hb hg hf')
  have IH := Lib.hid ih
  have IH' := Lib.hid ih'
  generalize signB kk = sg at *
  have hl' : l.length + (1 + a.text.size + sg.size + b.text.size + 1) ≤ 140737488355328 := by
    have e1 : (⟨#[40]⟩ : BA).size = 1 := rfl
    have e2 : (⟨#[41]⟩ : BA).size = 1 := rfl
    rw [ByteArray.size_append, ByteArray.size_append, ByteArray.size_append, ByteArray.size_append, e1, e2] at hl
    exact hl
  have HL := Lib.hid hl'
  have hw0 := wt_new (n := .bi ⟨(kk : Int), n, s⟩ a b) (v := .slice (some ⟨g, 0, none⟩) 2 c) hB hBw
  have WW := Lib.hid (fun (V : World) (l' : Bs) (s' : BA) (h : WT w (.bi ⟨(kk : Int), n, s⟩ a b) (.slice (some ⟨g, 0, none⟩) 2 c) B l' V) hq => h.write hBw s' hq)
  have hd : (Nd.bi ⟨(kk : Int), n, s⟩ a b).dep = max (a.dep + 1) (b.dep + 1) := rfl
  obtain ⟨d, hdd⟩ : ∃ d, max (a.dep + 1) (b.dep + 1) = d := ⟨_, rfl⟩
  unfold NdV
  simp only [Nd.tm]
  rw [hd, hdd]
  have hdd' : (Nd.bi ⟨(kk : Int), n, s⟩ a b).dep = d := hdd
  simp only [Nd.tm] at hw0
  rw [hdd'] at hw0
  have HW := Lib.hid hw0
  clear hw0
  clear hB hG hl hl' ih ih' hf hf' HTX hd
  go_enter Tryz.func17, Tryz.ntmps17
  go_wp2_with fail
  refine (WW.out _ _ ⟨#[40]⟩ HW.out (by have := HL.out; rw [show (⟨#[40]⟩ : BA).size = 1 from rfl]; omega)).mono ?_
  rintro e w1 ⟨rfl, hv⟩
  have N1 := Lib.hid hv
  obtain ⟨q0, q1, q2, q3, q4⟩ := node_cells N1.out.box
  simp only [Nd.tm] at q0 q1 q2
  rw [hdd'] at q4
  obtain ⟨f0, f1, f2, f3, f4⟩ := five0 (HF.out _ N1.out.bel)
  clear hv HW
  go_wp2_with fail
  refine wp_loop_rounds 2 ?_
  rw [rounds_succ]
  go_wp2_with fail
  have N1' := Lib.hid (N1.out.thn hBw (below1 w1 (NdO a.tm.k a.tm.n a.tm.s (.slice ao am ac) (a.dep : Int))))
  refine (IH.out _ _ N1'.out.bel N1'.out.bld (by have := N1'.out.size; omega) (by have := HL.out; simp only [List.length_append, List.length_cons, List.length_nil, Array.length_toList, show (⟨#[40]⟩ : BA).data.size = 1 from rfl, show sg.data.size = sg.size from rfl, show a.text.data.size = a.text.size from rfl, show b.text.data.size = b.text.size from rfl, show (⟨#[41]⟩ : BA).size = 1 from rfl, show (⟨#[40]⟩ : BA).size = 1 from rfl]; omega)).mono ?_
  rintro e w3 ⟨rfl, h1, h2, h3⟩
  have N3 := Lib.hid (N1'.out.go hBw h1 h2 h3)
  obtain ⟨q0, q1, q2, q3, q4⟩ := node_cells N3.out.box
  simp only [Nd.tm] at q0 q1 q2
  rw [hdd'] at q4
  have o1 := HG.out _ N3.out.bel
  clear h1 h2 h3 N1 N1'
  go_wp2_with fail
  rw [rounds_succ]
  go_wp2_with fail
  refine (WW.out _ _ sg N3.out (by have := HL.out; simp only [List.length_append, List.length_cons, List.length_nil, Array.length_toList, show (⟨#[40]⟩ : BA).data.size = 1 from rfl, show sg.data.size = sg.size from rfl, show a.text.data.size = a.text.size from rfl, show b.text.data.size = b.text.size from rfl, show (⟨#[41]⟩ : BA).size = 1 from rfl, show (⟨#[40]⟩ : BA).size = 1 from rfl]; omega)).mono ?_
  rintro e w2 ⟨rfl, hv⟩
  have N2 := Lib.hid hv
  obtain ⟨q0, q1, q2, q3, q4⟩ := node_cells N2.out.box
  obtain ⟨f0, f1, f2, f3, f4⟩ := five5 (HF'.out _ N2.out.bel)
  simp only [Nd.tm] at q0 q1 q2
  rw [hdd'] at q4
  clear hv N3 o1
  go_wp2_with fail
  refine (IH'.out _ _ N2.out.bel N2.out.bld (by have := N2.out.size; omega) (by have := HL.out; simp only [List.length_append, List.length_cons, List.length_nil, Array.length_toList, show (⟨#[40]⟩ : BA).data.size = 1 from rfl, show sg.data.size = sg.size from rfl, show a.text.data.size = a.text.size from rfl, show b.text.data.size = b.text.size from rfl, show (⟨#[41]⟩ : BA).size = 1 from rfl, show (⟨#[40]⟩ : BA).size = 1 from rfl]; omega)).mono ?_
  rintro e w5 ⟨rfl, h1, h2, h3⟩
  have N3 := Lib.hid (N2.out.go hBw h1 h2 h3)
  obtain ⟨q0, q1, q2, q3, q4⟩ := node_cells N3.out.box
  simp only [Nd.tm] at q0 q1 q2
  rw [hdd'] at q4
  clear h1 h2 h3 N2
  go_wp2_with fail
  refine (WW.out _ _ ⟨#[41]⟩ N3.out (by have := HL.out; simp only [List.length_append, List.length_cons, List.length_nil, Array.length_toList, show (⟨#[40]⟩ : BA).data.size = 1 from rfl, show sg.data.size = sg.size from rfl, show a.text.data.size = a.text.size from rfl, show b.text.data.size = b.text.size from rfl, show (⟨#[41]⟩ : BA).size = 1 from rfl, show (⟨#[40]⟩ : BA).size = 1 from rfl]; omega)).mono ?_
  rintro e w4 ⟨rfl, hv⟩
  have N4 := Lib.hid hv
  clear hv N3
  go_wp2_with fail
  refine bodyPost_end (results_none rfl _ _ _) rfl ?_
  refine ⟨rfl, ?_, N4.out.bel, N4.out.kept⟩
  have := N4.out.bld
  simpa [ByteArray.data_append, List.append_assoc] using this
theorem nd_slice {P : Nat → Prop} {W : World} : ∀ {n : Nd} {v : Value}, NdAt P W n v → ∃ ao m c, v = .slice ao m c
  | .lf _, v, h => ⟨_, _, _, h⟩
  | .un _ _, v, ⟨_, _, _, h, _⟩ => ⟨_, _, _, h⟩
  | .bi _ _ _, v, ⟨_, _, _, _, h, _⟩ => ⟨_, _, _, h⟩
theorem write_any (P : Nat → Prop) (B : Nat) (hP : ∀ g, P g → g < B) (hB4 : 4 ≤ B) : ∀ (n : Nd) (v : Value) (l : Bs) (w : World), GoodE w → BruAt w → OkN n → NdAt P w n v → Bld B B l w → B < w.heap.size → l.length + n.text.size ≤ 140737488355328 →
    Calls Tryz.prog 17 #[NdV n v, .pointer (some ⟨B, 0, none⟩)] w fun e w' => WroteP B (l ++ n.text.data.toList) w e w'
  | .lf t, v, l, w, hG, hb, hk, hN, hB, hBw, hl => by
    have hv : v = ZN := hN
    subst hv
    exact write_lf t B l w hG hb hk hB hBw hl
  | .un t a, v, l, w, hG, hb, hk, ⟨g, c, av, h1, h2, h3, h4, h5⟩, hB, hBw, hl => by
    obtain ⟨ao, am, ac, hav⟩ := nd_slice h5
    subst h1
    exact write_un t a av ao am ac g c B l w hG hk.1 h2 (hP g h3) h4 hav hB hB4 hBw hl (fun V l' hbl hB' hBV hl' => write_any P B hP hB4 a av l' V (hG.keep hB4 hbl) (hb.far hbl hB4) hk.2 (NdAt.keep (fun g h => h) (fun g h => hbl.block g (hP g h)) h5) hB' hBV hl')
  | .bi t a b, v, l, w, hG, hb, hk, ⟨g, c, av, bv, h1, h2, h3, h4, h5, h6, h7⟩, hB, hBw, hl => by
    obtain ⟨ao, am, ac, hav⟩ := nd_slice h6
    obtain ⟨bo, bm, bc, hbv⟩ := nd_slice h7
    subst h1
    exact write_bi t a b av bv ao am ac bo bm bc g c B l w hG hk.1 h2 (hP g h3) h4 h5 hav hbv hB hB4 hBw hl (fun V l' hbl hB' hBV hl' => write_any P B hP hB4 a av l' V (hG.keep hB4 hbl) (hb.far hbl hB4) hk.2.1 (NdAt.keep (fun g h => h) (fun g h => hbl.block g (hP g h)) h6) hB' hBV hl') (fun V l' hbl hB' hBV hl' => write_any P B hP hB4 b bv l' V (hG.keep hB4 hbl) (hb.far hbl hB4) hk.2.2 (NdAt.keep (fun g h => h) (fun g h => hbl.block g (hP g h)) h7) hB' hBV hl')
end Go.Proofs.YtdkflmpdelfgoaaGreatDoor
namespace Go.Proofs.YtdkflmpdelfgoaaGreatDoor
open Go.RowKit Go.Shelf
set_option linter.unusedVariables false
set_option linter.unusedSimpArgs false

def pt (n : Nd) : PT := (n.text, (n.dep : Int))
theorem takes_may {t : Tm} (hm : mayB t = true) : (takesN t.k = 0 ∧ (t.k = 1 ∨ t.k = 2)) ∨ (takesN t.k = 1 ∧ 3 ≤ t.k ∧ t.k ≤ 4) ∨ (takesN t.k = 2 ∧ 5 ≤ t.k ∧ t.k ≤ 14) := by
  obtain ⟨kn, h1, h2, h3⟩ := mayB_k hm
  unfold takesN
  by_cases h5 : 5 ≤ t.k
  · rw [if_pos ⟨h5, by omega⟩]; exact .inr (.inr ⟨rfl, h5, by omega⟩)
  · rw [if_neg (by omega)]
    by_cases h4 : 3 ≤ t.k
    · rw [if_pos ⟨h4, by omega⟩]; exact .inr (.inl ⟨rfl, h4, by omega⟩)
    · rw [if_neg (by omega)]; exact .inl ⟨rfl, by omega⟩
theorem mk_pt {t : Tm} (hm : mayB t = true) {A : List Nd} (hl : A.length = takesN t.k) : nodeT t (A.map pt) = pt (mkN t A) := by
  rcases takes_may hm with ⟨h, hk⟩ | ⟨h, hk⟩ | ⟨h, hk⟩
  · rw [h] at hl
    obtain rfl := List.length_eq_zero_iff.1 hl
    unfold nodeT mkN pt Nd.text Nd.dep leafB
    rcases hk with hk | hk
    · rw [if_pos hk, if_neg (by omega)]; rfl
    · rw [if_neg (by omega), if_pos hk, if_pos hk]; rfl
  · rw [h] at hl
    obtain ⟨a, rfl⟩ := List.length_eq_one_iff.1 hl
    unfold nodeT
    rw [if_neg (by omega), if_neg (by omega)]
    rfl
  · rw [h] at hl
    match A, hl with
    | [a, b], _ =>
      unfold nodeT
      rw [if_neg (by omega), if_neg (by omega)]
      show _ = (_, ((max (a.dep + 1) (b.dep + 1) : Nat) : Int))
      have : max (pt a).2 (pt b).2 + 1 = ((max (a.dep + 1) (b.dep + 1) : Nat) : Int) := by
        show max (a.dep : Int) (b.dep : Int) + 1 = _
        omega
      rw [← this]
      rfl
/-- one step of a check -/
theorem check_cons {t : Tm} {T : List Tm} {h n : Nat} (hc : checkF h (t :: T) = some n) : mayB t = true ∧ takesN t.k ≤ h ∧ checkF (h + 1 - takesN t.k) T = some n := by
  rw [checkF] at hc
  split at hc
  · rename_i hh; exact ⟨hh.1, hh.2, hc⟩
  · cases hc
theorem ndrop_len {α : Type} {st : List α} {k : Nat} (h : k ≤ st.length) : (st.drop (st.length - k)).length = k := by rw [List.length_drop]; omega
theorem nnext_len {α : Type} {st : List α} {k : Nat} (x : α) (h : k ≤ st.length) : (st.take (st.length - k) ++ [x]).length = st.length + 1 - k := by rw [List.length_append, List.length_take]; simp; omega
theorem fold_pt : ∀ (T : List Tm) (st st' : List Nd) (n : Nat), checkF st.length T = some n → foldN st T = some st' → textF (st.map pt) T = st'.map pt ∧ st'.length = n
  | [], st, st', n, hc, hf => by
    cases hf
    rw [checkF] at hc
    exact ⟨rfl, by simpa using hc⟩
  | t :: T, st, st', n, hc, hf => by
    obtain ⟨hm, hk, hc'⟩ := check_cons hc
    rw [foldN] at hf
    split at hf
    · have e := mk_pt hm (ndrop_len hk)
      rw [← nnext_len (mkN t (st.drop (st.length - takesN t.k))) hk] at hc'
      have := fold_pt T _ st' n hc' hf
      rw [textF, List.length_map, ← List.map_drop, e, ← List.map_take]
      rw [List.map_append] at this
      exact this
    · cases hf
theorem nnode_deep {t : Tm} (hm : mayB t = true) {A : List PT} (hl : A.length = takesN t.k) {p : PT} (hp : p ∈ A) (h : 64 < p.2) : 64 < (nodeT t A).2 := by
  rcases takes_may hm with ⟨ht, hk⟩ | ⟨ht, hk⟩ | ⟨ht, hk⟩
  · rw [ht] at hl
    rw [List.length_eq_zero_iff.1 hl] at hp
    cases hp
  · rw [ht] at hl
    obtain ⟨a, rfl⟩ := List.length_eq_one_iff.1 hl
    rw [List.mem_singleton] at hp
    subst hp
    unfold nodeT
    rw [if_neg (by omega), if_neg (by omega)]
    show 64 < p.2 + 1
    omega
  · rw [ht] at hl
    match A, hl with
    | [a, b], _ =>
      unfold nodeT
      rw [if_neg (by omega), if_neg (by omega)]
      show 64 < max a.2 b.2 + 1
      rcases List.mem_cons.1 hp with rfl | hp
      · omega
      · rw [List.mem_singleton] at hp; subst hp; omega
theorem ntext_deep : ∀ (T : List Tm) (st : List PT) (n : Nat), checkF st.length T = some n → (∃ p ∈ st, 64 < p.2) → ∃ p ∈ textF st T, 64 < p.2
  | [], st, n, hc, h => h
  | t :: T, st, n, hc, ⟨p, hp, h⟩ => by
    obtain ⟨hm, hk, hc'⟩ := check_cons hc
    rw [textF]
    refine ntext_deep T _ n (by rw [nnext_len _ hk]; exact hc') ?_
    rw [← List.take_append_drop (st.length - takesN t.k) st] at hp
    rcases List.mem_append.1 hp with hp | hp
    · exact ⟨p, List.mem_append_left _ hp, h⟩
    · exact ⟨_, List.mem_append_right _ (List.mem_singleton.2 rfl), nnode_deep hm (ndrop_len hk) hp h⟩
theorem fold_deep : ∀ (T : List Tm) (st : List Nd) (n : Nat), checkF st.length T = some n → foldN st T = none → ∃ p ∈ textF (st.map pt) T, 64 < p.2
  | [], st, n, hc, hf => by cases hf
  | t :: T, st, n, hc, hf => by
    obtain ⟨hm, hk, hc'⟩ := check_cons hc
    have e := mk_pt hm (ndrop_len hk)
    rw [← nnext_len (mkN t (st.drop (st.length - takesN t.k))) hk] at hc'
    rw [textF, List.length_map, ← List.map_drop, e, ← List.map_take]
    rw [foldN] at hf
    split at hf
    · have := fold_deep T _ n hc' hf
      rw [List.map_append] at this
      exact this
    · rename_i hh
      refine ntext_deep T _ n ?_ ⟨_, List.mem_append_right _ (List.mem_singleton.2 rfl), ?_⟩
      · rw [← hc', List.length_append, List.length_append, List.length_map]; rfl
      · show (64 : Int) < ((mkN t (st.drop (st.length - takesN t.k))).dep : Int)
        omega
theorem ntext_len : ∀ (T : List Tm) (st : List PT) (n : Nat), checkF st.length T = some n → (textF st T).length = n
  | [], st, n, hc => by rw [checkF] at hc; rw [textF]; simpa using hc
  | t :: T, st, n, hc => by
    obtain ⟨hm, hk, hc'⟩ := check_cons hc
    rw [textF]
    exact ntext_len T _ n (by rw [nnext_len _ hk]; exact hc')
theorem ntext_size : ∀ (T : List Tm) (st : List PT) (n : Nat), checkF st.length T = some n → (∀ x ∈ T, InB x.n) → ptSum (textF st T) ≤ ptSum st + 520 * T.length
  | [], st, n, hc, hI => by rw [textF]; omega
  | t :: T, st, n, hc, hI => by
    obtain ⟨hm, hk, hc'⟩ := check_cons hc
    rw [textF]
    have h1 := ntext_size T (st.take (st.length - takesN t.k) ++ [nodeT t (st.drop (st.length - takesN t.k))]) n (by rw [nnext_len _ hk]; exact hc') (fun x hx => hI x (List.mem_cons_of_mem _ hx))
    have h2 := node_size (a := st.drop (st.length - takesN t.k)) hm (hI t (by simp)).2
    have h3 := ptSum_cut st (st.length - takesN t.k)
    rw [ptSum_app] at h1
    have h4 : ∀ r : PT, ptSum [r] = r.1.size := fun r => by simp [ptSum]
    rw [h4] at h1
    rw [List.length_cons]
    omega
theorem mk_ok {t : Tm} (hm : mayB t = true) (hI : InB t.n) {A : List Nd} (hl : A.length = takesN t.k) (hA : ∀ x ∈ A, OkN x) : OkN (mkN t A) := by
  rcases takes_may hm with ⟨h, hk⟩ | ⟨h, hk⟩ | ⟨h, hk⟩
  · rw [h] at hl
    obtain rfl := List.length_eq_zero_iff.1 hl
    exact hI
  · rw [h] at hl
    obtain ⟨a, rfl⟩ := List.length_eq_one_iff.1 hl
    exact ⟨⟨by omega, by omega⟩, hA a (by simp)⟩
  · rw [h] at hl
    match A, hl with
    | [a, b], _ => exact ⟨⟨by omega, by omega⟩, hA a (by simp), hA b (by simp)⟩
theorem fold_ok : ∀ (T : List Tm) (st st' : List Nd) (n : Nat), checkF st.length T = some n → foldN st T = some st' → (∀ x ∈ T, InB x.n) → (∀ x ∈ st, OkN x) → ∀ x ∈ st', OkN x
  | [], st, st', n, hc, hf, hI, h => by cases hf; exact h
  | t :: T, st, st', n, hc, hf, hI, h => by
    obtain ⟨hm, hk, hc'⟩ := check_cons hc
    rw [foldN] at hf
    split at hf
    · refine fold_ok T _ st' n (by rw [nnext_len _ hk]; exact hc') hf (fun x hx => hI x (List.mem_cons_of_mem _ hx)) ?_
      intro x hx
      rcases List.mem_append.1 hx with hx | hx
      · exact h x (List.mem_of_mem_take hx)
      · rw [List.mem_singleton.1 hx]
        exact mk_ok hm (hI t (by simp)) (ndrop_len hk) (fun y hy => h y (List.mem_of_mem_drop hy))
    · cases hf
/-- the program's text and the document's -/
theorem root_some {T : List Tm} {x : Nd} (hc : checkT T = 0) (hI : ∀ x ∈ T, InB x.n) (hr : rootN T = some x) (h64 : x.dep ≤ 64) : docText T = (x.text, 0) ∧ OkN x ∧ x.text.size ≤ 133120 := by
  obtain ⟨h1, h2⟩ := checkT_ok hc
  unfold rootN at hr
  obtain ⟨l, hl, hx⟩ := Option.bind_eq_some_iff.1 hr
  obtain ⟨e, hn⟩ := fold_pt T [] l 1 h1 hl
  obtain ⟨y, rfl⟩ := List.length_eq_one_iff.1 hn
  have hyx : y = x := by simpa using hx
  subst hyx
  replace e : textF [] T = [pt y] := e
  have hs := ntext_size T [] 1 h1 hI
  rw [e] at hs
  have h4 : ptSum [pt y] = y.text.size := by simp [ptSum, pt]
  have h5 : ptSum ([] : List PT) = 0 := rfl
  rw [h4, h5] at hs
  refine ⟨?_, fold_ok T [] [y] 1 h1 hl hI (fun x hx => by cases hx) y (by simp), by omega⟩
  unfold docText
  rw [if_pos hc, e]
  show docTextR (pt y) = _
  unfold docTextR
  rw [if_neg (by show ¬ (64 : Int) < (y.dep : Int); omega)]
  rfl
theorem root_none {T : List Tm} (hc : checkT T = 0) (hr : rootN T = none) : docText T = (E0, 93) := by
  obtain ⟨h1, h2⟩ := checkT_ok hc
  cases hl : foldN [] T with
  | none =>
    obtain ⟨p, hp, h⟩ := fold_deep T [] 1 h1 hl
    replace hp : p ∈ textF [] T := hp
    have hn := ntext_len T [] 1 h1
    obtain ⟨q, hq⟩ := List.length_eq_one_iff.1 hn
    rw [hq] at hp
    rw [List.mem_singleton] at hp
    subst hp
    unfold docText
    rw [if_pos hc, hq]
    show docTextR p = _
    unfold docTextR
    rw [if_pos h]
  | some l =>
    obtain ⟨-, hn⟩ := fold_pt T [] l 1 h1 hl
    obtain ⟨y, rfl⟩ := List.length_eq_one_iff.1 hn
    unfold rootN at hr
    rw [hl] at hr
    cases hr
end Go.Proofs.YtdkflmpdelfgoaaGreatDoor
namespace Go.Proofs.YtdkflmpdelfgoaaGreatDoor
open Go.RowKit Go.Shelf
set_option linter.unusedVariables false
set_option linter.unusedSimpArgs false
attribute [local go_sem] Oper.semAt_some

set_option maxRecDepth 100000 in
set_option maxHeartbeats 8000000 in
theorem ptext_any (v : Value) (T : List Tm) (w : World) (hG : GoodE w) (hb : BruAt w) (h : TriO tmF w v T) (hl : T.length ≤ 281474976710656) (hs : ∀ x ∈ T, x.s.size ≤ maxLen) (hI : ∀ x ∈ T, InB x.n) :
    Calls Tryz.prog 7 #[v] w fun e w' => e = .returned (TV (docText T)) ∧ Below w.heap.size w w' := by
  have CK := Lib.hid (check_any v T w hG h hl hs)
  obtain ⟨A, c, rfl⟩ := tri_slice h
  by_cases hc : checkT T = 0
  · obtain ⟨hcf, hl256⟩ := checkT_ok hc
    have NF := Lib.hid (fun V (hb : Below w.heap.size w V) => nfold_any (.slice A T.length c) T V (hG.thn hb) (h.keep hb) hl256 hcf)
    have HG := Lib.hid (fun V (hb : Below w.heap.size w V) => hG.thn hb)
    have HB := Lib.hid (fun V (hb' : Below w.heap.size w V) => (show BruAt V from cell_kept hb' hb))
    have RS := Lib.hid (fun x (hr : rootN T = some x) h64 => root_some hc hI hr h64)
    have RN := Lib.hid (fun (hr : rootN T = none) => root_none hc hr)
    have hG4 := hG.size
    rw [hc] at CK
    clear hc hcf hl256 hs hl hI h hG hb
    go_enter Tryz.func7, Tryz.ntmps7
    go_wp2_with fail
    refine CK.out.mono ?_
    rintro e w1 ⟨rfl, hb1⟩
    have HB1 := Lib.hid hb1
    clear hb1
    go_wp2_with fail
    refine (NF.out _ HB1.out).mono ?_
    rintro e w2 ⟨hF, hb2⟩
    have HB2 := Lib.hid (Below.thn HB1.out HB1.out.size hb2)
    clear hb2
    unfold FoldP at hF
    cases hr : rootN T with
    | none =>
      rw [hr] at hF
      subst hF
      have R := Lib.hid (RN.out hr)
      clear hr
      unfold QV
      go_wp2_with fail
      go_ret2
      exact ⟨by rw [R.out]; rfl, HB2.out.alloc HB2.out.size _⟩
    | some X =>
      rw [hr] at hF
      obtain ⟨ao, am, ac, rfl, hN, h64⟩ := hF
      obtain ⟨hdt, hok, hsz⟩ := RS.out X hr h64
      have hq : nq X = ⟨X.tm.k, X.tm.n, X.tm.s, (X.dep : Int), 0⟩ := by unfold nq; rw [if_pos h64]
      rw [hq]
      have R := Lib.hid hdt
      have HSZ := Lib.hid hsz
      have HN := Lib.hid hN
      have HOK := Lib.hid hok
      clear hr hdt hsz hN h64 hq hok
      unfold QV
      go_wp2_with fail
      obtain ⟨-, -, n3, n4⟩ := two_new w2 (NdO X.tm.k X.tm.n X.tm.s (.slice ao am ac) (X.dep : Int)) (.cells #[.pointer none, .slice none 0 0] 53)
      have hbl := bld_new (w2.alloc (NdO X.tm.k X.tm.n X.tm.s (.slice ao am ac) (X.dep : Int)))
      rw [show (w2.alloc (NdO X.tm.k X.tm.n X.tm.s (.slice ao am ac) (X.dep : Int))).heap.size = w2.heap.size + 1 by simp] at hbl
      generalize (w2.alloc (NdO X.tm.k X.tm.n X.tm.s (.slice ao am ac) (X.dep : Int))).alloc (.cells #[.pointer none, .slice none 0 0] 53) = W3 at *
      have hb3 : Below w.heap.size w W3 := Below.thn HB2.out HB2.out.size n3
      have hz2 := HB2.out.size
      have HB3 := Lib.hid hb3
      refine (write_any (fun g => g < w2.heap.size) (w2.heap.size + 1) (fun g hg => by omega) (by omega) X (.slice ao am ac) [] W3 (HG.out _ hb3) (HB.out _ hb3) HOK.out (NdAt.keep (fun g hg => hg) (fun g hg => n3.block g hg) HN.out) hbl (by omega) (by have := HSZ.out; simp only [List.length_nil]; omega)).mono ?_
      rintro e w4 ⟨rfl, h1, h2, h3⟩
      have H1 := Lib.hid h1
      have HB4 := Lib.hid (HB3.out.trans (h2.mono (by omega)))
      have hz4 := h2.size
      clear h1 h2 h3 hbl hb3 n3
      go_wp2_with fail
      refine (Tryz.Builder_String_any_k (w2.heap.size + 1) (w2.heap.size + 1) _ _ H1.out (by omega)).mono ?_
      rintro e w5 ⟨rfl, -, hb, -⟩
      have HB5 := Lib.hid (HB4.out.trans (hb.mono (by omega)))
      clear hb
      go_wp2_with fail
      go_ret2
      exact ⟨by rw [R.out]; unfold TV; simp, HB5.out⟩
  · have HE := Lib.hid (show docText T = (E0, checkT T) by unfold docText; rw [if_neg hc])
    obtain ⟨q, hq⟩ : ∃ q, checkT T = q := ⟨_, rfl⟩
    rw [hq] at CK HE hc
    have hc' : (q != 0) = true := by rw [bne, beq_eq_false_iff_ne.2 hc]; rfl
    clear hq hc h hG hb hs hI hl
    go_enter Tryz.func7, Tryz.ntmps7
    go_wp2_with fail
    refine CK.out.mono ?_
    rintro e w1 ⟨rfl, hb1⟩
    have HB1 := Lib.hid hb1
    clear hb1
    go_wp2_with fail
    go_ret2
    exact ⟨by rw [HE.out]; rfl, HB1.out⟩
end Go.Proofs.YtdkflmpdelfgoaaGreatDoor
