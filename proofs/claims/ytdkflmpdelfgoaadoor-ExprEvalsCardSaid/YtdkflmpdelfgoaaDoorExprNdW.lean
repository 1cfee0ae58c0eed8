/-
  A tree's text, written into a builder: what the call does. Conditions: where the tree lies, what the start left in the variables, that the text is not too long.
-/
import Derived.Test.YtdkflmpdelfgoaaDoorExprNdC
import Derived.Test.YtdkflmpdelfgoaaDoorExprP
import Derived.Test.YtdkflmpdelfgoaaDoorExprRefK
namespace Go.Proofs.YtdkflmpdelfgoaaDoor
open Go.RowKit Go.Shelf
set_option linter.unusedVariables false
set_option linter.unusedSimpArgs false
attribute [local go_sem] Oper.semAt_some

def OkN : Nd → Prop
  | .lf t => InB t.n
  | .un t a => (3 ≤ t.k ∧ t.k ≤ 14) ∧ OkN a
  | .bi t a b => (3 ≤ t.k ∧ t.k ≤ 14) ∧ OkN a ∧ OkN b
/-- the writer's own box, the builder, what lies below -/
structure WT (w : World) (n : Nd) (v : Value) (B : Nat) (l : Bs) (W : World) : Prop where
  bld : Bld B B l W
  box : W.heap[w.heap.size]? = some (NdO n.tm.k n.tm.n n.tm.s v (n.dep : Int))
  bel : Below B w W
  kept : Kept B w W
  size : w.heap.size + 1 ≤ W.heap.size
theorem neNB : 65 ≠ 5 := by decide
theorem wt_new {w : World} {n : Nd} {v : Value} {B : Nat} {l : Bs} (h : Bld B B l w) (hB : B < w.heap.size) : WT w n v B l (w.alloc (NdO n.tm.k n.tm.n n.tm.s v (n.dep : Int))) :=
  ⟨bld_keep h (below1 w _), heap_alloc_new w _, (below1 w _).mono (by omega), (Lib.OthersKept.refl _ _ w).alloc _, by simp⟩
theorem WT.go {w : World} {n : Nd} {v : Value} {B : Nat} {l l' : Bs} {W W' : World} (h : WT w n v B l W) (hB : B < w.heap.size) (h1 : Bld B B l' W') (h2 : Below B W W') (h3 : Kept B W W') : WT w n v B l' W' :=
  ⟨h1, h3 _ _ h.box (by intro e; cases e; omega) (fun c fz e => neNB (by injection e)), h.bel.trans h2, h.kept.trans h3, Nat.le_trans h.size h2.size⟩
theorem WT.thn {w : World} {n : Nd} {v : Value} {B : Nat} {l : Bs} {W W' : World} (h : WT w n v B l W) (hB : B < w.heap.size) (hb : Below W.heap.size W W') : WT w n v B l W' :=
  ⟨bld_keep h.bld hb, block_kept hb h.box, Below.thn h.bel (by have := h.size; omega) hb, fun k o hk hb' ho => block_kept hb (h.kept k o hk hb' ho), Nat.le_trans h.size hb.size⟩
theorem WT.write {w : World} {n : Nd} {v : Value} {B : Nat} {l : Bs} {W : World} (h : WT w n v B l W) (hB : B < w.heap.size) (s : ByteArray) (hl : l.length + s.size ≤ 140737488355328) :
    Calls Tryd.prog 59 #[.pointer (some ⟨B, 0, none⟩), .string s] W fun e w' => e = .returned (.tuple #[.int .i64 s.size, .nilIface]) ∧ WT w n v B (l ++ s.data.toList) w' := by
  refine (wstring_any B B l s W h.bld (by omega) (by have := h.size; omega)).mono ?_
  rintro e w' ⟨rfl, h1, h2, h3⟩
  exact ⟨rfl, h.go hB h1 h2 h3⟩
def WroteP (B : Nat) (l : Bs) (w : World) (e : Ending) (w' : World) : Prop := e = .returned (.tuple #[]) ∧ Bld B B l w' ∧ Below B w w' ∧ Kept B w w'
set_option maxRecDepth 100000 in
set_option maxHeartbeats 8000000 in
theorem write_lf (t : Tm) (B : Nat) (l : Bs) (w : World) (hG : GoodE w) (hb : BruAt w) (hn : InB t.n) (hB : Bld B B l w) (hBw : B < w.heap.size) (hl : l.length + (leafB t).size ≤ 140737488355328) :
    Calls Tryd.prog 35 #[NdV (.lf t) ZN, .pointer (some ⟨B, 0, none⟩)] w fun e w' => WroteP B (l ++ (leafB t).data.toList) w e w' := by
  have W0 := wt_new (n := .lf t) (v := ZN) hB hBw
  have hG0 := hG.thn (below1 w (NdO t.k t.n t.s ZN 0))
  have LF := Lib.hid (lftext_any t _ hG0 (cell_kept (below1 w (NdO t.k t.n t.s ZN 0)) hb) hn)
  have HW := Lib.hid W0
  have WW := Lib.hid (fun (V : World) (h : WT w (.lf t) ZN B l V) => h.write hBw (leafB t) hl)
  obtain ⟨k, n, s⟩ := t
  unfold NdV Nd.tm Nd.dep
  unfold tmV at LF
  simp only at LF ⊢
  generalize leafB ⟨k, n, s⟩ = lb at *
  clear hB hG hb W0 hG0
  go_enter Tryd.func35, Tryd.ntmps35
  go_wp2_with fail
  refine LF.out.mono ?_
  rintro e w1 ⟨rfl, hb1⟩
  have N1 := Lib.hid (HW.out.thn hBw hb1)
  clear hb1
  go_wp2_with fail
  refine (WW.out _ N1.out).mono ?_
  rintro e w2 ⟨rfl, hv⟩
  have N2 := Lib.hid hv
  clear hv
  go_wp2_with fail
  refine bodyPost_ret (results_none rfl _ _ _) rfl ?_
  exact ⟨rfl, N2.out.bld, N2.out.bel, N2.out.kept⟩
theorem five0 {W : World} {g : Nat} {n : Nd} {v : Value} (h : Five W g 0 n v) : W.cell? ⟨g, 0, none⟩ = some (.int .i64 n.tm.k) ∧ W.cell? ⟨g, 1, none⟩ = some (.int .i64 n.tm.n) ∧ W.cell? ⟨g, 2, none⟩ = some (.string n.tm.s) ∧ W.cell? ⟨g, 3, none⟩ = some v ∧ W.cell? ⟨g, 4, none⟩ = some (.int .i64 (n.dep : Int)) := h
theorem five5 {W : World} {g : Nat} {n : Nd} {v : Value} (h : Five W g 5 n v) : W.cell? ⟨g, 5, none⟩ = some (.int .i64 n.tm.k) ∧ W.cell? ⟨g, 6, none⟩ = some (.int .i64 n.tm.n) ∧ W.cell? ⟨g, 7, none⟩ = some (.string n.tm.s) ∧ W.cell? ⟨g, 8, none⟩ = some v ∧ W.cell? ⟨g, 9, none⟩ = some (.int .i64 (n.dep : Int)) := h
theorem Five.far {B : Nat} {w W : World} (hb : Below B w W) {g o : Nat} {n : Nd} {v : Value} (hg : g < B) (h : Five w g o n v) : Five W g o n v := h.stay (hb.block g hg)
theorem BruAt.far {B : Nat} {w W : World} (hb : Below B w W) (hB : 4 ≤ B) (h : BruAt w) : BruAt W := (hb.cell (p := ⟨3, 15, none⟩) (by show 3 < B; omega)).trans h
set_option maxRecDepth 100000 in
set_option maxHeartbeats 8000000 in
theorem write_un (t : Tm) (a : Nd) (av : Value) (ao : Option Addr) (am ac : Nat) (g c : Nat) (B : Nat) (l : Bs) (w : World) (hG : GoodE w) (hk : 3 ≤ t.k ∧ t.k ≤ 14) (hc : 1 ≤ c) (hg : g < B) (hf : Five w g 0 a av) (hav : av = .slice ao am ac) (hB : Bld B B l w) (hB4 : 4 ≤ B) (hBw : B < w.heap.size) (hl : l.length + (Nd.un t a).text.size ≤ 140737488355328)
    (ih : ∀ (V : World) (l' : Bs), Below B w V → Bld B B l' V → B < V.heap.size → l'.length + a.text.size ≤ 140737488355328 → Calls Tryd.prog 35 #[NdV a av, .pointer (some ⟨B, 0, none⟩)] V fun e w' => WroteP B (l' ++ a.text.data.toList) V e w') :
    Calls Tryd.prog 35 #[NdV (.un t a) (.slice (some ⟨g, 0, none⟩) 1 c), .pointer (some ⟨B, 0, none⟩)] w fun e w' => WroteP B (l ++ (Nd.un t a).text.data.toList) w e w' := by
  subst hav
  obtain ⟨k, n, s⟩ := t
  obtain ⟨kk, rfl⟩ : ∃ kk : Nat, k = (kk : Int) := ⟨k.toNat, by simp only at hk; omega⟩
  simp only at hk
  have hi0 : (0 : Int) ≤ (kk : Int) := by omega
  have hi1 : (kk : Int) < 15 := by omega
  have hsg := signB_size kk
  have HTX : (Nd.un ⟨(kk : Int), n, s⟩ a).text = ⟨#[40]⟩ ++ signB kk ++ a.text ++ ⟨#[41]⟩ := rfl
  rw [HTX] at hl ⊢
  have HG := Lib.hid (fun V (hb : Below B w V) => ((hG.keep hB4 hb).ops kk (by omega)).2.1)
  have HF := Lib.hid (fun V (hb : Below B w V) => Five.far hb hg hf)
  have IH := Lib.hid ih
  generalize signB kk = sg at *
  have hl' : l.length + (1 + sg.size + a.text.size + 1) ≤ 140737488355328 := by
    have e1 : (⟨#[40]⟩ : BA).size = 1 := rfl
    have e2 : (⟨#[41]⟩ : BA).size = 1 := rfl
    rw [ByteArray.size_append, ByteArray.size_append, ByteArray.size_append, e1, e2] at hl
    exact hl
  have HL := Lib.hid hl'
  have hw0 := wt_new (n := .un ⟨(kk : Int), n, s⟩ a) (v := .slice (some ⟨g, 0, none⟩) 1 c) hB hBw
  have WW := Lib.hid (fun (V : World) (l' : Bs) (s' : BA) (h : WT w (.un ⟨(kk : Int), n, s⟩ a) (.slice (some ⟨g, 0, none⟩) 1 c) B l' V) hq => h.write hBw s' hq)
  have hd : (Nd.un ⟨(kk : Int), n, s⟩ a).dep = a.dep + 1 := rfl
  obtain ⟨d, hdd⟩ : ∃ d, a.dep + 1 = d := ⟨_, rfl⟩
  unfold NdV
  simp only [Nd.tm]
  rw [hd, hdd]
  have hdd' : (Nd.un ⟨(kk : Int), n, s⟩ a).dep = d := hdd
  simp only [Nd.tm] at hw0
  rw [hdd'] at hw0
  have HW := Lib.hid hw0
  clear hw0
  clear hB hG hl hl' ih hf HTX hd
  go_enter Tryd.func35, Tryd.ntmps35
  go_wp2_with fail
  refine (WW.out _ _ ⟨#[40]⟩ HW.out (by have := HL.out; rw [show (⟨#[40]⟩ : BA).size = 1 from rfl]; omega)).mono ?_
  rintro e w1 ⟨rfl, hv⟩
  have N1 := Lib.hid hv
  obtain ⟨q0, q1, q2, q3, q4⟩ := node_cells N1.out.box
  simp only [Nd.tm] at q0 q1 q2
  rw [hdd'] at q4
  clear hv HW
  go_wp2_with fail
  refine wp_loop_rounds 1 ?_
  rw [rounds_succ]
  have o1 := HG.out _ N1.out.bel
  go_wp2_with fail
  refine (WW.out _ _ sg N1.out (by have := HL.out; simp only [List.length_append, List.length_cons, List.length_nil, Array.length_toList, show (⟨#[40]⟩ : BA).data.size = 1 from rfl]; omega)).mono ?_
  rintro e w2 ⟨rfl, hv⟩
  have N2 := Lib.hid hv
  obtain ⟨q0, q1, q2, q3, q4⟩ := node_cells N2.out.box
  obtain ⟨f0, f1, f2, f3, f4⟩ := five0 (HF.out _ N2.out.bel)
  simp only [Nd.tm] at q0 q1 q2
  rw [hdd'] at q4
  clear hv N1 o1
  go_wp2_with fail
  refine (IH.out _ _ N2.out.bel N2.out.bld (by have := N2.out.size; omega) (by have := HL.out; simp only [List.length_append, List.length_cons, List.length_nil, Array.length_toList, show (⟨#[40]⟩ : BA).data.size = 1 from rfl, show sg.data.size = sg.size from rfl]; omega)).mono ?_
  rintro e w3 ⟨rfl, h1, h2, h3⟩
  have N3 := Lib.hid (N2.out.go hBw h1 h2 h3)
  obtain ⟨q0, q1, q2, q3, q4⟩ := node_cells N3.out.box
  simp only [Nd.tm] at q0 q1 q2
  rw [hdd'] at q4
  clear h1 h2 h3 N2
  go_wp2_with fail
  refine (WW.out _ _ ⟨#[41]⟩ N3.out (by have := HL.out; simp only [List.length_append, List.length_cons, List.length_nil, Array.length_toList, show (⟨#[40]⟩ : BA).data.size = 1 from rfl, show sg.data.size = sg.size from rfl, show a.text.data.size = a.text.size from rfl, show (⟨#[41]⟩ : BA).size = 1 from rfl]; omega)).mono ?_
  rintro e w4 ⟨rfl, hv⟩
  have N4 := Lib.hid hv
  clear hv N3
  go_wp2_with fail
  refine bodyPost_end (results_none rfl _ _ _) rfl ?_
  refine ⟨rfl, ?_, N4.out.bel, N4.out.kept⟩
  have := N4.out.bld
  simpa [ByteArray.data_append, List.append_assoc] using this
set_option maxRecDepth 100000 in
set_option maxHeartbeats 8000000 in
theorem write_bi (t : Tm) (a b : Nd) (av bv : Value) (ao : Option Addr) (am ac : Nat) (bo : Option Addr) (bm bc : Nat) (g c : Nat) (B : Nat) (l : Bs) (w : World) (hG : GoodE w) (hk : 3 ≤ t.k ∧ t.k ≤ 14) (hc : 2 ≤ c) (hg : g < B) (hf : Five w g 0 a av) (hf' : Five w g 5 b bv) (hav : av = .slice ao am ac) (hbv : bv = .slice bo bm bc) (hB : Bld B B l w) (hB4 : 4 ≤ B) (hBw : B < w.heap.size) (hl : l.length + (Nd.bi t a b).text.size ≤ 140737488355328)
    (ih : ∀ (V : World) (l' : Bs), Below B w V → Bld B B l' V → B < V.heap.size → l'.length + a.text.size ≤ 140737488355328 → Calls Tryd.prog 35 #[NdV a av, .pointer (some ⟨B, 0, none⟩)] V fun e w' => WroteP B (l' ++ a.text.data.toList) V e w')
    (ih' : ∀ (V : World) (l' : Bs), Below B w V → Bld B B l' V → B < V.heap.size → l'.length + b.text.size ≤ 140737488355328 → Calls Tryd.prog 35 #[NdV b bv, .pointer (some ⟨B, 0, none⟩)] V fun e w' => WroteP B (l' ++ b.text.data.toList) V e w') :
    Calls Tryd.prog 35 #[NdV (.bi t a b) (.slice (some ⟨g, 0, none⟩) 2 c), .pointer (some ⟨B, 0, none⟩)] w fun e w' => WroteP B (l ++ (Nd.bi t a b).text.data.toList) w e w' := by
  subst hav
  subst hbv
  obtain ⟨k, n, s⟩ := t
  obtain ⟨kk, rfl⟩ : ∃ kk : Nat, k = (kk : Int) := ⟨k.toNat, by simp only at hk; omega⟩
  simp only at hk
  have hi0 : (0 : Int) ≤ (kk : Int) := by omega
  have hi1 : (kk : Int) < 15 := by omega
  have hsg := signB_size kk
  have HTX : (Nd.bi ⟨(kk : Int), n, s⟩ a b).text = ⟨#[40]⟩ ++ a.text ++ signB kk ++ b.text ++ ⟨#[41]⟩ := rfl
  rw [HTX] at hl ⊢
  have HG := Lib.hid (fun V (hb : Below B w V) => ((hG.keep hB4 hb).ops kk (by omega)).2.1)
  have HF := Lib.hid (fun V (hb : Below B w V) => Five.far hb hg hf)
  have HF' := Lib.hid (fun V (hb : Below B w V) => Five.far hb hg hf')
  have IH := Lib.hid ih
  have IH' := Lib.hid ih'
  generalize signB kk = sg at *
  have hl' : l.length + (1 + a.text.size + sg.size + b.text.size + 1) ≤ 140737488355328 := by
    have e1 : (⟨#[40]⟩ : BA).size = 1 := rfl
    have e2 : (⟨#[41]⟩ : BA).size = 1 := rfl
    rw [ByteArray.size_append, ByteArray.size_append, ByteArray.size_append, ByteArray.size_append, e1, e2] at hl
    exact hl
  have HL := Lib.hid hl'
  have hw0 := wt_new (n := .bi ⟨(kk : Int), n, s⟩ a b) (v := .slice (some ⟨g, 0, none⟩) 2 c) hB hBw
  have WW := Lib.hid (fun (V : World) (l' : Bs) (s' : BA) (h : WT w (.bi ⟨(kk : Int), n, s⟩ a b) (.slice (some ⟨g, 0, none⟩) 2 c) B l' V) hq => h.write hBw s' hq)
  have hd : (Nd.bi ⟨(kk : Int), n, s⟩ a b).dep = max (a.dep + 1) (b.dep + 1) := rfl
  obtain ⟨d, hdd⟩ : ∃ d, max (a.dep + 1) (b.dep + 1) = d := ⟨_, rfl⟩
  unfold NdV
  simp only [Nd.tm]
  rw [hd, hdd]
  have hdd' : (Nd.bi ⟨(kk : Int), n, s⟩ a b).dep = d := hdd
  simp only [Nd.tm] at hw0
  rw [hdd'] at hw0
  have HW := Lib.hid hw0
  clear hw0
  clear hB hG hl hl' ih ih' hf hf' HTX hd
  go_enter Tryd.func35, Tryd.ntmps35
  go_wp2_with fail
  refine (WW.out _ _ ⟨#[40]⟩ HW.out (by have := HL.out; rw [show (⟨#[40]⟩ : BA).size = 1 from rfl]; omega)).mono ?_
  rintro e w1 ⟨rfl, hv⟩
  have N1 := Lib.hid hv
  obtain ⟨q0, q1, q2, q3, q4⟩ := node_cells N1.out.box
  simp only [Nd.tm] at q0 q1 q2
  rw [hdd'] at q4
  obtain ⟨f0, f1, f2, f3, f4⟩ := five0 (HF.out _ N1.out.bel)
  clear hv HW
  go_wp2_with fail
  refine wp_loop_rounds 2 ?_
  rw [rounds_succ]
  go_wp2_with fail
  have N1' := Lib.hid (N1.out.thn hBw (below1 w1 (NdO a.tm.k a.tm.n a.tm.s (.slice ao am ac) (a.dep : Int))))
  refine (IH.out _ _ N1'.out.bel N1'.out.bld (by have := N1'.out.size; omega) (by have := HL.out; simp only [List.length_append, List.length_cons, List.length_nil, Array.length_toList, show (⟨#[40]⟩ : BA).data.size = 1 from rfl, show sg.data.size = sg.size from rfl, show a.text.data.size = a.text.size from rfl, show b.text.data.size = b.text.size from rfl, show (⟨#[41]⟩ : BA).size = 1 from rfl, show (⟨#[40]⟩ : BA).size = 1 from rfl]; omega)).mono ?_
  rintro e w3 ⟨rfl, h1, h2, h3⟩
  have N3 := Lib.hid (N1'.out.go hBw h1 h2 h3)
  obtain ⟨q0, q1, q2, q3, q4⟩ := node_cells N3.out.box
  simp only [Nd.tm] at q0 q1 q2
  rw [hdd'] at q4
  have o1 := HG.out _ N3.out.bel
  clear h1 h2 h3 N1 N1'
  go_wp2_with fail
  rw [rounds_succ]
  go_wp2_with fail
  refine (WW.out _ _ sg N3.out (by have := HL.out; simp only [List.length_append, List.length_cons, List.length_nil, Array.length_toList, show (⟨#[40]⟩ : BA).data.size = 1 from rfl, show sg.data.size = sg.size from rfl, show a.text.data.size = a.text.size from rfl, show b.text.data.size = b.text.size from rfl, show (⟨#[41]⟩ : BA).size = 1 from rfl, show (⟨#[40]⟩ : BA).size = 1 from rfl]; omega)).mono ?_
  rintro e w2 ⟨rfl, hv⟩
  have N2 := Lib.hid hv
  obtain ⟨q0, q1, q2, q3, q4⟩ := node_cells N2.out.box
  obtain ⟨f0, f1, f2, f3, f4⟩ := five5 (HF'.out _ N2.out.bel)
  simp only [Nd.tm] at q0 q1 q2
  rw [hdd'] at q4
  clear hv N3 o1
  go_wp2_with fail
  refine (IH'.out _ _ N2.out.bel N2.out.bld (by have := N2.out.size; omega) (by have := HL.out; simp only [List.length_append, List.length_cons, List.length_nil, Array.length_toList, show (⟨#[40]⟩ : BA).data.size = 1 from rfl, show sg.data.size = sg.size from rfl, show a.text.data.size = a.text.size from rfl, show b.text.data.size = b.text.size from rfl, show (⟨#[41]⟩ : BA).size = 1 from rfl, show (⟨#[40]⟩ : BA).size = 1 from rfl]; omega)).mono ?_
  rintro e w5 ⟨rfl, h1, h2, h3⟩
  have N3 := Lib.hid (N2.out.go hBw h1 h2 h3)
  obtain ⟨q0, q1, q2, q3, q4⟩ := node_cells N3.out.box
  simp only [Nd.tm] at q0 q1 q2
  rw [hdd'] at q4
  clear h1 h2 h3 N2
  go_wp2_with fail
  refine (WW.out _ _ ⟨#[41]⟩ N3.out (by have := HL.out; simp only [List.length_append, List.length_cons, List.length_nil, Array.length_toList, show (⟨#[40]⟩ : BA).data.size = 1 from rfl, show sg.data.size = sg.size from rfl, show a.text.data.size = a.text.size from rfl, show b.text.data.size = b.text.size from rfl, show (⟨#[41]⟩ : BA).size = 1 from rfl, show (⟨#[40]⟩ : BA).size = 1 from rfl]; omega)).mono ?_
  rintro e w4 ⟨rfl, hv⟩
  have N4 := Lib.hid hv
  clear hv N3
  go_wp2_with fail
  refine bodyPost_end (results_none rfl _ _ _) rfl ?_
  refine ⟨rfl, ?_, N4.out.bel, N4.out.kept⟩
  have := N4.out.bld
  simpa [ByteArray.data_append, List.append_assoc] using this
theorem nd_slice {P : Nat → Prop} {W : World} : ∀ {n : Nd} {v : Value}, NdAt P W n v → ∃ ao m c, v = .slice ao m c
  | .lf _, v, h => ⟨_, _, _, h⟩
  | .un _ _, v, ⟨_, _, _, h, _⟩ => ⟨_, _, _, h⟩
  | .bi _ _ _, v, ⟨_, _, _, _, h, _⟩ => ⟨_, _, _, h⟩
theorem write_any (P : Nat → Prop) (B : Nat) (hP : ∀ g, P g → g < B) (hB4 : 4 ≤ B) : ∀ (n : Nd) (v : Value) (l : Bs) (w : World), GoodE w → BruAt w → OkN n → NdAt P w n v → Bld B B l w → B < w.heap.size → l.length + n.text.size ≤ 140737488355328 →
    Calls Tryd.prog 35 #[NdV n v, .pointer (some ⟨B, 0, none⟩)] w fun e w' => WroteP B (l ++ n.text.data.toList) w e w'
  | .lf t, v, l, w, hG, hb, hk, hN, hB, hBw, hl => by
    have hv : v = ZN := hN
    subst hv
    exact write_lf t B l w hG hb hk hB hBw hl
  | .un t a, v, l, w, hG, hb, hk, ⟨g, c, av, h1, h2, h3, h4, h5⟩, hB, hBw, hl => by
    obtain ⟨ao, am, ac, hav⟩ := nd_slice h5
    subst h1
    exact write_un t a av ao am ac g c B l w hG hk.1 h2 (hP g h3) h4 hav hB hB4 hBw hl (fun V l' hbl hB' hBV hl' => write_any P B hP hB4 a av l' V (hG.keep hB4 hbl) (hb.far hbl hB4) hk.2 (NdAt.keep (fun g h => h) (fun g h => hbl.block g (hP g h)) h5) hB' hBV hl')
  | .bi t a b, v, l, w, hG, hb, hk, ⟨g, c, av, bv, h1, h2, h3, h4, h5, h6, h7⟩, hB, hBw, hl => by
    obtain ⟨ao, am, ac, hav⟩ := nd_slice h6
    obtain ⟨bo, bm, bc, hbv⟩ := nd_slice h7
    subst h1
    exact write_bi t a b av bv ao am ac bo bm bc g c B l w hG hk.1 h2 (hP g h3) h4 h5 hav hbv hB hB4 hBw hl (fun V l' hbl hB' hBV hl' => write_any P B hP hB4 a av l' V (hG.keep hB4 hbl) (hb.far hbl hB4) hk.2.1 (NdAt.keep (fun g h => h) (fun g h => hbl.block g (hP g h)) h6) hB' hBV hl') (fun V l' hbl hB' hBV hl' => write_any P B hP hB4 b bv l' V (hG.keep hB4 hbl) (hb.far hbl hB4) hk.2.2 (NdAt.keep (fun g h => h) (fun g h => hbl.block g (hP g h)) h7) hB' hBV hl')
end Go.Proofs.YtdkflmpdelfgoaaDoor
namespace Go.Proofs.YtdkflmpdelfgoaaDoor
open Go.RowKit Go.Shelf
set_option linter.unusedVariables false
set_option linter.unusedSimpArgs false

def pt (n : Nd) : PT := (n.text, (n.dep : Int))
theorem takes_may {t : Tm} (hm : mayB t = true) : (takesN t.k = 0 ∧ (t.k = 1 ∨ t.k = 2)) ∨ (takesN t.k = 1 ∧ 3 ≤ t.k ∧ t.k ≤ 4) ∨ (takesN t.k = 2 ∧ 5 ≤ t.k ∧ t.k ≤ 14) := by
  obtain ⟨kn, h1, h2, h3⟩ := mayB_k hm
  unfold takesN
  by_cases h5 : 5 ≤ t.k
  · rw [if_pos ⟨h5, by omega⟩]; exact .inr (.inr ⟨rfl, h5, by omega⟩)
  · rw [if_neg (by omega)]
    by_cases h4 : 3 ≤ t.k
    · rw [if_pos ⟨h4, by omega⟩]; exact .inr (.inl ⟨rfl, h4, by omega⟩)
    · rw [if_neg (by omega)]; exact .inl ⟨rfl, by omega⟩
theorem mk_pt {t : Tm} (hm : mayB t = true) {A : List Nd} (hl : A.length = takesN t.k) : nodeT t (A.map pt) = pt (mkN t A) := by
  rcases takes_may hm with ⟨h, hk⟩ | ⟨h, hk⟩ | ⟨h, hk⟩
  · rw [h] at hl
    obtain rfl := List.length_eq_zero_iff.1 hl
    unfold nodeT mkN pt Nd.text Nd.dep leafB
    rcases hk with hk | hk
    · rw [if_pos hk, if_neg (by omega)]; rfl
    · rw [if_neg (by omega), if_pos hk, if_pos hk]; rfl
  · rw [h] at hl
    obtain ⟨a, rfl⟩ := List.length_eq_one_iff.1 hl
    unfold nodeT
    rw [if_neg (by omega), if_neg (by omega)]
    rfl
  · rw [h] at hl
    match A, hl with
    | [a, b], _ =>
      unfold nodeT
      rw [if_neg (by omega), if_neg (by omega)]
      show _ = (_, ((max (a.dep + 1) (b.dep + 1) : Nat) : Int))
      have : max (pt a).2 (pt b).2 + 1 = ((max (a.dep + 1) (b.dep + 1) : Nat) : Int) := by
        show max (a.dep : Int) (b.dep : Int) + 1 = _
        omega
      rw [← this]
      rfl
/-- one step of a check -/
theorem check_cons {t : Tm} {T : List Tm} {h n : Nat} (hc : checkF h (t :: T) = some n) : mayB t = true ∧ takesN t.k ≤ h ∧ checkF (h + 1 - takesN t.k) T = some n := by
  rw [checkF] at hc
  split at hc
  · rename_i hh; exact ⟨hh.1, hh.2, hc⟩
  · cases hc
theorem drop_len {α : Type} {st : List α} {k : Nat} (h : k ≤ st.length) : (st.drop (st.length - k)).length = k := by rw [List.length_drop]; omega
theorem next_len {α : Type} {st : List α} {k : Nat} (x : α) (h : k ≤ st.length) : (st.take (st.length - k) ++ [x]).length = st.length + 1 - k := by rw [List.length_append, List.length_take]; simp; omega
theorem fold_pt : ∀ (T : List Tm) (st st' : List Nd) (n : Nat), checkF st.length T = some n → foldN st T = some st' → textF (st.map pt) T = st'.map pt ∧ st'.length = n
  | [], st, st', n, hc, hf => by
    cases hf
    rw [checkF] at hc
    exact ⟨rfl, by simpa using hc⟩
  | t :: T, st, st', n, hc, hf => by
    obtain ⟨hm, hk, hc'⟩ := check_cons hc
    rw [foldN] at hf
    split at hf
    · have e := mk_pt hm (drop_len hk)
      rw [← next_len (mkN t (st.drop (st.length - takesN t.k))) hk] at hc'
      have := fold_pt T _ st' n hc' hf
      rw [textF, List.length_map, ← List.map_drop, e, ← List.map_take]
      rw [List.map_append] at this
      exact this
    · cases hf
theorem node_deep {t : Tm} (hm : mayB t = true) {A : List PT} (hl : A.length = takesN t.k) {p : PT} (hp : p ∈ A) (h : 64 < p.2) : 64 < (nodeT t A).2 := by
  rcases takes_may hm with ⟨ht, hk⟩ | ⟨ht, hk⟩ | ⟨ht, hk⟩
  · rw [ht] at hl
    rw [List.length_eq_zero_iff.1 hl] at hp
    cases hp
  · rw [ht] at hl
    obtain ⟨a, rfl⟩ := List.length_eq_one_iff.1 hl
    rw [List.mem_singleton] at hp
    subst hp
    unfold nodeT
    rw [if_neg (by omega), if_neg (by omega)]
    show 64 < p.2 + 1
    omega
  · rw [ht] at hl
    match A, hl with
    | [a, b], _ =>
      unfold nodeT
      rw [if_neg (by omega), if_neg (by omega)]
      show 64 < max a.2 b.2 + 1
      rcases List.mem_cons.1 hp with rfl | hp
      · omega
      · rw [List.mem_singleton] at hp; subst hp; omega
theorem text_deep : ∀ (T : List Tm) (st : List PT) (n : Nat), checkF st.length T = some n → (∃ p ∈ st, 64 < p.2) → ∃ p ∈ textF st T, 64 < p.2
  | [], st, n, hc, h => h
  | t :: T, st, n, hc, ⟨p, hp, h⟩ => by
    obtain ⟨hm, hk, hc'⟩ := check_cons hc
    rw [textF]
    refine text_deep T _ n (by rw [next_len _ hk]; exact hc') ?_
    rw [← List.take_append_drop (st.length - takesN t.k) st] at hp
    rcases List.mem_append.1 hp with hp | hp
    · exact ⟨p, List.mem_append_left _ hp, h⟩
    · exact ⟨_, List.mem_append_right _ (List.mem_singleton.2 rfl), node_deep hm (drop_len hk) hp h⟩
theorem fold_deep : ∀ (T : List Tm) (st : List Nd) (n : Nat), checkF st.length T = some n → foldN st T = none → ∃ p ∈ textF (st.map pt) T, 64 < p.2
  | [], st, n, hc, hf => by cases hf
  | t :: T, st, n, hc, hf => by
    obtain ⟨hm, hk, hc'⟩ := check_cons hc
    have e := mk_pt hm (drop_len hk)
    rw [← next_len (mkN t (st.drop (st.length - takesN t.k))) hk] at hc'
    rw [textF, List.length_map, ← List.map_drop, e, ← List.map_take]
    rw [foldN] at hf
    split at hf
    · have := fold_deep T _ n hc' hf
      rw [List.map_append] at this
      exact this
    · rename_i hh
      refine text_deep T _ n ?_ ⟨_, List.mem_append_right _ (List.mem_singleton.2 rfl), ?_⟩
      · rw [← hc', List.length_append, List.length_append, List.length_map]; rfl
      · show (64 : Int) < ((mkN t (st.drop (st.length - takesN t.k))).dep : Int)
        omega
theorem text_len : ∀ (T : List Tm) (st : List PT) (n : Nat), checkF st.length T = some n → (textF st T).length = n
  | [], st, n, hc => by rw [checkF] at hc; rw [textF]; simpa using hc
  | t :: T, st, n, hc => by
    obtain ⟨hm, hk, hc'⟩ := check_cons hc
    rw [textF]
    exact text_len T _ n (by rw [next_len _ hk]; exact hc')
theorem text_size : ∀ (T : List Tm) (st : List PT) (n : Nat), checkF st.length T = some n → (∀ x ∈ T, InB x.n) → ptSum (textF st T) ≤ ptSum st + 520 * T.length
  | [], st, n, hc, hI => by rw [textF]; omega
  | t :: T, st, n, hc, hI => by
    obtain ⟨hm, hk, hc'⟩ := check_cons hc
    rw [textF]
    have h1 := text_size T (st.take (st.length - takesN t.k) ++ [nodeT t (st.drop (st.length - takesN t.k))]) n (by rw [next_len _ hk]; exact hc') (fun x hx => hI x (List.mem_cons_of_mem _ hx))
    have h2 := node_size (a := st.drop (st.length - takesN t.k)) hm (hI t (by simp)).2
    have h3 := ptSum_cut st (st.length - takesN t.k)
    rw [ptSum_app] at h1
    have h4 : ∀ r : PT, ptSum [r] = r.1.size := fun r => by simp [ptSum]
    rw [h4] at h1
    rw [List.length_cons]
    omega
theorem mk_ok {t : Tm} (hm : mayB t = true) (hI : InB t.n) {A : List Nd} (hl : A.length = takesN t.k) (hA : ∀ x ∈ A, OkN x) : OkN (mkN t A) := by
  rcases takes_may hm with ⟨h, hk⟩ | ⟨h, hk⟩ | ⟨h, hk⟩
  · rw [h] at hl
    obtain rfl := List.length_eq_zero_iff.1 hl
    exact hI
  · rw [h] at hl
    obtain ⟨a, rfl⟩ := List.length_eq_one_iff.1 hl
    exact ⟨⟨by omega, by omega⟩, hA a (by simp)⟩
  · rw [h] at hl
    match A, hl with
    | [a, b], _ => exact ⟨⟨by omega, by omega⟩, hA a (by simp), hA b (by simp)⟩
theorem fold_ok : ∀ (T : List Tm) (st st' : List Nd) (n : Nat), checkF st.length T = some n → foldN st T = some st' → (∀ x ∈ T, InB x.n) → (∀ x ∈ st, OkN x) → ∀ x ∈ st', OkN x
  | [], st, st', n, hc, hf, hI, h => by cases hf; exact h
  | t :: T, st, st', n, hc, hf, hI, h => by
    obtain ⟨hm, hk, hc'⟩ := check_cons hc
    rw [foldN] at hf
    split at hf
    · refine fold_ok T _ st' n (by rw [next_len _ hk]; exact hc') hf (fun x hx => hI x (List.mem_cons_of_mem _ hx)) ?_
      intro x hx
      rcases List.mem_append.1 hx with hx | hx
      · exact h x (List.mem_of_mem_take hx)
      · rw [List.mem_singleton.1 hx]
        exact mk_ok hm (hI t (by simp)) (drop_len hk) (fun y hy => h y (List.mem_of_mem_drop hy))
    · cases hf
/-- the program's text and the document's -/
theorem root_some {T : List Tm} {x : Nd} (hc : checkT T = 0) (hI : ∀ x ∈ T, InB x.n) (hr : rootN T = some x) (h64 : x.dep ≤ 64) : docText T = (x.text, 0) ∧ OkN x ∧ x.text.size ≤ 133120 := by
  obtain ⟨h1, h2⟩ := checkT_ok hc
  unfold rootN at hr
  obtain ⟨l, hl, hx⟩ := Option.bind_eq_some_iff.1 hr
  obtain ⟨e, hn⟩ := fold_pt T [] l 1 h1 hl
  obtain ⟨y, rfl⟩ := List.length_eq_one_iff.1 hn
  have hyx : y = x := by simpa using hx
  subst hyx
  replace e : textF [] T = [pt y] := e
  have hs := text_size T [] 1 h1 hI
  rw [e] at hs
  have h4 : ptSum [pt y] = y.text.size := by simp [ptSum, pt]
  have h5 : ptSum ([] : List PT) = 0 := rfl
  rw [h4, h5] at hs
  refine ⟨?_, fold_ok T [] [y] 1 h1 hl hI (fun x hx => by cases hx) y (by simp), by omega⟩
  unfold docText
  rw [if_pos hc, e]
  show docTextR (pt y) = _
  unfold docTextR
  rw [if_neg (by show ¬ (64 : Int) < (y.dep : Int); omega)]
  rfl
theorem root_none {T : List Tm} (hc : checkT T = 0) (hr : rootN T = none) : docText T = (E0, 93) := by
  obtain ⟨h1, h2⟩ := checkT_ok hc
  cases hl : foldN [] T with
  | none =>
    obtain ⟨p, hp, h⟩ := fold_deep T [] 1 h1 hl
    replace hp : p ∈ textF [] T := hp
    have hn := text_len T [] 1 h1
    obtain ⟨q, hq⟩ := List.length_eq_one_iff.1 hn
    rw [hq] at hp
    rw [List.mem_singleton] at hp
    subst hp
    unfold docText
    rw [if_pos hc, hq]
    show docTextR p = _
    unfold docTextR
    rw [if_pos h]
  | some l =>
    obtain ⟨-, hn⟩ := fold_pt T [] l 1 h1 hl
    obtain ⟨y, rfl⟩ := List.length_eq_one_iff.1 hn
    unfold rootN at hr
    rw [hl] at hr
    cases hr
end Go.Proofs.YtdkflmpdelfgoaaDoor
namespace Go.Proofs.YtdkflmpdelfgoaaDoor
open Go.RowKit Go.Shelf
set_option linter.unusedVariables false
set_option linter.unusedSimpArgs false
attribute [local go_sem] Oper.semAt_some

set_option maxRecDepth 100000 in
set_option maxHeartbeats 8000000 in
theorem ptext_any (v : Value) (T : List Tm) (w : World) (hG : GoodE w) (hb : BruAt w) (h : TriO tmF w v T) (hl : T.length ≤ 281474976710656) (hs : ∀ x ∈ T, x.s.size ≤ maxLen) (hI : ∀ x ∈ T, InB x.n) :
    Calls Tryd.prog 11 #[v] w fun e w' => e = .returned (TV (docText T)) ∧ Below w.heap.size w w' := by
  have CK := Lib.hid (check_any v T w hG h hl hs)
  obtain ⟨A, c, rfl⟩ := tri_slice h
  by_cases hc : checkT T = 0
  · obtain ⟨hcf, hl256⟩ := checkT_ok hc
    have NF := Lib.hid (fun V (hb : Below w.heap.size w V) => nfold_any (.slice A T.length c) T V (hG.thn hb) (h.keep hb) hl256 hcf)
    have HG := Lib.hid (fun V (hb : Below w.heap.size w V) => hG.thn hb)
    have HB := Lib.hid (fun V (hb' : Below w.heap.size w V) => (show BruAt V from cell_kept hb' hb))
    have RS := Lib.hid (fun x (hr : rootN T = some x) h64 => root_some hc hI hr h64)
    have RN := Lib.hid (fun (hr : rootN T = none) => root_none hc hr)
    have hG4 := hG.size
    rw [hc] at CK
    clear hc hcf hl256 hs hl hI h hG hb
    go_enter Tryd.func11, Tryd.ntmps11
    go_wp2_with fail
    refine CK.out.mono ?_
    rintro e w1 ⟨rfl, hb1⟩
    have HB1 := Lib.hid hb1
    clear hb1
    go_wp2_with fail
    refine (NF.out _ HB1.out).mono ?_
    rintro e w2 ⟨hF, hb2⟩
    have HB2 := Lib.hid (Below.thn HB1.out HB1.out.size hb2)
    clear hb2
    unfold FoldP at hF
    cases hr : rootN T with
    | none =>
      rw [hr] at hF
      subst hF
      have R := Lib.hid (RN.out hr)
      clear hr
      unfold QV
      go_wp2_with fail
      go_ret2
      exact ⟨by rw [R.out]; rfl, HB2.out.alloc HB2.out.size _⟩
    | some X =>
      rw [hr] at hF
      obtain ⟨ao, am, ac, rfl, hN, h64⟩ := hF
      obtain ⟨hdt, hok, hsz⟩ := RS.out X hr h64
      have hq : nq X = ⟨X.tm.k, X.tm.n, X.tm.s, (X.dep : Int), 0⟩ := by unfold nq; rw [if_pos h64]
      rw [hq]
      have R := Lib.hid hdt
      have HSZ := Lib.hid hsz
      have HN := Lib.hid hN
      have HOK := Lib.hid hok
      clear hr hdt hsz hN h64 hq hok
      unfold QV
      go_wp2_with fail
      obtain ⟨-, -, n3, n4⟩ := two_new w2 (NdO X.tm.k X.tm.n X.tm.s (.slice ao am ac) (X.dep : Int)) (.cells #[.pointer none, .slice none 0 0] 72)
      have hbl := bld_new (w2.alloc (NdO X.tm.k X.tm.n X.tm.s (.slice ao am ac) (X.dep : Int)))
      rw [show (w2.alloc (NdO X.tm.k X.tm.n X.tm.s (.slice ao am ac) (X.dep : Int))).heap.size = w2.heap.size + 1 by simp] at hbl
      generalize (w2.alloc (NdO X.tm.k X.tm.n X.tm.s (.slice ao am ac) (X.dep : Int))).alloc (.cells #[.pointer none, .slice none 0 0] 72) = W3 at *
      have hb3 : Below w.heap.size w W3 := Below.thn HB2.out HB2.out.size n3
      have hz2 := HB2.out.size
      have HB3 := Lib.hid hb3
      refine (write_any (fun g => g < w2.heap.size) (w2.heap.size + 1) (fun g hg => by omega) (by omega) X (.slice ao am ac) [] W3 (HG.out _ hb3) (HB.out _ hb3) HOK.out (NdAt.keep (fun g hg => hg) (fun g hg => n3.block g hg) HN.out) hbl (by omega) (by have := HSZ.out; simp only [List.length_nil]; omega)).mono ?_
      rintro e w4 ⟨rfl, h1, h2, h3⟩
      have H1 := Lib.hid h1
      have HB4 := Lib.hid (HB3.out.trans (h2.mono (by omega)))
      have hz4 := h2.size
      clear h1 h2 h3 hbl hb3 n3
      go_wp2_with fail
      refine (Tryd.Builder_String_any_k (w2.heap.size + 1) (w2.heap.size + 1) _ _ H1.out (by omega)).mono ?_
      rintro e w5 ⟨rfl, -, hb, -⟩
      have HB5 := Lib.hid (HB4.out.trans (hb.mono (by omega)))
      clear hb
      go_wp2_with fail
      go_ret2
      exact ⟨by rw [R.out]; unfold TV; simp, HB5.out⟩
  · have HE := Lib.hid (show docText T = (E0, checkT T) by unfold docText; rw [if_neg hc])
    obtain ⟨q, hq⟩ : ∃ q, checkT T = q := ⟨_, rfl⟩
    rw [hq] at CK HE hc
    have hc' : (q != 0) = true := by rw [bne, beq_eq_false_iff_ne.2 hc]; rfl
    clear hq hc h hG hb hs hI hl
    go_enter Tryd.func11, Tryd.ntmps11
    go_wp2_with fail
    refine CK.out.mono ?_
    rintro e w1 ⟨rfl, hb1⟩
    have HB1 := Lib.hid hb1
    clear hb1
    go_wp2_with fail
    go_ret2
    exact ⟨by rw [HE.out]; rfl, HB1.out⟩
end Go.Proofs.YtdkflmpdelfgoaaDoor
