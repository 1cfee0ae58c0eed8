/-
  Arguments of the laws, opened: what they read as. Conditions: none.
-/
import Derived.Test.YtjkhgljlipljdaaDoorFixDoor
import Derived.Lib.SmallJoins
import Derived.ChangeMaps
import Derived.ChangeMaps5
import Derived.SizedLaws
import Derived.Deep.Slices
import Derived.OpenShut
import Derived.Handed
import Derived.JoinedOf
namespace Go.Proofs.YtjkhgljlipljdaaDoor
open Go.RowKit Go.ChangeShapes Go.WideShapes Go.Deep
set_option linter.unusedVariables false
set_option linter.unusedSimpArgs false

theorem list3 {α : Type} : ∀ {l : List α}, l.length = 3 → ∃ a b c, l = [a, b, c]
  | [a, b, c], _ => ⟨a, b, c, rfl⟩
theorem list4 {α : Type} : ∀ {l : List α}, l.length = 4 → ∃ a b c d, l = [a, b, c, d]
  | [a, b, c, d], _ => ⟨a, b, c, d, rfl⟩
theorem list5 {α : Type} : ∀ {l : List α}, l.length = 5 → ∃ a b c d e, l = [a, b, c, d, e]
  | [a, b, c, d, e], _ => ⟨a, b, c, d, e, rfl⟩
theorem list8 {α : Type} : ∀ {l : List α}, l.length = 8 → ∃ a b c d e f g h, l = [a, b, c, d, e, f, g, h]
  | [a, b, c, d, e, f, g, h], _ => ⟨a, b, c, d, e, f, g, h, rfl⟩
theorem weightsAll_mem {H : Type} {P : Program} {e : TypeId} : ∀ {l : List (DataW H)} {d : DataW H}, d ∈ l → ∀ n ∈ d.weights P e, n ∈ DataW.weightsAll P e l
  | x :: r, d, h, n, hn => by
    rw [DataW.weightsAll]
    rcases List.mem_cons.1 h with rfl | h
    · exact List.mem_append_left _ hn
    · exact List.mem_append_right _ (weightsAll_mem h n hn)
theorem add_plain (g o k : Nat) : (Addr.mk g o none).add k = ⟨g, o + k, none⟩ := by
  cases k <;> simp [Addr.add]
theorem choose_lt {α : Type} [Inhabited α] {p : Nat → α → Prop} {n : Nat} (h : ∀ i, i < n → ∃ a, p i a) : ∃ f : Nat → α, ∀ i, i < n → p i (f i) := by
  classical
  exact ⟨fun i => if hi : i < n then Classical.choose (h i hi) else default, fun i hi => by simp only [dif_pos hi]; exact Classical.choose_spec (h i hi)⟩
section
variable {H : Type} {enc : TypeId × Value → H} {w : World} {base : Nat} {spare : Nat → Bool} {held : Bool}
theorem rows_open {tS tE : TypeId} (hu : Tryd.prog.underlying tS = some (.slice tE)) {n : Nat} (hc : Tryd.prog.cellsOf tE = n) (hn : 0 < n) {α : Type} [Inhabited α] (f : α → List Value) (hf : ∀ a, (f a).length = n) (G : α → DataW H → Prop)
    (elem : ∀ {fuel : Nat} {cs : List Value} {x : DataW H × List MemPlace}, DataW.trod enc Tryd.prog w base spare held fuel tE cs = some x → ∃ a, cs = f a ∧ G a x.1)
    {fuel : Nat} {v : Value} {x : DataW H × List MemPlace} (h : DataW.trod enc Tryd.prog w base spare held fuel tS [v] = some x) :
    ∃ L : List α, RowsO n w v (L.map f) ∧ ∀ a ∈ L, ∃ d, G a d ∧ ∀ m ∈ d.weights Tryd.prog tE, m ∈ x.1.weights Tryd.prog tS := by
  rcases open_slice hu h with ⟨hcs, _⟩ | ⟨a, len, cap, m, fu, D, Pl, hcs, hb, hl, hm, hmm, hx, hi⟩
  · simp only [List.cons.injEq, and_true] at hcs
    subst hcs
    exact ⟨[], .inl ⟨.inl rfl, rfl⟩, fun y hy => by cases hy⟩
  · simp only [List.cons.injEq, and_true] at hcs
    subst hcs
    rw [hc] at hi
    rcases Nat.eq_zero_or_pos len with rfl | hp
    · exact ⟨[], .inl ⟨.inr ⟨a, cap, rfl⟩, rfl⟩, fun y hy => by cases hy⟩
    have hlm : len ≤ m := by rw [hmm]; split <;> omega
    have each : ∀ i, i < len → ∃ y : α, (∀ j v, (f y)[j]? = some v → w.cell? ((a.add (i * n)).add j) = some v) ∧ G y (D i) := by
      intro i hil
      obtain ⟨cs', h1, h2⟩ := hi i (by omega)
      obtain ⟨_, _, hat⟩ := World.cells?_some h1
      obtain ⟨y, rfl, hg⟩ := elem h2
      refine ⟨y, fun j v hj => ?_, hg⟩
      have hjn : j < (f y).length := (List.getElem?_eq_some_iff.1 hj).1
      rw [hat j (by first | exact hjn | (rw [hf] at hjn; exact hjn))]
      exact hj
    obtain ⟨F, hF⟩ := choose_lt (α := α) (p := fun i (y : α) => (∀ j v, (f y)[j]? = some v → w.cell? ((a.add (i * n)).add j) = some v) ∧ G y (D i)) each
    obtain ⟨g, off, spot⟩ := a
    obtain ⟨v0, hv0⟩ : ∃ v0, (f (F 0))[0]? = some v0 := ⟨_, List.getElem?_eq_getElem (by rw [hf]; exact hn)⟩
    have h0 := (hF 0 hp).1 0 v0 hv0
    have hspot : spot = none := by simpa [Addr.add] using World.cell?_spot h0
    subst hspot
    have hlen : (((List.range len).map F).map f).length = len := by simp
    refine ⟨(List.range len).map F, .inr ⟨g, off, cap, by rw [hlen], by rw [hlen]; exact hl, hm, ?_, ?_⟩, ?_⟩
    · have := World.block_lt_of_cell? w _ h0
      simpa [Addr.add] using this
    · intro k y hy j v hj
      rw [List.getElem?_map, List.getElem?_map] at hy
      rcases Nat.lt_or_ge k len with hk | hk
      · rw [List.getElem?_range hk] at hy
        cases hy
        have := (hF k hk).1 j v hj
        rw [add_plain, add_plain] at this
        exact this
      · rw [List.getElem?_eq_none (by simpa using hk)] at hy; cases hy
    · intro y hy
      obtain ⟨i, hil, rfl⟩ := List.mem_map.1 hy
      have hil' := List.mem_range.1 hil
      refine ⟨D i, (hF i hil').2, fun q hq => ?_⟩
      rw [hx]
      simp only [DataW.weights, hu]
      exact List.mem_cons_of_mem _ (List.mem_append_left _ (weightsAll_mem (List.mem_map.2 ⟨i, hil, rfl⟩) _ hq))
theorem in64_wf {v : Int} (h : (Lit.int .i64 v).wf = true) : in64 v := by
  simp [Lit.wf, IntKind.min, IntKind.max, IntKind.bits, IntKind.signed] at h; unfold in64; omega
theorem k_str : Tryd.prog.cellsOf 9 = 1 := by kernel_rfl
theorem k_bool : Tryd.prog.cellsOf 4 = 1 := by kernel_rfl
theorem k_vl : Tryd.prog.cellsOf 23 = 3 := by kernel_rfl
theorem k_hl : Tryd.prog.cellsOf 25 = 5 := by kernel_rfl
theorem k_sy : Tryd.prog.cellsOf 67 = 4 := by kernel_rfl
theorem k_sys : Tryd.prog.cellsOf 42 = 1 := by kernel_rfl
theorem k_cs : Tryd.prog.cellsOf 44 = 8 := by kernel_rfl
instance : Inhabited Sy := ⟨⟨⟨#[]⟩, 0, 0, false⟩⟩
theorem vl_elem {fuel : Nat} {cs : List Value} {x : DataW H × List MemPlace} (h : DataW.trod enc Tryd.prog w base spare held fuel 23 cs = some x) :
    ∃ (a : Int) (p m : BA), cs = [.int .i64 a, .string p, .string m] ∧ in64 a := by
  obtain ⟨xs, n, _, hx, hl, hlen, hf⟩ := DataW.trod_struct Tryd.underlying23 h
  rw [k_vl] at hl
  obtain ⟨c0, c1, c2, rfl⟩ := list3 hl
  obtain ⟨y0, y1, y2, rfl⟩ := list3 hlen
  have f0 : DataW.trod enc Tryd.prog w base spare held n 2 (List.take (Tryd.prog.cellsOf 2) (List.drop 0 [c0, c1, c2])) = some y0 := hf 0 _ rfl
  have f1 : DataW.trod enc Tryd.prog w base spare held n 9 (List.take (Tryd.prog.cellsOf 9) (List.drop 1 [c0, c1, c2])) = some y1 := hf 1 _ rfl
  have f2 : DataW.trod enc Tryd.prog w base spare held n 9 (List.take (Tryd.prog.cellsOf 9) (List.drop 2 [c0, c1, c2])) = some y2 := hf 2 _ rfl
  rw [cI64] at f0
  rw [k_str] at f1 f2
  obtain ⟨a, e0, _, hw⟩ := DataW.trod_int Tryd.underlying2 f0
  obtain ⟨p, e1, _, _⟩ := DataW.trod_string Tryd.underlying9 f1
  obtain ⟨q, e2, _, _⟩ := DataW.trod_string Tryd.underlying9 f2
  simp only [List.drop_succ_cons, List.drop_zero, List.take_succ_cons, List.take_zero, List.cons.injEq, and_true] at e0 e1 e2
  subst e0 e1 e2
  exact ⟨a, p, q, rfl, in64_wf hw⟩
theorem hl_elem {fuel : Nat} {cs : List Value} {x : DataW H × List MemPlace} (h : DataW.trod enc Tryd.prog w base spare held fuel 25 cs = some x) :
    ∃ g : Hl, cs = [.int .i64 g.k, .int .i64 g.s, .int .i64 g.a, .string g.p, .string g.m] ∧ in64 g.a := by
  obtain ⟨xs, n, _, hx, hl, hlen, hf⟩ := DataW.trod_struct Tryd.underlying25 h
  rw [k_hl] at hl
  obtain ⟨c0, c1, c2, c3, c4, rfl⟩ := list5 hl
  obtain ⟨y0, y1, y2, rfl⟩ := list3 hlen
  have f0 : DataW.trod enc Tryd.prog w base spare held n 3 (List.take (Tryd.prog.cellsOf 3) (List.drop 0 [c0, c1, c2, c3, c4])) = some y0 := hf 0 _ rfl
  have f1 : DataW.trod enc Tryd.prog w base spare held n 3 (List.take (Tryd.prog.cellsOf 3) (List.drop 1 [c0, c1, c2, c3, c4])) = some y1 := hf 1 _ rfl
  have f2 : DataW.trod enc Tryd.prog w base spare held n 23 (List.take (Tryd.prog.cellsOf 23) (List.drop 2 [c0, c1, c2, c3, c4])) = some y2 := hf 2 _ rfl
  rw [cInt] at f0 f1
  rw [k_vl] at f2
  obtain ⟨a, e0, _, _⟩ := DataW.trod_int Tryd.underlying3 f0
  obtain ⟨b, e1, _, _⟩ := DataW.trod_int Tryd.underlying3 f1
  obtain ⟨v, p, q, e2, hw⟩ := vl_elem f2
  simp only [List.drop_succ_cons, List.drop_zero, List.take_succ_cons, List.take_zero, List.cons.injEq, and_true] at e0 e1 e2
  obtain ⟨rfl, rfl, rfl⟩ := e2
  subst e0 e1
  exact ⟨⟨a, b, v, p, q⟩, rfl, hw⟩
theorem sy_elem {fuel : Nat} {cs : List Value} {x : DataW H × List MemPlace} (h : DataW.trod enc Tryd.prog w base spare held fuel 67 cs = some x) :
    ∃ y : Sy, cs = syC y ∧ in64 y.val := by
  obtain ⟨xs, m, _, hx, hl, hlen, hf⟩ := DataW.trod_struct Tryd.underlying67 h
  rw [k_sy] at hl
  obtain ⟨c0, c1, c2, c3, rfl⟩ := list4 hl
  obtain ⟨y0, y1, y2, y3, rfl⟩ := list4 hlen
  have f0 : DataW.trod enc Tryd.prog w base spare held m 9 (List.take (Tryd.prog.cellsOf 9) (List.drop 0 [c0, c1, c2, c3])) = some y0 := hf 0 _ rfl
  have f1 : DataW.trod enc Tryd.prog w base spare held m 3 (List.take (Tryd.prog.cellsOf 3) (List.drop 1 [c0, c1, c2, c3])) = some y1 := hf 1 _ rfl
  have f2 : DataW.trod enc Tryd.prog w base spare held m 2 (List.take (Tryd.prog.cellsOf 2) (List.drop 2 [c0, c1, c2, c3])) = some y2 := hf 2 _ rfl
  have f3 : DataW.trod enc Tryd.prog w base spare held m 4 (List.take (Tryd.prog.cellsOf 4) (List.drop 3 [c0, c1, c2, c3])) = some y3 := hf 3 _ rfl
  rw [k_str] at f0
  rw [cInt] at f1
  rw [cI64] at f2
  rw [k_bool] at f3
  obtain ⟨a, e0, _, _⟩ := DataW.trod_string Tryd.underlying9 f0
  obtain ⟨b, e1, _, _⟩ := DataW.trod_int Tryd.underlying3 f1
  obtain ⟨c, e2, _, hw⟩ := DataW.trod_int Tryd.underlying2 f2
  obtain ⟨d, e3, _⟩ := DataW.trod_bool Tryd.underlying4 f3
  simp only [List.drop_succ_cons, List.drop_zero, List.take_succ_cons, List.take_zero, List.cons.injEq, and_true] at e0 e1 e2 e3
  subst e0 e1 e2 e3
  exact ⟨⟨a, b, c, d⟩, rfl, in64_wf hw⟩
theorem syms_open {fuel : Nat} {v : Value} {x : DataW H × List MemPlace} (h : DataW.trod enc Tryd.prog w base spare held fuel 42 [v] = some x) : ∃ L : List Sy, SymsO w v L ∧ ∀ y ∈ L, in64 y.val := by
  obtain ⟨L, hL, hb⟩ := rows_open (n := 4) Tryd.underlying42 k_sy (by decide) syC (fun _ => rfl) (fun y _ => in64 y.val) (fun h => sy_elem h) h
  exact ⟨L, hL, fun y hy => (hb y hy).choose_spec.1⟩
def nuC (b : Int) : List Value := [.int .i64 b]
theorem i64_elem {fuel : Nat} {cs : List Value} {x : DataW H × List MemPlace} (h : DataW.trod enc Tryd.prog w base spare held fuel 2 cs = some x) : ∃ a : Int, cs = nuC a ∧ in64 a := by
  obtain ⟨a, e, _, hw⟩ := DataW.trod_int Tryd.underlying2 h
  exact ⟨a, e, in64_wf hw⟩
theorem i64s_open {fuel : Nat} {v : Value} {x : DataW H × List MemPlace} (h : DataW.trod enc Tryd.prog w base spare held fuel 63 [v] = some x) : ∃ L : List Int, RowsO 1 w v (L.map nuC) ∧ ∀ a ∈ L, in64 a := by
  obtain ⟨L, hL, hb⟩ := rows_open (n := 1) Tryd.underlying63 cI64 (by decide) nuC (fun _ => rfl) (fun a _ => in64 a) (fun h => i64_elem h) h
  exact ⟨L, hL, fun y hy => (hb y hy).choose_spec.1⟩
set_option maxRecDepth 100000 in
theorem hl_arg {b0 : Nat} {v : Value} {d : DataW H} {p : List MemPlace} (hv : Value.okWide Tryd.prog w .any b0 25 v) (h : DataW.Trod enc Tryd.prog w base spare held 25 v d p) :
    ∃ g : Hl, v = hlV g ∧ in64 g.a := by
  obtain ⟨cs, rfl, _⟩ := okWide_struct Tryd.underlying25 hv
  obtain ⟨fu, hf⟩ := h
  obtain ⟨g, hq, hw⟩ := hl_elem (x := (d, p)) (cs := cs.toList) (by simpa [Value.cells] using hf)
  refine ⟨g, ?_, hw⟩
  have e : cs = [Value.int .i64 g.k, .int .i64 g.s, .int .i64 g.a, .string g.p, .string g.m].toArray := by rw [← hq, Array.toArray_toList]
  rw [e]; rfl
set_option maxRecDepth 100000 in
theorem cs_arg {b0 : Nat} {v : Value} {d : DataW H} {p : List MemPlace} (hv : Value.okWide Tryd.prog w .any b0 44 v) (h : DataW.Trod enc Tryd.prog w base spare held 44 v d p) :
    ∃ (g : Hl) (sec off : Int) (sv : Value) (L : List Sy), v = csV g sec off sv ∧ in64 g.a ∧ in64 off ∧ in64 sec ∧ SymsO w sv L ∧ ∀ y ∈ L, in64 y.val := by
  obtain ⟨cs, rfl, _⟩ := okWide_struct Tryd.underlying44 hv
  obtain ⟨fu, hf0⟩ := h
  have hf1 : DataW.trod enc Tryd.prog w base spare held fu 44 cs.toList = some (d, p) := by simpa [Value.cells] using hf0
  obtain ⟨xs, m, _, hx, hl, hlen, hf⟩ := DataW.trod_struct Tryd.underlying44 hf1
  rw [k_cs] at hl
  obtain ⟨x0, x1, x2, x3, x4, x5, x6, x7, hcs⟩ := list8 hl
  obtain ⟨y0, y1, y2, y3, rfl⟩ := list4 hlen
  rw [hcs] at hf
  have f0 : DataW.trod enc Tryd.prog w base spare held m 25 (List.take (Tryd.prog.cellsOf 25) (List.drop 0 [x0, x1, x2, x3, x4, x5, x6, x7])) = some y0 := hf 0 _ rfl
  have f1 : DataW.trod enc Tryd.prog w base spare held m 3 (List.take (Tryd.prog.cellsOf 3) (List.drop 5 [x0, x1, x2, x3, x4, x5, x6, x7])) = some y1 := hf 1 _ rfl
  have f2 : DataW.trod enc Tryd.prog w base spare held m 2 (List.take (Tryd.prog.cellsOf 2) (List.drop 6 [x0, x1, x2, x3, x4, x5, x6, x7])) = some y2 := hf 2 _ rfl
  have f3 : DataW.trod enc Tryd.prog w base spare held m 42 (List.take (Tryd.prog.cellsOf 42) (List.drop 7 [x0, x1, x2, x3, x4, x5, x6, x7])) = some y3 := hf 3 _ rfl
  rw [k_hl] at f0
  rw [cInt] at f1
  rw [cI64] at f2
  rw [k_sys] at f3
  simp only [List.drop_succ_cons, List.drop_zero, List.take_succ_cons, List.take_zero] at f0 f1 f2 f3
  obtain ⟨g, e0, hw0⟩ := hl_elem f0
  obtain ⟨sec, e1, _, hw1⟩ := DataW.trod_int Tryd.underlying3 f1
  obtain ⟨off, e2, _, hw2⟩ := DataW.trod_int Tryd.underlying2 f2
  obtain ⟨L, hL, hLw⟩ := syms_open f3
  refine ⟨g, sec, off, x7, L, ?_, hw0, in64_wf hw2, in64_wf hw1, hL, hLw⟩
  simp only [List.cons.injEq, and_true] at e0 e1 e2
  obtain ⟨rfl, rfl, rfl, rfl, rfl⟩ := e0
  have : cs = #[.int .i64 g.k, .int .i64 g.s, .int .i64 g.a, .string g.p, .string g.m, .int .i64 sec, .int .i64 off, x7] := by
    rw [← Array.toArray_toList (xs := cs), hcs, e1, e2]
  rw [this]; rfl
end
end Go.Proofs.YtjkhgljlipljdaaDoor
