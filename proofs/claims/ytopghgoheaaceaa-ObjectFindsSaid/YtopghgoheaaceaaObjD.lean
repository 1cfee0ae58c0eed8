/-
  How an object lies in memory: slices of rows; a section's bytes and relocations. Of no call.
-/
import Derived.Test.YtopghgoheaaceaaObjB
import Derived.Test.YtopghgoheaaceaaObjC
namespace Go.Proofs.Ytopghgoheaaceaa
open Go.RowKit
set_option linter.unusedVariables false
set_option linter.unusedSimpArgs false

/-- a slice reads as rows of n cells each, wherever it lies -/
def RowsO (n : Nat) (W : World) (v : Value) (C : List (List Value)) : Prop :=
  ((v = .slice none 0 0 ∨ ∃ a c, v = .slice (some a) 0 c) ∧ C = []) ∨ ∃ g off cap, v = .slice (some ⟨g, off, none⟩) C.length cap ∧ C.length ≤ cap ∧ cap ≤ maxLen ∧ g < W.heap.size ∧
    ∀ (k : Nat) x, C[k]? = some x → ∀ (j : Nat) y, x[j]? = some y → W.cell? ⟨g, off + k * n + j, none⟩ = some y
theorem RowsO.keep {n : Nat} {W W' : World} {v : Value} {C : List (List Value)} (h : RowsO n W v C) (hb : Below W.heap.size W W') : RowsO n W' v C := by
  rcases h with h | ⟨g, off, cap, h1, hc, hcm, h2, h3⟩
  · exact .inl h
  · exact .inr ⟨g, off, cap, h1, hc, hcm, Nat.lt_of_lt_of_le h2 hb.size, fun k x hx j y hy => (hb.cell (p := ⟨g, off + k * n + j, none⟩) h2).trans (h3 k x hx j y hy)⟩
theorem RowsO.slice {n : Nat} {W : World} {v : Value} {C : List (List Value)} (h : RowsO n W v C) : ∃ a c, v = .slice a C.length c := by
  rcases h with ⟨h | ⟨a, c, h⟩, h0⟩ | ⟨g, off, cap, h, _⟩
  · exact ⟨_, _, by rw [h0]; exact h⟩
  · exact ⟨_, _, by rw [h0]; exact h⟩
  · exact ⟨_, _, h⟩
theorem RowsO.len {n : Nat} {W : World} {v : Value} {C : List (List Value)} (h : RowsO n W v C) : C.length ≤ maxLen := by
  rcases h with ⟨_, h0⟩ | ⟨g, off, cap, _, h1, h2, _⟩
  · rw [h0]; exact Nat.zero_le _
  · omega
theorem RowsO.at {n : Nat} {W : World} {v : Value} {C : List (List Value)} (h : RowsO n W v C) {k : Nat} {x : List Value} (hx : C[k]? = some x) :
    ∃ g off cap, v = .slice (some ⟨g, off, none⟩) C.length cap ∧ g < W.heap.size ∧ ∀ (j : Nat) y, x[j]? = some y → W.cell? ⟨g, off + k * n + j, none⟩ = some y := by
  rcases h with ⟨_, h0⟩ | ⟨g, off, cap, h, _, _, hg, hc⟩
  · rw [h0] at hx; cases hx
  · exact ⟨g, off, cap, h, hg, hc k x hx⟩

structure Rl where
  off : Int
  ty : Int
  sym : Int
  add : Int
deriving DecidableEq
structure Sc where
  name : BA
  kind : Int
  align : Int
  size : Int
  dv : Value
  rv : Value
  data : List Int
  rel : List Rl
structure Sy where
  name : BA
  sec : Int
  val : Int
  gl : Bool
def rlC (r : Rl) : List Value := [.int .i64 r.off, .int .i64 r.ty, .int .i64 r.sym, .int .i64 r.add]
def scC (s : Sc) : List Value := [.string s.name, .int .i64 s.kind, .int .i64 s.align, .int .i64 s.size, s.dv, s.rv]
def syC (y : Sy) : List Value := [.string y.name, .int .i64 y.sec, .int .i64 y.val, .bool y.gl]
def byC (b : Int) : List Value := [.int .u8 b]
def scV (s : Sc) : Value := .agg #[.string s.name, .int .i64 s.kind, .int .i64 s.align, .int .i64 s.size, s.dv, s.rv]
def syV (y : Sy) : Value := .agg #[.string y.name, .int .i64 y.sec, .int .i64 y.val, .bool y.gl]
def RelO (W : World) (v : Value) (L : List Rl) : Prop := RowsO 4 W v (L.map rlC)
def BytO (W : World) (v : Value) (L : List Int) : Prop := RowsO 1 W v (L.map byC)
/-- a section's inner slices -/
def ScIn (W : World) (s : Sc) : Prop := BytO W s.dv s.data ∧ RelO W s.rv s.rel
def SecsO (W : World) (v : Value) (L : List Sc) : Prop := RowsO 6 W v (L.map scC) ∧ ∀ s ∈ L, ScIn W s
def SymsO (W : World) (v : Value) (L : List Sy) : Prop := RowsO 4 W v (L.map syC)
structure Obj' where
  sv : Value
  yv : Value
  secs : List Sc
  syms : List Sy
def obV (o : Obj') : Value := .agg #[o.sv, o.yv]
def ObjO (W : World) (o : Obj') : Prop := SecsO W o.sv o.secs ∧ SymsO W o.yv o.syms
theorem ScIn.keep {W W' : World} {s : Sc} (h : ScIn W s) (hb : Below W.heap.size W W') : ScIn W' s := ⟨h.1.keep hb, h.2.keep hb⟩
theorem SecsO.keep {W W' : World} {v : Value} {L : List Sc} (h : SecsO W v L) (hb : Below W.heap.size W W') : SecsO W' v L := ⟨h.1.keep hb, fun s hs => (h.2 s hs).keep hb⟩
theorem SymsO.keep {W W' : World} {v : Value} {L : List Sy} (h : SymsO W v L) (hb : Below W.heap.size W W') : SymsO W' v L := RowsO.keep h hb
theorem RelO.keep {W W' : World} {v : Value} {L : List Rl} (h : RelO W v L) (hb : Below W.heap.size W W') : RelO W' v L := RowsO.keep h hb
theorem BytO.keep {W W' : World} {v : Value} {L : List Int} (h : BytO W v L) (hb : Below W.heap.size W W') : BytO W' v L := RowsO.keep h hb
theorem ObjO.keep {W W' : World} {o : Obj'} (h : ObjO W o) (hb : Below W.heap.size W W') : ObjO W' o := ⟨h.1.keep hb, h.2.keep hb⟩
theorem SecsO.slice {W : World} {v : Value} {L : List Sc} (h : SecsO W v L) : ∃ a c, v = .slice a L.length c := by
  obtain ⟨a, c, e⟩ := h.1.slice; exact ⟨a, c, by rw [e, List.length_map]⟩
theorem SymsO.slice {W : World} {v : Value} {L : List Sy} (h : SymsO W v L) : ∃ a c, v = .slice a L.length c := by
  obtain ⟨a, c, e⟩ := RowsO.slice h; exact ⟨a, c, by rw [e, List.length_map]⟩
theorem RelO.slice {W : World} {v : Value} {L : List Rl} (h : RelO W v L) : ∃ a c, v = .slice a L.length c := by
  obtain ⟨a, c, e⟩ := RowsO.slice h; exact ⟨a, c, by rw [e, List.length_map]⟩
theorem BytO.slice {W : World} {v : Value} {L : List Int} (h : BytO W v L) : ∃ a c, v = .slice a L.length c := by
  obtain ⟨a, c, e⟩ := RowsO.slice h; exact ⟨a, c, by rw [e, List.length_map]⟩
theorem SecsO.len {W : World} {v : Value} {L : List Sc} (h : SecsO W v L) : L.length ≤ maxLen := by have := h.1.len; rwa [List.length_map] at this
theorem SymsO.len {W : World} {v : Value} {L : List Sy} (h : SymsO W v L) : L.length ≤ maxLen := by have := RowsO.len h; rwa [List.length_map] at this
theorem RelO.len {W : World} {v : Value} {L : List Rl} (h : RelO W v L) : L.length ≤ maxLen := by have := RowsO.len h; rwa [List.length_map] at this
theorem SecsO.at {W : World} {v : Value} {L : List Sc} (h : SecsO W v L) {k : Nat} (hk : k < L.length) : ∃ g off cap s, L[k]? = some s ∧ v = .slice (some ⟨g, off, none⟩) L.length cap ∧ g < W.heap.size ∧ ScIn W s ∧
    W.cell? ⟨g, off + k * 6, none⟩ = some (.string s.name) ∧ W.cell? ⟨g, off + k * 6 + 1, none⟩ = some (.int .i64 s.kind) ∧ W.cell? ⟨g, off + k * 6 + 2, none⟩ = some (.int .i64 s.align) ∧ W.cell? ⟨g, off + k * 6 + 3, none⟩ = some (.int .i64 s.size) ∧ W.cell? ⟨g, off + k * 6 + 4, none⟩ = some s.dv ∧ W.cell? ⟨g, off + k * 6 + 5, none⟩ = some s.rv := by
  obtain ⟨s, hs⟩ : ∃ s, L[k]? = some s := ⟨_, List.getElem?_eq_getElem hk⟩
  obtain ⟨g, off, cap, e, hg, hc⟩ := h.1.at (k := k) (x := scC s) (by rw [List.getElem?_map, hs]; rfl)
  refine ⟨g, off, cap, s, hs, by rw [e, List.length_map], hg, h.2 s (List.mem_of_getElem? hs), ?_, ?_, ?_, ?_, ?_, ?_⟩
  · exact hc 0 _ rfl
  · exact hc 1 _ rfl
  · exact hc 2 _ rfl
  · exact hc 3 _ rfl
  · exact hc 4 _ rfl
  · exact hc 5 _ rfl
theorem SymsO.at {W : World} {v : Value} {L : List Sy} (h : SymsO W v L) {k : Nat} (hk : k < L.length) : ∃ g off cap y, L[k]? = some y ∧ v = .slice (some ⟨g, off, none⟩) L.length cap ∧ g < W.heap.size ∧
    W.cell? ⟨g, off + k * 4, none⟩ = some (.string y.name) ∧ W.cell? ⟨g, off + k * 4 + 1, none⟩ = some (.int .i64 y.sec) ∧ W.cell? ⟨g, off + k * 4 + 2, none⟩ = some (.int .i64 y.val) ∧ W.cell? ⟨g, off + k * 4 + 3, none⟩ = some (.bool y.gl) := by
  obtain ⟨s, hs⟩ : ∃ s, L[k]? = some s := ⟨_, List.getElem?_eq_getElem hk⟩
  obtain ⟨g, off, cap, e, hg, hc⟩ := RowsO.at h (k := k) (x := syC s) (by rw [List.getElem?_map, hs]; rfl)
  exact ⟨g, off, cap, s, hs, by rw [e, List.length_map], hg, hc 0 _ rfl, hc 1 _ rfl, hc 2 _ rfl, hc 3 _ rfl⟩
theorem RelO.at {W : World} {v : Value} {L : List Rl} (h : RelO W v L) {k : Nat} (hk : k < L.length) : ∃ g off cap y, L[k]? = some y ∧ v = .slice (some ⟨g, off, none⟩) L.length cap ∧ g < W.heap.size ∧
    W.cell? ⟨g, off + k * 4, none⟩ = some (.int .i64 y.off) ∧ W.cell? ⟨g, off + k * 4 + 1, none⟩ = some (.int .i64 y.ty) ∧ W.cell? ⟨g, off + k * 4 + 2, none⟩ = some (.int .i64 y.sym) ∧ W.cell? ⟨g, off + k * 4 + 3, none⟩ = some (.int .i64 y.add) := by
  obtain ⟨s, hs⟩ : ∃ s, L[k]? = some s := ⟨_, List.getElem?_eq_getElem hk⟩
  obtain ⟨g, off, cap, e, hg, hc⟩ := RowsO.at h (k := k) (x := rlC s) (by rw [List.getElem?_map, hs]; rfl)
  exact ⟨g, off, cap, s, hs, by rw [e, List.length_map], hg, hc 0 _ rfl, hc 1 _ rfl, hc 2 _ rfl, hc 3 _ rfl⟩

/-- a relocation that may not be, behind a place -/
def relBad (size m e : Int) (r : Rl) : Bool := (widthB r.ty == 0) || (decide (r.off < e) || (decide (size - widthB r.ty < r.off) || (!numOk r.sym m || (decide (273 ≤ r.ty) && (r.off.tmod 4 != 0)))))
/-- relocations from a place on -/
def relGo (size m : Int) : Int → List Rl → Bool
  | _, [] => true
  | e, r :: L => if relBad size m e r = true then false else relGo size m (r.off + widthB r.ty) L
/-- what a section's relocations may be -/
def relOk (s : Sc) (m : Int) : Bool := decide ((s.rel.length : Int) ≤ 4096) && (!((s.kind == 4) && decide (0 < (s.rel.length : Int))) && relGo s.size m 0 s.rel)
theorem relOk_e (s : Sc) (m : Int) : relOk s m = (decide ((s.rel.length : Int) ≤ 4096) && (!((s.kind == 4) && decide (0 < (s.rel.length : Int))) && relGo s.size m 0 s.rel)) := rfl
theorem cells_new (w : World) (cs : Array Value) (T : TypeId) (j : Nat) (v : Value) (h : cs[j]? = some v) : (w.alloc (.cells cs T)).cell? ⟨w.heap.size, j, none⟩ = some v := by
  rw [World.cell?_alloc_new]; exact h
def secAlone (s : Sc) : Bool := secName s.name && ((s.kind == kindB s.name) && (alignOk s.align && (decide (0 ≤ s.size) && (decide (s.size ≤ 1048576) && ((s.data.length : Int) == (if s.kind = 4 then 0 else s.size))))))
def secOk (s : Sc) (m : Int) : Bool := secAlone s && relOk s m
end Go.Proofs.Ytopghgoheaaceaa
