/-
  How a slice of fields, and a slice of numbers, that come in lie in memory.
-/
import Derived.Test.YtklibabeojpkhaaBitsR
import Derived.OpenShut
import Derived.Deep.Slices
import Derived.Deep.Fields
import Derived.ChangeSame
namespace Go.Proofs.Ytklibabeojpkhaa
open Go.ChangeShapes Go.WideShapes Go.ChangeAt Go.RowKit Go.Deep BM
set_option linter.unusedVariables false

theorem cell_lt {w : World} {a : Addr} {v : Value} (h : w.cell? a = some v) : a.block < w.heap.size := by
  by_cases g : a.block < w.heap.size
  · exact g
  · unfold World.cell? at h
    rw [show w.heap[a.block]? = none from Array.getElem?_eq_none (by omega)] at h
    exact absurd h (by simp)

/-- the number in a cell -/
def numAt (w : World) (b o : Nat) : Int := match w.cell? ⟨b, o, none⟩ with | some (.int _ x) => x | _ => 0

theorem add_at (b off n : Nat) : (⟨b, off, none⟩ : Addr).add n = ⟨b, off + n, none⟩ := by
  unfold Addr.add
  split
  · subst_vars; rfl
  · rfl
theorem flds_of {w : World} {a : Addr} {len : Nat} (h : ∀ i, i < len → (∃ x, w.cell? (a.add (i * 2 + 0)) = some (.int .i64 x)) ∧ (∃ x, w.cell? (a.add (i * 2 + 1)) = some (.int .i64 x))) :
    ∃ L N, Flds w (some a) len L N := by
  refine ⟨fun i => numAt w a.block (a.off + i * 2), fun i => numAt w a.block (a.off + i * 2 + 1), fun i hi => ?_⟩
  obtain ⟨⟨x, hx⟩, ⟨y, hy⟩⟩ := h i hi
  obtain ⟨⟨z, hz⟩, _⟩ := h 0 (by omega)
  have hs : a.spot = none := by simpa [Addr.add] using World.cell?_spot hz
  obtain ⟨b, off, spot⟩ := a
  simp only at hs
  subst hs
  rw [add_at] at hx hy
  have hx' : w.cell? ⟨b, off + i * 2, none⟩ = some (.int .i64 x) := hx
  have hy' : w.cell? ⟨b, off + i * 2 + 1, none⟩ = some (.int .i64 y) := by rw [Nat.add_assoc]; exact hy
  exact ⟨b, off, rfl, cell_lt hx', by simp [numAt, hx'], by simp [numAt, hy']⟩
/-- a slice of pairs of numbers that came in: nil, or a row of them in memory -/
theorem flds_open {H : Type} {enc : TypeId × Value → H} {P : Program} {w : World} {base : Nat} {spare : Nat → Bool} {held : Bool} {t e : TypeId} {f0 f1 : Field} {fuel : Nat} {cs : List Value} {x : DataW H × List MemPlace}
    (ht : P.underlying t = some (.slice e)) (he : P.underlying e = some (.struct #[f0, f1])) (hC : P.cellsOf e = 2) (o0 : f0.offset = 0) (o1 : f1.offset = 1) (k0 : P.cellsOf f0.type = 1) (k1 : P.cellsOf f1.type = 1)
    (u0 : P.underlying f0.type = some (.int .i64)) (u1 : P.underlying f1.type = some (.int .i64)) (h : DataW.trod enc P w base spare held fuel t cs = some x) :
    cs = [.slice none 0 0] ∨ ∃ (a : Addr) (len cap : Nat), cs = [.slice (some a) len cap] ∧ ∃ L N, Flds w (some a) len L N := by
  rcases open_slice ht h with ⟨h0, _⟩ | ⟨a, len, cap, m, n, D, Pl, hcs, _, hl, _, hmm, _, hi⟩
  · exact .inl h0
  · refine .inr ⟨a, len, cap, hcs, flds_of fun i hlen => ?_⟩
    obtain ⟨c, hc, hd⟩ := hi i (by rw [hmm]; split <;> omega)
    rw [hC] at hc
    obtain ⟨_, hl2, hat⟩ := World.cells?_some hc
    obtain ⟨y0, y1, n', _, _, g0, g1⟩ := trod_struct2 he hd
    match c, hl2 with
    | [c0, c1], _ =>
      rw [o0, k0] at g0
      rw [o1, k1] at g1
      obtain ⟨x0, e0, _, _⟩ := DataW.trod_int u0 (by simpa using g0 : DataW.trod enc P w base spare held n' f0.type [c0] = some y0)
      obtain ⟨x1, e1, _, _⟩ := DataW.trod_int u1 (by simpa using g1 : DataW.trod enc P w base spare held n' f1.type [c1] = some y1)
      have p0 := hat 0 (by omega)
      have p1 := hat 1 (by omega)
      rw [Go.Deep.add_add] at p0 p1
      simp only [List.cons.injEq, and_true] at e0 e1
      exact ⟨⟨x0, by rw [p0, ← e0]; rfl⟩, ⟨x1, by rw [p1, ← e1]; rfl⟩⟩
theorem nums_of {w : World} {a : Addr} {len : Nat} {zs : List Int} (hlen : len ≤ zs.length) (hc : ∀ i, i < zs.length → w.cell? (a.add i) = some (.int .u32 (zs.getD i 0))) (hw : ∀ n ∈ zs, (Lit.int .u32 n).wf = true) :
    ∃ V, Nums w (some a) len V := by
  refine ⟨fun i => zs.getD i 0, fun i hi => ?_⟩
  have hx := hc i (by omega)
  have hs : a.spot = none := by simpa [Addr.add] using World.cell?_spot (hc 0 (by omega))
  obtain ⟨b, off, spot⟩ := a
  simp only at hs
  subst hs
  rw [add_at] at hx
  have hx' : w.cell? ⟨b, off + i, none⟩ = some (.int .u32 (zs.getD i 0)) := hx
  have hmem : zs.getD i 0 ∈ zs := by
    rw [List.getD_eq_getElem?_getD, List.getElem?_eq_getElem (by omega)]; exact List.getElem_mem _
  obtain ⟨b1, b2⟩ := bounds_u32 (hw _ hmem)
  exact ⟨b, off, rfl, cell_lt hx', hx', b1, by show zs.getD i 0 < 4294967296; omega⟩

set_option maxHeartbeats 400000 in
theorem few_any (A : Option Addr) (len cap : Nat) (w : World) :
    Calls Try.prog 14 #[.slice A len cap] w fun e w' => e = .returned (.bool (decide ((len : Int) ≤ 200))) ∧ w = w' := by
  go_enter Try.func14, Try.ntmps14
  go_wp2
  go_ret
  exact ⟨rfl, rfl⟩
end Go.Proofs.Ytklibabeojpkhaa
