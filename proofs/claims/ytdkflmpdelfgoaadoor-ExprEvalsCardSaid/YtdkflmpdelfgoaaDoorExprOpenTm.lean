/-
  An argument that is a slice of terms, opened: what it reads as, that its texts are among its weights, that its numbers are of 64 bits. Conditions: none.
-/
import Derived.Test.YtdkflmpdelfgoaaDoorExprOpenT
import Derived.Test.YtdkflmpdelfgoaaDoorExprPN
namespace Go.Proofs.YtdkflmpdelfgoaaDoor
open Go.RowKit Go.ChangeShapes Go.WideShapes Go.Deep
set_option linter.unusedVariables false
set_option linter.unusedSimpArgs false

instance : Inhabited Tm := ⟨⟨0, 0, ⟨#[]⟩⟩⟩
theorem list3t {α : Type} : ∀ {l : List α}, l.length = 3 → ∃ a b c, l = [a, b, c]
  | [a, b, c], _ => ⟨a, b, c, rfl⟩
theorem i64_inb {v : Int} (h : (Lit.int .i64 v).wf = true) : InB v := by
  simp [Lit.wf, IntKind.min, IntKind.max, IntKind.bits, IntKind.signed] at h; exact ⟨by omega, by omega⟩
section
variable {H : Type} {enc : TypeId × Value → H} {w : World} {base : Nat} {spare : Nat → Bool} {held : Bool}
/-- one term's cells and its reading -/
theorem tm_elem {fuel : Nat} {cs : List Value} {x : DataW H × List MemPlace} (h : DataW.trod enc Tryd.prog w base spare held fuel 57 cs = some x) :
    ∃ (k n : Int) (s : ByteArray), cs = [.int .i64 k, .int .i64 n, .string s] ∧ x.1 = .agg [.lit (.int .i64 k), .lit (.int .i64 n), .lit (.string s.data.toList)] ∧ (Lit.int .i64 n).wf = true := by
  obtain ⟨xs, m, _, hx, hl, hlen, hf⟩ := DataW.trod_struct Tryd.underlying57 h
  have hc : Tryd.prog.cellsOf 57 = 3 := by kernel_rfl
  rw [hc] at hl
  obtain ⟨c0, c1, c2, rfl⟩ := list3t hl
  obtain ⟨y0, y1, y2, rfl⟩ := list3t hlen
  have k1 : Tryd.prog.cellsOf 3 = 1 := by kernel_rfl
  have k2 : Tryd.prog.cellsOf 9 = 1 := by kernel_rfl
  have k3 : Tryd.prog.cellsOf 2 = 1 := by kernel_rfl
  have f0 : DataW.trod enc Tryd.prog w base spare held m 3 (List.take (Tryd.prog.cellsOf 3) (List.drop 0 [c0, c1, c2])) = some y0 := hf 0 _ rfl
  rw [k1] at f0
  have f1 : DataW.trod enc Tryd.prog w base spare held m 2 (List.take (Tryd.prog.cellsOf 2) (List.drop 1 [c0, c1, c2])) = some y1 := hf 1 _ rfl
  rw [k3] at f1
  have f2 : DataW.trod enc Tryd.prog w base spare held m 9 (List.take (Tryd.prog.cellsOf 9) (List.drop 2 [c0, c1, c2])) = some y2 := hf 2 _ rfl
  rw [k2] at f2
  obtain ⟨a, e0, r0, w0⟩ := DataW.trod_int Tryd.underlying3 f0
  obtain ⟨b, e1, r1, w1⟩ := DataW.trod_int Tryd.underlying2 f1
  obtain ⟨c, e2, r2, w2⟩ := DataW.trod_string Tryd.underlying9 f2
  simp only [List.drop_succ_cons, List.drop_zero, List.take_succ_cons, List.take_zero, List.cons.injEq, and_true] at e0 e1 e2
  subst e0 e1 e2 r0 r1 r2
  exact ⟨a, b, c, rfl, by rw [hx]; rfl, w1⟩
/-- a slice of terms -/
theorem tms_open {fuel : Nat} {v : Value} {x : DataW H × List MemPlace} (h : DataW.trod enc Tryd.prog w base spare held fuel 22 [v] = some x) :
    ∃ T, TriO tmF w v T ∧ ∀ y ∈ T, y.s.size ∈ x.1.weights Tryd.prog 22 ∧ InB y.n := by
  rcases open_slice Tryd.underlying22 h with ⟨hcs, _⟩ | ⟨a, len, cap, m, n, D, Pl, hcs, hb, hl, hm, hmm, hx, hi⟩
  · simp only [List.cons.injEq, and_true] at hcs
    subst hcs
    exact ⟨[], .inl ⟨.inl rfl, rfl⟩, fun y hy => by cases hy⟩
  · simp only [List.cons.injEq, and_true] at hcs
    subst hcs
    have hc : Tryd.prog.cellsOf 57 = 3 := by kernel_rfl
    rw [hc] at hi
    rcases Nat.eq_zero_or_pos len with rfl | hp
    · exact ⟨[], .inl ⟨.inr ⟨a, cap, rfl⟩, rfl⟩, fun y hy => by cases hy⟩
    have hlm : len ≤ m := by rw [hmm]; split <;> omega
    have each : ∀ i, i < len → ∃ y : Tm, w.cell? (a.add (i * 3)) = some (.int .i64 y.k) ∧ w.cell? ((a.add (i * 3)).add 1) = some (.int .i64 y.n) ∧ w.cell? ((a.add (i * 3)).add 2) = some (.string y.s) ∧ y.s.size ∈ (D i).weights Tryd.prog 57 ∧ InB y.n := by
      intro i hil
      obtain ⟨cs', h1, h2⟩ := hi i (by omega)
      obtain ⟨_, _, hat⟩ := World.cells?_some h1
      obtain ⟨k, nn, s, rfl, hd, hw⟩ := tm_elem h2
      simp only at hd
      refine ⟨⟨k, nn, s⟩, ?_, ?_, ?_, ?_, i64_inb hw⟩
      · have := hat 0 (by omega); rw [show (a.add (i * 3)).add 0 = a.add (i * 3) by simp [Addr.add]] at this; exact this
      · exact hat 1 (by omega)
      · exact hat 2 (by omega)
      · rw [hd, size_list]; simp [DataW.weights, Tryd.underlying57, DataW.weightsEach]
    obtain ⟨f, hf⟩ := choose_lt (α := Tm) (p := fun i (y : Tm) => w.cell? (a.add (i * 3)) = some (.int .i64 y.k) ∧ w.cell? ((a.add (i * 3)).add 1) = some (.int .i64 y.n) ∧ w.cell? ((a.add (i * 3)).add 2) = some (.string y.s) ∧ y.s.size ∈ (D i).weights Tryd.prog 57 ∧ InB y.n) each
    obtain ⟨g, off, spot⟩ := a
    have h0 := (hf 0 hp).1
    have hspot : spot = none := by simpa [Addr.add] using World.cell?_spot h0
    subst hspot
    have hlen : ((List.range len).map f).length = len := by simp
    refine ⟨(List.range len).map f, .inr ⟨g, off, cap, by rw [hlen], by rw [hlen]; exact hl, hm, ?_, ?_⟩, ?_⟩
    · have := World.block_lt_of_cell? w _ h0
      simpa [Addr.add] using this
    · intro k y hy
      rw [List.getElem?_map] at hy
      rcases Nat.lt_or_ge k len with hk | hk
      · rw [List.getElem?_range hk] at hy
        cases hy
        obtain ⟨c0, c1, c2, _, _⟩ := hf k hk
        rw [add_plain, add_plain] at c1 c2
        rw [add_plain] at c0
        exact ⟨c0, c1, c2⟩
      · rw [List.getElem?_eq_none (by simpa using hk)] at hy; cases hy
    · intro y hy
      obtain ⟨i, hil, rfl⟩ := List.mem_map.1 hy
      have hil' := List.mem_range.1 hil
      obtain ⟨_, _, _, c4, c5⟩ := hf i hil'
      refine ⟨?_, c5⟩
      rw [hx]
      simp only [DataW.weights, Tryd.underlying22]
      exact List.mem_cons_of_mem _ (List.mem_append_left _ (weightsAll_mem (List.mem_map.2 ⟨i, hil, rfl⟩) _ c4))
end
theorem tms_sized {H : Type} {ts : List TypeId} {ds : List (DataW H)} (hsz : (DataW.weightsEach Tryd.prog ts ds).all (· ≤ reachBytes) = true) {j : Nat} {d : DataW H} (ht : ts[j]? = some 22) (hd : ds[j]? = some d) {n : Nat} (hn : n ∈ d.weights Tryd.prog 22) : n ≤ 281474976710656 := by
  have h2 := reachBytes_lt
  have := of_decide_eq_true (List.all_eq_true.1 hsz _ (DataW.weights_mem_each ht hd _ hn))
  omega
end Go.Proofs.YtdkflmpdelfgoaaDoor
