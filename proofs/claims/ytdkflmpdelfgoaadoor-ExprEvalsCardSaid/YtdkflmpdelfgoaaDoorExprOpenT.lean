/-
  An argument that is a slice of tokens, opened: what it reads as, and that its texts are among its weights. Conditions: none.
-/
import Derived.Test.YtdkflmpdelfgoaaDoorExprT
import Derived.Test.YtdkflmpdelfgoaaDoorExprOpen
import Derived.Deep.Slices
import Derived.OpenShut
namespace Go.Proofs.YtdkflmpdelfgoaaDoor
open Go.RowKit Go.ChangeShapes Go.WideShapes Go.Deep
set_option linter.unusedVariables false
set_option linter.unusedSimpArgs false

instance : Inhabited Tok := ⟨⟨0, [], 0, 0⟩⟩
theorem list4 {α : Type} : ∀ {l : List α}, l.length = 4 → ∃ a b c d, l = [a, b, c, d]
  | [a, b, c, d], _ => ⟨a, b, c, d, rfl⟩
theorem weightsAll_mem {H : Type} {P : Program} {e : TypeId} : ∀ {l : List (DataW H)} {d : DataW H}, d ∈ l → ∀ n ∈ d.weights P e, n ∈ DataW.weightsAll P e l
  | x :: r, d, h, n, hn => by
    rw [DataW.weightsAll]
    rcases List.mem_cons.1 h with rfl | h
    · exact List.mem_append_left _ hn
    · exact List.mem_append_right _ (weightsAll_mem h n hn)
section
variable {H : Type} {enc : TypeId × Value → H} {w : World} {base : Nat} {spare : Nat → Bool} {held : Bool}
/-- one token's cells and its reading -/
theorem tok_elem {fuel : Nat} {cs : List Value} {x : DataW H × List MemPlace} (h : DataW.trod enc Tryd.prog w base spare held fuel 52 cs = some x) :
    ∃ (k : Int) (t : ByteArray) (n p : Int), cs = [.int .i64 k, .string t, .int .u64 n, .int .i64 p] ∧ x.1 = .agg [.lit (.int .i64 k), .lit (.string t.data.toList), .lit (.int .u64 n), .lit (.int .i64 p)] ∧ (Lit.int .u64 n).wf = true := by
  obtain ⟨xs, m, _, hx, hl, hlen, hf⟩ := DataW.trod_struct Tryd.underlying52 h
  have hc : Tryd.prog.cellsOf 52 = 4 := by kernel_rfl
  rw [hc] at hl
  obtain ⟨c0, c1, c2, c3, rfl⟩ := list4 hl
  obtain ⟨y0, y1, y2, y3, rfl⟩ := list4 hlen
  have k1 : Tryd.prog.cellsOf 3 = 1 := by kernel_rfl
  have k2 : Tryd.prog.cellsOf 9 = 1 := by kernel_rfl
  have k3 : Tryd.prog.cellsOf 50 = 1 := by kernel_rfl
  have f0 : DataW.trod enc Tryd.prog w base spare held m 3 (List.take (Tryd.prog.cellsOf 3) (List.drop 0 [c0, c1, c2, c3])) = some y0 := hf 0 _ rfl
  rw [k1] at f0
  have f1 : DataW.trod enc Tryd.prog w base spare held m 9 (List.take (Tryd.prog.cellsOf 9) (List.drop 1 [c0, c1, c2, c3])) = some y1 := hf 1 _ rfl
  rw [k2] at f1
  have f2 : DataW.trod enc Tryd.prog w base spare held m 50 (List.take (Tryd.prog.cellsOf 50) (List.drop 2 [c0, c1, c2, c3])) = some y2 := hf 2 _ rfl
  rw [k3] at f2
  have f3 : DataW.trod enc Tryd.prog w base spare held m 3 (List.take (Tryd.prog.cellsOf 3) (List.drop 3 [c0, c1, c2, c3])) = some y3 := hf 3 _ rfl
  rw [k1] at f3
  obtain ⟨a, e0, r0, w0⟩ := DataW.trod_int Tryd.underlying3 f0
  obtain ⟨b, e1, r1, w1⟩ := DataW.trod_string Tryd.underlying9 f1
  obtain ⟨c, e2, r2, w2⟩ := DataW.trod_int Tryd.underlying50 f2
  obtain ⟨d, e3, r3, w3⟩ := DataW.trod_int Tryd.underlying3 f3
  simp only [List.drop_succ_cons, List.drop_zero, List.take_succ_cons, List.take_zero, List.cons.injEq, and_true] at e0 e1 e2 e3
  subst e0 e1 e2 e3 r0 r1 r2 r3
  exact ⟨a, b, c, d, rfl, by rw [hx]; rfl, w2⟩
theorem u64_wf {v : Int} (h : (Lit.int .u64 v).wf = true) : 0 ≤ v ∧ v < 18446744073709551616 := by
  simp [Lit.wf, IntKind.min, IntKind.max, IntKind.bits, IntKind.signed] at h; omega
/-- a slice of tokens -/
theorem toks_open {fuel : Nat} {v : Value} {x : DataW H × List MemPlace} (h : DataW.trod enc Tryd.prog w base spare held fuel 49 [v] = some x) :
    ∃ T, TokO w v T ∧ ∀ y ∈ T, y.t.length ∈ x.1.weights Tryd.prog 49 ∧ y.n < 18446744073709551616 := by
  rcases open_slice Tryd.underlying49 h with ⟨hcs, _⟩ | ⟨a, len, cap, m, n, D, Pl, hcs, hb, hl, hm, hmm, hx, hi⟩
  · simp only [List.cons.injEq, and_true] at hcs
    subst hcs
    exact ⟨[], .inl ⟨.inl rfl, rfl⟩, fun y hy => by cases hy⟩
  · simp only [List.cons.injEq, and_true] at hcs
    subst hcs
    have hc : Tryd.prog.cellsOf 52 = 4 := by kernel_rfl
    rw [hc] at hi
    rcases Nat.eq_zero_or_pos len with rfl | hp
    · exact ⟨[], .inl ⟨.inr ⟨a, cap, rfl⟩, rfl⟩, fun y hy => by cases hy⟩
    have hlm : len ≤ m := by rw [hmm]; split <;> omega
    have each : ∀ i, i < len → ∃ y : Tok, w.cell? (a.add (i * 4)) = some (.int .i64 y.k) ∧ w.cell? ((a.add (i * 4)).add 1) = some (.string ⟨y.t.toArray⟩) ∧ w.cell? ((a.add (i * 4)).add 2) = some (.int .u64 (y.n : Int)) ∧ w.cell? ((a.add (i * 4)).add 3) = some (.int .i64 y.p) ∧ y.t.length ∈ (D i).weights Tryd.prog 52 ∧ y.n < 18446744073709551616 := by
      intro i hil
      obtain ⟨cs', h1, h2⟩ := hi i (by omega)
      obtain ⟨_, _, hat⟩ := World.cells?_some h1
      obtain ⟨k, t, nn, p, rfl, hd, hw⟩ := tok_elem h2
      simp only at hd
      obtain ⟨g1, g2⟩ := u64_wf hw
      obtain ⟨u, rfl⟩ : ∃ u : Nat, nn = (u : Int) := ⟨nn.toNat, by omega⟩
      refine ⟨⟨k, t.data.toList, u, p⟩, ?_, ?_, ?_, ?_, ?_, by simp only; omega⟩
      · have := hat 0 (by omega); rw [show (a.add (i * 4)).add 0 = a.add (i * 4) by simp [Addr.add]] at this; exact this
      · exact hat 1 (by omega)
      · exact hat 2 (by omega)
      · exact hat 3 (by omega)
      · rw [hd]; simp [DataW.weights, Tryd.underlying52, DataW.weightsEach]
    obtain ⟨f, hf⟩ := choose_lt (α := Tok) (p := fun i (y : Tok) => w.cell? (a.add (i * 4)) = some (.int .i64 y.k) ∧ w.cell? ((a.add (i * 4)).add 1) = some (.string ⟨y.t.toArray⟩) ∧ w.cell? ((a.add (i * 4)).add 2) = some (.int .u64 (y.n : Int)) ∧ w.cell? ((a.add (i * 4)).add 3) = some (.int .i64 y.p) ∧ y.t.length ∈ (D i).weights Tryd.prog 52 ∧ y.n < 18446744073709551616) each
    obtain ⟨g, off, spot⟩ := a
    have h0 := (hf 0 hp).1
    have hspot : spot = none := by simpa [Addr.add] using World.cell?_spot h0
    subst hspot
    have hlen : ((List.range len).map f).length = len := by simp
    refine ⟨(List.range len).map f, .inr ⟨g, off, cap, by rw [hlen], by rw [hlen]; exact hl, hm, ?_, ?_⟩, ?_⟩
    · have := World.block_lt_of_cell? w _ h0
      simpa [Addr.add] using this
    · intro k y hy
      rw [List.getElem?_map] at hy
      rcases Nat.lt_or_ge k len with hk | hk
      · rw [List.getElem?_range hk] at hy
        cases hy
        obtain ⟨c0, c1, c2, c3, _, _⟩ := hf k hk
        rw [add_plain, add_plain] at c1 c2 c3
        rw [add_plain] at c0
        exact ⟨c0, c1, c2, c3⟩
      · rw [List.getElem?_eq_none (by simpa using hk)] at hy; cases hy
    · intro y hy
      obtain ⟨i, hil, rfl⟩ := List.mem_map.1 hy
      have hil' := List.mem_range.1 hil
      obtain ⟨_, _, _, _, c4, c5⟩ := hf i hil'
      refine ⟨?_, c5⟩
      rw [hx]
      simp only [DataW.weights, Tryd.underlying49]
      exact List.mem_cons_of_mem _ (List.mem_append_left _ (weightsAll_mem (List.mem_map.2 ⟨i, hil, rfl⟩) _ c4))
end
theorem toks_sized {H : Type} {ts : List TypeId} {ds : List (DataW H)} (hsz : (DataW.weightsEach Tryd.prog ts ds).all (· ≤ reachBytes) = true) {j : Nat} {d : DataW H} (ht : ts[j]? = some 49) (hd : ds[j]? = some d) {n : Nat} (hn : n ∈ d.weights Tryd.prog 49) : n ≤ 281474976710656 := by
  have h2 := reachBytes_lt
  have := of_decide_eq_true (List.all_eq_true.1 hsz _ (DataW.weights_mem_each ht hd _ hn))
  omega
end Go.Proofs.YtdkflmpdelfgoaaDoor
