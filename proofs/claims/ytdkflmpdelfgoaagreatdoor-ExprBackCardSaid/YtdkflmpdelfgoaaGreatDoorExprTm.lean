/-
  An argument that is a slice of tokens, opened: what it reads as, and that its texts are among its weights. Conditions: none.
-/
import Derived.Test.YtdkflmpdelfgoaaGreatDoorExprT
import Derived.Test.YtdkflmpdelfgoaaGreatDoorExprOpen
import Derived.Deep.Slices
import Derived.OpenShut
import Derived.Test.YtdkflmpdelfgoaaGreatDoorExprC1
import Derived.Test.YtdkflmpdelfgoaaGreatDoorExprH
import Derived.Test.YtdkflmpdelfgoaaGreatDoorExprDoorZ
import Derived.Test.YtdkflmpdelfgoaaGreatDoorExprRefX
namespace Go.Proofs.YtdkflmpdelfgoaaGreatDoor
open Go.RowKit Go.ChangeShapes Go.WideShapes Go.Deep
set_option linter.unusedVariables false
set_option linter.unusedSimpArgs false

instance : Inhabited Tok := ⟨⟨0, [], 0, 0⟩⟩
theorem list4 {α : Type} : ∀ {l : List α}, l.length = 4 → ∃ a b c d, l = [a, b, c, d]
  | [a, b, c, d], _ => ⟨a, b, c, d, rfl⟩
theorem weightsAll_mem {H : Type} {P : Program} {e : TypeId} : ∀ {l : List (DataW H)} {d : DataW H}, d ∈ l → ∀ n ∈ d.weights P e, n ∈ DataW.weightsAll P e l
  | x :: r, d, h, n, hn => by
    rw [DataW.weightsAll]
    rcases List.mem_cons.1 h with rfl | h
    · exact List.mem_append_left _ hn
    · exact List.mem_append_right _ (weightsAll_mem h n hn)
section
variable {H : Type} {enc : TypeId × Value → H} {w : World} {base : Nat} {spare : Nat → Bool} {held : Bool}
/-- one token's cells and its reading -/
theorem tok_elem {fuel : Nat} {cs : List Value} {x : DataW H × List MemPlace} (h : DataW.trod enc Tryz.prog w base spare held fuel 62 cs = some x) :
    ∃ (k : Int) (t : ByteArray) (n p : Int), cs = [.int .i64 k, .string t, .int .u64 n, .int .i64 p] ∧ x.1 = .agg [.lit (.int .i64 k), .lit (.string t.data.toList), .lit (.int .u64 n), .lit (.int .i64 p)] ∧ (Lit.int .u64 n).wf = true := by
  obtain ⟨xs, m, _, hx, hl, hlen, hf⟩ := DataW.trod_struct Tryz.underlying62 h
  have hc : Tryz.prog.cellsOf 62 = 4 := by kernel_rfl
  rw [hc] at hl
  obtain ⟨c0, c1, c2, c3, rfl⟩ := list4 hl
  obtain ⟨y0, y1, y2, y3, rfl⟩ := list4 hlen
  have k1 : Tryz.prog.cellsOf 3 = 1 := by kernel_rfl
  have k2 : Tryz.prog.cellsOf 9 = 1 := by kernel_rfl
  have k3 : Tryz.prog.cellsOf 60 = 1 := by kernel_rfl
  have f0 : DataW.trod enc Tryz.prog w base spare held m 3 (List.take (Tryz.prog.cellsOf 3) (List.drop 0 [c0, c1, c2, c3])) = some y0 := hf 0 _ rfl
  rw [k1] at f0
  have f1 : DataW.trod enc Tryz.prog w base spare held m 9 (List.take (Tryz.prog.cellsOf 9) (List.drop 1 [c0, c1, c2, c3])) = some y1 := hf 1 _ rfl
  rw [k2] at f1
  have f2 : DataW.trod enc Tryz.prog w base spare held m 60 (List.take (Tryz.prog.cellsOf 60) (List.drop 2 [c0, c1, c2, c3])) = some y2 := hf 2 _ rfl
  rw [k3] at f2
  have f3 : DataW.trod enc Tryz.prog w base spare held m 3 (List.take (Tryz.prog.cellsOf 3) (List.drop 3 [c0, c1, c2, c3])) = some y3 := hf 3 _ rfl
  rw [k1] at f3
  obtain ⟨a, e0, r0, w0⟩ := DataW.trod_int Tryz.underlying3 f0
  obtain ⟨b, e1, r1, w1⟩ := DataW.trod_string Tryz.underlying9 f1
  obtain ⟨c, e2, r2, w2⟩ := DataW.trod_int Tryz.underlying60 f2
  obtain ⟨d, e3, r3, w3⟩ := DataW.trod_int Tryz.underlying3 f3
  simp only [List.drop_succ_cons, List.drop_zero, List.take_succ_cons, List.take_zero, List.cons.injEq, and_true] at e0 e1 e2 e3
  subst e0 e1 e2 e3 r0 r1 r2 r3
  exact ⟨a, b, c, d, rfl, by rw [hx]; rfl, w2⟩
theorem u64_wf {v : Int} (h : (Lit.int .u64 v).wf = true) : 0 ≤ v ∧ v < 18446744073709551616 := by
  simp [Lit.wf, IntKind.min, IntKind.max, IntKind.bits, IntKind.signed] at h; omega
/-- a slice of tokens -/
theorem toks_open {fuel : Nat} {v : Value} {x : DataW H × List MemPlace} (h : DataW.trod enc Tryz.prog w base spare held fuel 29 [v] = some x) :
    ∃ T, TokO w v T ∧ ∀ y ∈ T, y.t.length ∈ x.1.weights Tryz.prog 29 ∧ y.n < 18446744073709551616 := by
  rcases open_slice Tryz.underlying29 h with ⟨hcs, _⟩ | ⟨a, len, cap, m, n, D, Pl, hcs, hb, hl, hm, hmm, hx, hi⟩
  · simp only [List.cons.injEq, and_true] at hcs
    subst hcs
    exact ⟨[], .inl ⟨.inl rfl, rfl⟩, fun y hy => by cases hy⟩
  · simp only [List.cons.injEq, and_true] at hcs
    subst hcs
    have hc : Tryz.prog.cellsOf 62 = 4 := by kernel_rfl
    rw [hc] at hi
    rcases Nat.eq_zero_or_pos len with rfl | hp
    · exact ⟨[], .inl ⟨.inr ⟨a, cap, rfl⟩, rfl⟩, fun y hy => by cases hy⟩
    have hlm : len ≤ m := by rw [hmm]; split <;> omega
    have each : ∀ i, i < len → ∃ y : Tok, w.cell? (a.add (i * 4)) = some (.int .i64 y.k) ∧ w.cell? ((a.add (i * 4)).add 1) = some (.string ⟨y.t.toArray⟩) ∧ w.cell? ((a.add (i * 4)).add 2) = some (.int .u64 (y.n : Int)) ∧ w.cell? ((a.add (i * 4)).add 3) = some (.int .i64 y.p) ∧ y.t.length ∈ (D i).weights Tryz.prog 62 ∧ y.n < 18446744073709551616 := by
      intro i hil
      obtain ⟨cs', h1, h2⟩ := hi i (by omega)
      obtain ⟨_, _, hat⟩ := World.cells?_some h1
      obtain ⟨k, t, nn, p, rfl, hd, hw⟩ := tok_elem h2
      simp only at hd
      obtain ⟨g1, g2⟩ := u64_wf hw
      obtain ⟨u, rfl⟩ : ∃ u : Nat, nn = (u : Int) := ⟨nn.toNat, by omega⟩
      refine ⟨⟨k, t.data.toList, u, p⟩, ?_, ?_, ?_, ?_, ?_, by simp only; omega⟩
      · have := hat 0 (by omega); rw [show (a.add (i * 4)).add 0 = a.add (i * 4) by simp [Addr.add]] at this; exact this
      · exact hat 1 (by omega)
      · exact hat 2 (by omega)
      · exact hat 3 (by omega)
      · rw [hd]; simp [DataW.weights, Tryz.underlying62, DataW.weightsEach]
    obtain ⟨f, hf⟩ := choose_lt (α := Tok) (p := fun i (y : Tok) => w.cell? (a.add (i * 4)) = some (.int .i64 y.k) ∧ w.cell? ((a.add (i * 4)).add 1) = some (.string ⟨y.t.toArray⟩) ∧ w.cell? ((a.add (i * 4)).add 2) = some (.int .u64 (y.n : Int)) ∧ w.cell? ((a.add (i * 4)).add 3) = some (.int .i64 y.p) ∧ y.t.length ∈ (D i).weights Tryz.prog 62 ∧ y.n < 18446744073709551616) each
    obtain ⟨g, off, spot⟩ := a
    have h0 := (hf 0 hp).1
    have hspot : spot = none := by simpa [Addr.add] using World.cell?_spot h0
    subst hspot
    have hlen : ((List.range len).map f).length = len := by simp
    refine ⟨(List.range len).map f, .inr ⟨g, off, cap, by rw [hlen], by rw [hlen]; exact hl, hm, ?_, ?_⟩, ?_⟩
    · have := World.block_lt_of_cell? w _ h0
      simpa [Addr.add] using this
    · intro k y hy
      rw [List.getElem?_map] at hy
      rcases Nat.lt_or_ge k len with hk | hk
      · rw [List.getElem?_range hk] at hy
        cases hy
        obtain ⟨c0, c1, c2, c3, _, _⟩ := hf k hk
        rw [add_plain, add_plain] at c1 c2 c3
        rw [add_plain] at c0
        exact ⟨c0, c1, c2, c3⟩
      · rw [List.getElem?_eq_none (by simpa using hk)] at hy; cases hy
    · intro y hy
      obtain ⟨i, hil, rfl⟩ := List.mem_map.1 hy
      have hil' := List.mem_range.1 hil
      obtain ⟨_, _, _, _, c4, c5⟩ := hf i hil'
      refine ⟨?_, c5⟩
      rw [hx]
      simp only [DataW.weights, Tryz.underlying29]
      exact List.mem_cons_of_mem _ (List.mem_append_left _ (weightsAll_mem (List.mem_map.2 ⟨i, hil, rfl⟩) _ c4))
end
theorem toks_sized {H : Type} {ts : List TypeId} {ds : List (DataW H)} (hsz : (DataW.weightsEach Tryz.prog ts ds).all (· ≤ reachBytes) = true) {j : Nat} {d : DataW H} (ht : ts[j]? = some 29) (hd : ds[j]? = some d) {n : Nat} (hn : n ∈ d.weights Tryz.prog 29) : n ≤ 281474976710656 := by
  have h2 := reachBytes_lt
  have := of_decide_eq_true (List.all_eq_true.1 hsz _ (DataW.weights_mem_each ht hd _ hn))
  omega
end Go.Proofs.YtdkflmpdelfgoaaGreatDoor
namespace Go.Proofs.YtdkflmpdelfgoaaGreatDoor
open Go.RowKit Go.ChangeShapes Go.WideShapes Go.Deep
set_option linter.unusedVariables false
set_option linter.unusedSimpArgs false

instance : Inhabited Tm := ⟨⟨0, 0, ⟨#[]⟩⟩⟩
theorem list3t {α : Type} : ∀ {l : List α}, l.length = 3 → ∃ a b c, l = [a, b, c]
  | [a, b, c], _ => ⟨a, b, c, rfl⟩
theorem i64_inb {v : Int} (h : (Lit.int .i64 v).wf = true) : InB v := by
  simp [Lit.wf, IntKind.min, IntKind.max, IntKind.bits, IntKind.signed] at h; exact ⟨by omega, by omega⟩
section
variable {H : Type} {enc : TypeId × Value → H} {w : World} {base : Nat} {spare : Nat → Bool} {held : Bool}
/-- one term's cells and its reading -/
theorem tm_elem {fuel : Nat} {cs : List Value} {x : DataW H × List MemPlace} (h : DataW.trod enc Tryz.prog w base spare held fuel 42 cs = some x) :
    ∃ (k n : Int) (s : ByteArray), cs = [.int .i64 k, .int .i64 n, .string s] ∧ x.1 = .agg [.lit (.int .i64 k), .lit (.int .i64 n), .lit (.string s.data.toList)] ∧ (Lit.int .i64 n).wf = true := by
  obtain ⟨xs, m, _, hx, hl, hlen, hf⟩ := DataW.trod_struct Tryz.underlying42 h
  have hc : Tryz.prog.cellsOf 42 = 3 := by kernel_rfl
  rw [hc] at hl
  obtain ⟨c0, c1, c2, rfl⟩ := list3t hl
  obtain ⟨y0, y1, y2, rfl⟩ := list3t hlen
  have k1 : Tryz.prog.cellsOf 3 = 1 := by kernel_rfl
  have k2 : Tryz.prog.cellsOf 9 = 1 := by kernel_rfl
  have k3 : Tryz.prog.cellsOf 2 = 1 := by kernel_rfl
  have f0 : DataW.trod enc Tryz.prog w base spare held m 3 (List.take (Tryz.prog.cellsOf 3) (List.drop 0 [c0, c1, c2])) = some y0 := hf 0 _ rfl
  rw [k1] at f0
  have f1 : DataW.trod enc Tryz.prog w base spare held m 2 (List.take (Tryz.prog.cellsOf 2) (List.drop 1 [c0, c1, c2])) = some y1 := hf 1 _ rfl
  rw [k3] at f1
  have f2 : DataW.trod enc Tryz.prog w base spare held m 9 (List.take (Tryz.prog.cellsOf 9) (List.drop 2 [c0, c1, c2])) = some y2 := hf 2 _ rfl
  rw [k2] at f2
  obtain ⟨a, e0, r0, w0⟩ := DataW.trod_int Tryz.underlying3 f0
  obtain ⟨b, e1, r1, w1⟩ := DataW.trod_int Tryz.underlying2 f1
  obtain ⟨c, e2, r2, w2⟩ := DataW.trod_string Tryz.underlying9 f2
  simp only [List.drop_succ_cons, List.drop_zero, List.take_succ_cons, List.take_zero, List.cons.injEq, and_true] at e0 e1 e2
  subst e0 e1 e2 r0 r1 r2
  exact ⟨a, b, c, rfl, by rw [hx]; rfl, w1⟩
/-- a slice of terms -/
theorem tms_open {fuel : Nat} {v : Value} {x : DataW H × List MemPlace} (h : DataW.trod enc Tryz.prog w base spare held fuel 22 [v] = some x) :
    ∃ T, TriO tmF w v T ∧ ∀ y ∈ T, y.s.size ∈ x.1.weights Tryz.prog 22 ∧ InB y.n := by
  rcases open_slice Tryz.underlying22 h with ⟨hcs, _⟩ | ⟨a, len, cap, m, n, D, Pl, hcs, hb, hl, hm, hmm, hx, hi⟩
  · simp only [List.cons.injEq, and_true] at hcs
    subst hcs
    exact ⟨[], .inl ⟨.inl rfl, rfl⟩, fun y hy => by cases hy⟩
  · simp only [List.cons.injEq, and_true] at hcs
    subst hcs
    have hc : Tryz.prog.cellsOf 42 = 3 := by kernel_rfl
    rw [hc] at hi
    rcases Nat.eq_zero_or_pos len with rfl | hp
    · exact ⟨[], .inl ⟨.inr ⟨a, cap, rfl⟩, rfl⟩, fun y hy => by cases hy⟩
    have hlm : len ≤ m := by rw [hmm]; split <;> omega
    have each : ∀ i, i < len → ∃ y : Tm, w.cell? (a.add (i * 3)) = some (.int .i64 y.k) ∧ w.cell? ((a.add (i * 3)).add 1) = some (.int .i64 y.n) ∧ w.cell? ((a.add (i * 3)).add 2) = some (.string y.s) ∧ y.s.size ∈ (D i).weights Tryz.prog 42 ∧ InB y.n := by
      intro i hil
      obtain ⟨cs', h1, h2⟩ := hi i (by omega)
      obtain ⟨_, _, hat⟩ := World.cells?_some h1
      obtain ⟨k, nn, s, rfl, hd, hw⟩ := tm_elem h2
      simp only at hd
      refine ⟨⟨k, nn, s⟩, ?_, ?_, ?_, ?_, i64_inb hw⟩
      · have := hat 0 (by omega); rw [show (a.add (i * 3)).add 0 = a.add (i * 3) by simp [Addr.add]] at this; exact this
      · exact hat 1 (by omega)
      · exact hat 2 (by omega)
      · rw [hd, size_list]; simp [DataW.weights, Tryz.underlying42, DataW.weightsEach]
    obtain ⟨f, hf⟩ := choose_lt (α := Tm) (p := fun i (y : Tm) => w.cell? (a.add (i * 3)) = some (.int .i64 y.k) ∧ w.cell? ((a.add (i * 3)).add 1) = some (.int .i64 y.n) ∧ w.cell? ((a.add (i * 3)).add 2) = some (.string y.s) ∧ y.s.size ∈ (D i).weights Tryz.prog 42 ∧ InB y.n) each
    obtain ⟨g, off, spot⟩ := a
    have h0 := (hf 0 hp).1
    have hspot : spot = none := by simpa [Addr.add] using World.cell?_spot h0
    subst hspot
    have hlen : ((List.range len).map f).length = len := by simp
    refine ⟨(List.range len).map f, .inr ⟨g, off, cap, by rw [hlen], by rw [hlen]; exact hl, hm, ?_, ?_⟩, ?_⟩
    · have := World.block_lt_of_cell? w _ h0
      simpa [Addr.add] using this
    · intro k y hy
      rw [List.getElem?_map] at hy
      rcases Nat.lt_or_ge k len with hk | hk
      · rw [List.getElem?_range hk] at hy
        cases hy
        obtain ⟨c0, c1, c2, _, _⟩ := hf k hk
        rw [add_plain, add_plain] at c1 c2
        rw [add_plain] at c0
        exact ⟨c0, c1, c2⟩
      · rw [List.getElem?_eq_none (by simpa using hk)] at hy; cases hy
    · intro y hy
      obtain ⟨i, hil, rfl⟩ := List.mem_map.1 hy
      have hil' := List.mem_range.1 hil
      obtain ⟨_, _, _, c4, c5⟩ := hf i hil'
      refine ⟨?_, c5⟩
      rw [hx]
      simp only [DataW.weights, Tryz.underlying22]
      exact List.mem_cons_of_mem _ (List.mem_append_left _ (weightsAll_mem (List.mem_map.2 ⟨i, hil, rfl⟩) _ c4))
end
theorem tms_sized {H : Type} {ts : List TypeId} {ds : List (DataW H)} (hsz : (DataW.weightsEach Tryz.prog ts ds).all (· ≤ reachBytes) = true) {j : Nat} {d : DataW H} (ht : ts[j]? = some 22) (hd : ds[j]? = some d) {n : Nat} (hn : n ∈ d.weights Tryz.prog 22) : n ≤ 281474976710656 := by
  have h2 := reachBytes_lt
  have := of_decide_eq_true (List.all_eq_true.1 hsz _ (DataW.weights_mem_each ht hd _ hn))
  omega
end Go.Proofs.YtdkflmpdelfgoaaGreatDoor
namespace Go.Proofs.YtdkflmpdelfgoaaGreatDoor
open Go.RowKit Go.Shelf
set_option linter.unusedVariables false
set_option linter.unusedSimpArgs false
attribute [local go_sem] Oper.semAt_some

def fewS (T : List Tm) : Nat := (T.map fun t => min t.s.size 600).sum
def fewB (T : List Tm) : Bool := decide (T.length ≤ 300) && decide (fewS (T.take 300) ≤ 3000)
theorem fewS_snoc (T : List Tm) (x : Tm) : fewS (T ++ [x]) = fewS T + min x.s.size 600 := by unfold fewS; rw [List.map_append, List.sum_append]; simp
theorem fewS_le (T : List Tm) : fewS T ≤ 600 * T.length := by
  induction T with
  | nil => exact Nat.le_refl _
  | cons x T ih => unfold fewS at ih ⊢; rw [List.map_cons, List.sum_cons, List.length_cons]; omega
set_option maxRecDepth 100000 in
set_option maxHeartbeats 4000000 in
theorem few_any (g off cap : Nat) (T : List Tm) (w : World) (h : TriO tmF w (.slice (some ⟨g, off, none⟩) T.length cap) T) (hc : T.length ≤ cap) (hcm : cap ≤ maxLen) :
    Calls Tryz.prog 6 #[.slice (some ⟨g, off, none⟩) T.length cap] w fun e w' => e = .returned (.bool (fewB T)) ∧ Below w.heap.size w w' := by
  have HT := Lib.hid h
  obtain ⟨N, hN⟩ : ∃ N, min T.length 300 = N := ⟨_, rfl⟩
  have hN1 : N ≤ T.length := by omega
  have hN3 : N ≤ 300 := by omega
  have hmin : min (T.length : Int) 300 = (N : Int) := by omega
  have hTN := Lib.hid (show T.take 300 = T.take N by
    by_cases h3 : T.length ≤ 300
    · rw [List.take_of_length_le h3, List.take_of_length_le (by omega)]
    · rw [show N = 300 by omega])
  have HB := Lib.hid (show fewB T = (decide (T.length ≤ 300) && decide (fewS (T.take N) ≤ 3000)) by unfold fewB; rw [hTN.out])
  have c1 : (N : Int) ≤ (cap : Int) := by omega
  have c0 : (0 : Int) ≤ (N : Int) := by omega
  have hNN := Lib.hid hN
  have hcap : (cap : Int) ≤ 9223372036854775807 := by unfold maxLen at hcm; omega
  clear h hN
  go_enter Tryz.func6, Tryz.ntmps6
  go_wp2_with fail
  go_loopw [12, 3] (fun iv sv wr => ∃ k : Nat, k ≤ N ∧ iv = .int .i64 (k : Int) ∧ sv = .int .i64 (fewS (T.take k) : Int) ∧ Below w.heap.size w wr) (fun iv sv _ => N - (intOf iv).toNat)
  case atStart => exact ⟨0, Nat.zero_le _, rfl, rfl, Below.refl _ _⟩
  case round =>
    obtain ⟨k, hk, rfl, rfl, hbr⟩ := hrel
    by_cases hlt : (k : Int) < (N : Int)
    · have hlt' : k < T.length := by omega
      obtain ⟨g', off', cap', x, hx, hv, x1, x2, x3⟩ := tri_at (HT.out.keep hbr) hlt'
      cases hv
      simp only [tmF] at x1 x2 x3
      have w9 : IntKind.i64.wrap ((k : Int) + 1) = ((k + 1 : Nat) : Int) := by rw [IntWalk.i64_in _ (by omega)]; omega
      have HBR := Lib.hid hbr
      have hs := fewS_snoc (T.take k) x
      rw [show T.take k ++ [x] = T.take (k + 1) by rw [List.take_add_one, hx]; rfl] at hs
      have hle := fewS_le (T.take k)
      rw [List.length_take] at hle
      obtain ⟨S, hS⟩ : ∃ S, fewS (T.take k) = S := ⟨_, rfl⟩
      rw [hS] at hs hle ⊢
      obtain ⟨xk, xn, xs⟩ := x
      simp only at x1 x2 x3 hs
      obtain ⟨q, hq⟩ : ∃ q, min xs.size 600 = q := ⟨_, rfl⟩
      have hqi : min (xs.size : Int) 600 = (q : Int) := by omega
      rw [hq] at hs
      have wS : IntKind.i64.wrap ((S : Int) + (q : Int)) = ((S + q : Nat) : Int) := by rw [IntWalk.i64_in _ (by omega)]; omega
      have HSN := Lib.hid hs
      have hk0 : (0 : Int) ≤ (k : Int) := by omega
      clear hbr hx hs
      go_wp2_with fail
      go_roundw
      case rel => exact ⟨k + 1, by omega, by first | rfl | rw [← w9], by rw [HSN.out]; first | rfl | (congr 1; omega), Below.thn HBR.out HBR.out.size (below1 wr _)⟩
      case measure => simp [intOf]; omega
    · have hkN : k = N := by omega
      subst hkN
      have HBR := Lib.hid hbr
      obtain ⟨S, hS⟩ : ∃ S, fewS (T.take k) = S := ⟨_, rfl⟩
      rw [hS] at HB ⊢
      clear hbr
      by_cases h3 : T.length ≤ 300
      · have h3' : (T.length : Int) ≤ 300 := by omega
        rw [decide_eq_true h3, Bool.true_and] at HB
        by_cases hS3 : S ≤ 3000
        · rw [decide_eq_true hS3] at HB
          have hS' : (S : Int) ≤ 3000 := by omega
          go_wp2_with fail
          go_ret
          exact ⟨by rw [HB.out]; rfl, HBR.out⟩
        · rw [decide_eq_false hS3] at HB
          have hS' : ¬ (S : Int) ≤ 3000 := by omega
          go_wp2_with fail
          go_ret
          exact ⟨by rw [HB.out]; rfl, HBR.out⟩
      · have h3' : ¬ (T.length : Int) ≤ 300 := by omega
        rw [decide_eq_false h3, Bool.false_and] at HB
        go_wp2_with fail
        go_ret
        exact ⟨by rw [HB.out]; rfl, HBR.out⟩
end Go.Proofs.YtdkflmpdelfgoaaGreatDoor
namespace Go.Proofs.YtdkflmpdelfgoaaGreatDoor
open Go.ChangeShapes Go.WideShapes Go.ChangeAt Go.RowKit
set_option linter.unusedVariables false
set_option linter.unusedSimpArgs false

def bruTab : List Int := [0, 1, 56, 2, 57, 49, 28, 3, 61, 58, 42, 50, 38, 29, 17, 4, 62, 47, 59, 36, 45, 43, 51, 22, 53, 39, 33, 30, 24, 18, 12, 5, 63, 55, 48, 27, 60, 41, 37, 16, 46, 35, 44, 21, 52, 32, 23, 11, 54, 26, 40, 15, 34, 20, 31, 10, 25, 14, 19, 9, 13, 8, 7, 6]
theorem tBru : (Tryz.prog.globals[3]?).map (·.type) = some 159 := by kernel_rfl
set_option maxRecDepth 100000 in
theorem laid_bru {H : Type} : (Rows.laid_math_bits_deBruijn64tab : DataW H) = Lib.tabData .u8 bruTab := rfl
set_option maxRecDepth 100000 in
theorem bru_of_laid {W : World} (h : laidMetH Tryz.prog lays W) : BruAt W := by
  rw [MakeChecks.laidMetH_plain _ _ _ (by kernel_rfl)] at h
  have h2 : laidMet Tryz.prog (("math/bits.deBruijn64tab", Lib.tabData .u8 bruTab) :: _) W := h.tail
  have hp := Lib.tabIs_of_head gBru tBru Tryz.underlying159 Tryz.underlying5 (by kernel_rfl) (by kernel_rfl) h2
  unfold Lib.TabIs at hp
  unfold BruAt
  rw [World.var?_cell gBru hp _]
  rfl
end Go.Proofs.YtdkflmpdelfgoaaGreatDoor
