/-
  An argument that is an object, opened: what it reads as, that its names are among its weights. Conditions: none.
-/
import Derived.Test.YtopghgoheaaceaaObjP
import Derived.Lib.SmallJoins
import Derived.ChangeMaps
import Derived.ChangeMaps5
import Derived.SizedLaws
import Derived.Deep.Slices
import Derived.OpenShut
import Derived.Handed
import Derived.JoinedOf
namespace Go.Proofs.Ytopghgoheaaceaa
open Go.RowKit Go.ChangeShapes Go.WideShapes Go.Deep
set_option linter.unusedVariables false
set_option linter.unusedSimpArgs false

theorem list2 {α : Type} : ∀ {l : List α}, l.length = 2 → ∃ a b, l = [a, b]
  | [a, b], _ => ⟨a, b, rfl⟩
theorem list4 {α : Type} : ∀ {l : List α}, l.length = 4 → ∃ a b c d, l = [a, b, c, d]
  | [a, b, c, d], _ => ⟨a, b, c, d, rfl⟩
theorem list6 {α : Type} : ∀ {l : List α}, l.length = 6 → ∃ a b c d e f, l = [a, b, c, d, e, f]
  | [a, b, c, d, e, f], _ => ⟨a, b, c, d, e, f, rfl⟩
theorem weightsAll_mem {H : Type} {P : Program} {e : TypeId} : ∀ {l : List (DataW H)} {d : DataW H}, d ∈ l → ∀ n ∈ d.weights P e, n ∈ DataW.weightsAll P e l
  | x :: r, d, h, n, hn => by
    rw [DataW.weightsAll]
    rcases List.mem_cons.1 h with rfl | h
    · exact List.mem_append_left _ hn
    · exact List.mem_append_right _ (weightsAll_mem h n hn)
theorem add_plain (g o k : Nat) : (Addr.mk g o none).add k = ⟨g, o + k, none⟩ := by
  cases k <;> simp [Addr.add]
theorem choose_lt {α : Type} [Inhabited α] {p : Nat → α → Prop} {n : Nat} (h : ∀ i, i < n → ∃ a, p i a) : ∃ f : Nat → α, ∀ i, i < n → p i (f i) := by
  classical
  exact ⟨fun i => if hi : i < n then Classical.choose (h i hi) else default, fun i hi => by simp only [dif_pos hi]; exact Classical.choose_spec (h i hi)⟩
section
variable {H : Type} {enc : TypeId × Value → H} {w : World} {base : Nat} {spare : Nat → Bool} {held : Bool}
theorem rows_open {tS tE : TypeId} (hu : Try.prog.underlying tS = some (.slice tE)) {n : Nat} (hc : Try.prog.cellsOf tE = n) (hn : 0 < n) {α : Type} [Inhabited α] (f : α → List Value) (hf : ∀ a, (f a).length = n) (G : α → DataW H → Prop)
    (elem : ∀ {fuel : Nat} {cs : List Value} {x : DataW H × List MemPlace}, DataW.trod enc Try.prog w base spare held fuel tE cs = some x → ∃ a, cs = f a ∧ G a x.1)
    {fuel : Nat} {v : Value} {x : DataW H × List MemPlace} (h : DataW.trod enc Try.prog w base spare held fuel tS [v] = some x) :
    ∃ L : List α, RowsO n w v (L.map f) ∧ ∀ a ∈ L, ∃ d, G a d ∧ ∀ m ∈ d.weights Try.prog tE, m ∈ x.1.weights Try.prog tS := by
  rcases open_slice hu h with ⟨hcs, _⟩ | ⟨a, len, cap, m, fu, D, Pl, hcs, hb, hl, hm, hmm, hx, hi⟩
  · simp only [List.cons.injEq, and_true] at hcs
    subst hcs
    exact ⟨[], .inl ⟨.inl rfl, rfl⟩, fun y hy => by cases hy⟩
  · simp only [List.cons.injEq, and_true] at hcs
    subst hcs
    rw [hc] at hi
    rcases Nat.eq_zero_or_pos len with rfl | hp
    · exact ⟨[], .inl ⟨.inr ⟨a, cap, rfl⟩, rfl⟩, fun y hy => by cases hy⟩
    have hlm : len ≤ m := by rw [hmm]; split <;> omega
    have each : ∀ i, i < len → ∃ y : α, (∀ j v, (f y)[j]? = some v → w.cell? ((a.add (i * n)).add j) = some v) ∧ G y (D i) := by
      intro i hil
      obtain ⟨cs', h1, h2⟩ := hi i (by omega)
      obtain ⟨_, _, hat⟩ := World.cells?_some h1
      obtain ⟨y, rfl, hg⟩ := elem h2
      refine ⟨y, fun j v hj => ?_, hg⟩
      have hjn : j < (f y).length := (List.getElem?_eq_some_iff.1 hj).1
      rw [hat j (by first | exact hjn | (rw [hf] at hjn; exact hjn))]
      exact hj
    obtain ⟨F, hF⟩ := choose_lt (α := α) (p := fun i (y : α) => (∀ j v, (f y)[j]? = some v → w.cell? ((a.add (i * n)).add j) = some v) ∧ G y (D i)) each
    obtain ⟨g, off, spot⟩ := a
    obtain ⟨v0, hv0⟩ : ∃ v0, (f (F 0))[0]? = some v0 := ⟨_, List.getElem?_eq_getElem (by rw [hf]; exact hn)⟩
    have h0 := (hF 0 hp).1 0 v0 hv0
    have hspot : spot = none := by simpa [Addr.add] using World.cell?_spot h0
    subst hspot
    have hlen : (((List.range len).map F).map f).length = len := by simp
    refine ⟨(List.range len).map F, .inr ⟨g, off, cap, by rw [hlen], by rw [hlen]; exact hl, hm, ?_, ?_⟩, ?_⟩
    · have := World.block_lt_of_cell? w _ h0
      simpa [Addr.add] using this
    · intro k y hy j v hj
      rw [List.getElem?_map, List.getElem?_map] at hy
      rcases Nat.lt_or_ge k len with hk | hk
      · rw [List.getElem?_range hk] at hy
        cases hy
        have := (hF k hk).1 j v hj
        rw [add_plain, add_plain] at this
        exact this
      · rw [List.getElem?_eq_none (by simpa using hk)] at hy; cases hy
    · intro y hy
      obtain ⟨i, hil, rfl⟩ := List.mem_map.1 hy
      have hil' := List.mem_range.1 hil
      refine ⟨D i, (hF i hil').2, fun q hq => ?_⟩
      rw [hx]
      simp only [DataW.weights, hu]
      exact List.mem_cons_of_mem _ (List.mem_append_left _ (weightsAll_mem (List.mem_map.2 ⟨i, hil, rfl⟩) _ hq))
instance : Inhabited Rl := ⟨⟨0, 0, 0, 0⟩⟩
instance : Inhabited Sy := ⟨⟨⟨#[]⟩, 0, 0, false⟩⟩
instance : Inhabited Sc := ⟨⟨⟨#[]⟩, 0, 0, 0, .slice none 0 0, .slice none 0 0, [], []⟩⟩
theorem u8_wf {v : Int} (h : (Lit.int .u8 v).wf = true) : 0 ≤ v ∧ v ≤ 255 := by
  simp [Lit.wf, IntKind.min, IntKind.max, IntKind.bits, IntKind.signed] at h; omega
theorem k_int : Try.prog.cellsOf 3 = 1 := by kernel_rfl
theorem k_i64 : Try.prog.cellsOf 2 = 1 := by kernel_rfl
theorem k_str : Try.prog.cellsOf 9 = 1 := by kernel_rfl
theorem k_bool : Try.prog.cellsOf 4 = 1 := by kernel_rfl
theorem k_u8 : Try.prog.cellsOf 5 = 1 := by kernel_rfl
theorem k_bys : Try.prog.cellsOf 37 = 1 := by kernel_rfl
theorem k_rls : Try.prog.cellsOf 38 = 1 := by kernel_rfl
theorem k_rl : Try.prog.cellsOf 42 = 4 := by kernel_rfl
theorem k_sc : Try.prog.cellsOf 40 = 6 := by kernel_rfl
theorem k_sy : Try.prog.cellsOf 36 = 4 := by kernel_rfl
theorem by_elem {fuel : Nat} {cs : List Value} {x : DataW H × List MemPlace} (h : DataW.trod enc Try.prog w base spare held fuel 5 cs = some x) :
    ∃ b : Int, cs = byC b ∧ 0 ≤ b ∧ b ≤ 255 := by
  obtain ⟨b, e, _, hw⟩ := DataW.trod_int Try.underlying5 h
  exact ⟨b, e, u8_wf hw⟩
theorem rl_elem {fuel : Nat} {cs : List Value} {x : DataW H × List MemPlace} (h : DataW.trod enc Try.prog w base spare held fuel 42 cs = some x) :
    ∃ r : Rl, cs = rlC r ∧ True := by
  obtain ⟨xs, m, _, hx, hl, hlen, hf⟩ := DataW.trod_struct Try.underlying42 h
  rw [k_rl] at hl
  obtain ⟨c0, c1, c2, c3, rfl⟩ := list4 hl
  obtain ⟨y0, y1, y2, y3, rfl⟩ := list4 hlen
  have f0 : DataW.trod enc Try.prog w base spare held m 2 (List.take (Try.prog.cellsOf 2) (List.drop 0 [c0, c1, c2, c3])) = some y0 := hf 0 _ rfl
  have f1 : DataW.trod enc Try.prog w base spare held m 3 (List.take (Try.prog.cellsOf 3) (List.drop 1 [c0, c1, c2, c3])) = some y1 := hf 1 _ rfl
  have f2 : DataW.trod enc Try.prog w base spare held m 3 (List.take (Try.prog.cellsOf 3) (List.drop 2 [c0, c1, c2, c3])) = some y2 := hf 2 _ rfl
  have f3 : DataW.trod enc Try.prog w base spare held m 2 (List.take (Try.prog.cellsOf 2) (List.drop 3 [c0, c1, c2, c3])) = some y3 := hf 3 _ rfl
  rw [k_i64] at f0 f3
  rw [k_int] at f1 f2
  obtain ⟨a, e0, _, _⟩ := DataW.trod_int Try.underlying2 f0
  obtain ⟨b, e1, _, _⟩ := DataW.trod_int Try.underlying3 f1
  obtain ⟨c, e2, _, _⟩ := DataW.trod_int Try.underlying3 f2
  obtain ⟨d, e3, _, _⟩ := DataW.trod_int Try.underlying2 f3
  simp only [List.drop_succ_cons, List.drop_zero, List.take_succ_cons, List.take_zero, List.cons.injEq, and_true] at e0 e1 e2 e3
  subst e0 e1 e2 e3
  exact ⟨⟨a, b, c, d⟩, rfl, trivial⟩
theorem sy_elem {fuel : Nat} {cs : List Value} {x : DataW H × List MemPlace} (h : DataW.trod enc Try.prog w base spare held fuel 36 cs = some x) :
    ∃ y : Sy, cs = syC y ∧ y.name.size ∈ x.1.weights Try.prog 36 := by
  obtain ⟨xs, m, _, hx, hl, hlen, hf⟩ := DataW.trod_struct Try.underlying36 h
  rw [k_sy] at hl
  obtain ⟨c0, c1, c2, c3, rfl⟩ := list4 hl
  obtain ⟨y0, y1, y2, y3, rfl⟩ := list4 hlen
  have f0 : DataW.trod enc Try.prog w base spare held m 9 (List.take (Try.prog.cellsOf 9) (List.drop 0 [c0, c1, c2, c3])) = some y0 := hf 0 _ rfl
  have f1 : DataW.trod enc Try.prog w base spare held m 3 (List.take (Try.prog.cellsOf 3) (List.drop 1 [c0, c1, c2, c3])) = some y1 := hf 1 _ rfl
  have f2 : DataW.trod enc Try.prog w base spare held m 2 (List.take (Try.prog.cellsOf 2) (List.drop 2 [c0, c1, c2, c3])) = some y2 := hf 2 _ rfl
  have f3 : DataW.trod enc Try.prog w base spare held m 4 (List.take (Try.prog.cellsOf 4) (List.drop 3 [c0, c1, c2, c3])) = some y3 := hf 3 _ rfl
  rw [k_str] at f0
  rw [k_int] at f1
  rw [k_i64] at f2
  rw [k_bool] at f3
  obtain ⟨a, e0, r0, _⟩ := DataW.trod_string Try.underlying9 f0
  obtain ⟨b, e1, _, _⟩ := DataW.trod_int Try.underlying3 f1
  obtain ⟨c, e2, _, _⟩ := DataW.trod_int Try.underlying2 f2
  obtain ⟨d, e3, _⟩ := DataW.trod_bool Try.underlying4 f3
  simp only [List.drop_succ_cons, List.drop_zero, List.take_succ_cons, List.take_zero, List.cons.injEq, and_true] at e0 e1 e2 e3
  subst e0 e1 e2 e3
  refine ⟨⟨a, b, c, d⟩, rfl, ?_⟩
  rw [hx, r0, size_list]
  simp [DataW.weights, Try.underlying36, DataW.weightsEach]
theorem sc_elem {fuel : Nat} {cs : List Value} {x : DataW H × List MemPlace} (h : DataW.trod enc Try.prog w base spare held fuel 40 cs = some x) :
    ∃ s : Sc, cs = scC s ∧ ScIn w s ∧ s.name.size ∈ x.1.weights Try.prog 40 ∧ ∀ b ∈ s.data, 0 ≤ b ∧ b ≤ 255 := by
  obtain ⟨xs, m, _, hx, hl, hlen, hf⟩ := DataW.trod_struct Try.underlying40 h
  rw [k_sc] at hl
  obtain ⟨c0, c1, c2, c3, c4, c5, rfl⟩ := list6 hl
  obtain ⟨y0, y1, y2, y3, y4, y5, rfl⟩ := list6 hlen
  have f0 : DataW.trod enc Try.prog w base spare held m 9 (List.take (Try.prog.cellsOf 9) (List.drop 0 [c0, c1, c2, c3, c4, c5])) = some y0 := hf 0 _ rfl
  have f1 : DataW.trod enc Try.prog w base spare held m 3 (List.take (Try.prog.cellsOf 3) (List.drop 1 [c0, c1, c2, c3, c4, c5])) = some y1 := hf 1 _ rfl
  have f2 : DataW.trod enc Try.prog w base spare held m 2 (List.take (Try.prog.cellsOf 2) (List.drop 2 [c0, c1, c2, c3, c4, c5])) = some y2 := hf 2 _ rfl
  have f3 : DataW.trod enc Try.prog w base spare held m 2 (List.take (Try.prog.cellsOf 2) (List.drop 3 [c0, c1, c2, c3, c4, c5])) = some y3 := hf 3 _ rfl
  have f4 : DataW.trod enc Try.prog w base spare held m 37 (List.take (Try.prog.cellsOf 37) (List.drop 4 [c0, c1, c2, c3, c4, c5])) = some y4 := hf 4 _ rfl
  have f5 : DataW.trod enc Try.prog w base spare held m 38 (List.take (Try.prog.cellsOf 38) (List.drop 5 [c0, c1, c2, c3, c4, c5])) = some y5 := hf 5 _ rfl
  rw [k_str] at f0
  rw [k_int] at f1
  rw [k_i64] at f2 f3
  rw [k_bys] at f4
  rw [k_rls] at f5
  obtain ⟨a, e0, r0, _⟩ := DataW.trod_string Try.underlying9 f0
  obtain ⟨b, e1, _, _⟩ := DataW.trod_int Try.underlying3 f1
  obtain ⟨c, e2, _, _⟩ := DataW.trod_int Try.underlying2 f2
  obtain ⟨d, e3, _, _⟩ := DataW.trod_int Try.underlying2 f3
  simp only [List.drop_succ_cons, List.drop_zero, List.take_succ_cons, List.take_zero, List.cons.injEq, and_true] at e0 e1 e2 e3 f4 f5
  obtain ⟨D, hD, hDb⟩ := rows_open (n := 1) Try.underlying37 k_u8 (by decide) byC (fun _ => rfl) (fun b _ => 0 ≤ b ∧ b ≤ 255) (fun h => by_elem h) f4
  obtain ⟨L, hL, _⟩ := rows_open (n := 4) Try.underlying38 k_rl (by decide) rlC (fun _ => rfl) (fun _ _ => True) (fun h => rl_elem h) f5
  subst e0 e1 e2 e3
  refine ⟨⟨a, b, c, d, c4, c5, D, L⟩, rfl, ⟨hD, hL⟩, ?_, fun z hz => (hDb z hz).choose_spec.1⟩
  rw [hx, r0, size_list]
  simp [DataW.weights, Try.underlying40, DataW.weightsEach]
/-- the bytes are bytes -/
def Bytes8 (o : Obj') : Prop := ∀ s ∈ o.secs, ∀ b ∈ s.data, 0 ≤ b ∧ b ≤ 255
theorem ob_open {fuel : Nat} {sv yv : Value} {xs ys : DataW H × List MemPlace} (h1 : DataW.trod enc Try.prog w base spare held fuel 22 [sv] = some xs) (h2 : DataW.trod enc Try.prog w base spare held fuel 23 [yv] = some ys) :
    ∃ o : Obj', o.sv = sv ∧ o.yv = yv ∧ ObjO w o ∧ Bytes8 o ∧ (∀ s ∈ o.secs, s.name.size ∈ xs.1.weights Try.prog 22) ∧ ∀ y ∈ o.syms, y.name.size ∈ ys.1.weights Try.prog 23 := by
  obtain ⟨S, hS, hSb⟩ := rows_open (n := 6) Try.underlying22 k_sc (by decide) scC (fun _ => rfl) (fun s d => ScIn w s ∧ s.name.size ∈ d.weights Try.prog 40 ∧ ∀ b ∈ s.data, 0 ≤ b ∧ b ≤ 255) (fun h => sc_elem h) h1
  obtain ⟨Y, hY, hYb⟩ := rows_open (n := 4) Try.underlying23 k_sy (by decide) syC (fun _ => rfl) (fun y d => y.name.size ∈ d.weights Try.prog 36) (fun h => sy_elem h) h2
  refine ⟨⟨sv, yv, S, Y⟩, rfl, rfl, ⟨⟨hS, fun s hs => ?_⟩, hY⟩, fun s hs => ?_, fun s hs => ?_, fun y hy => ?_⟩
  · obtain ⟨d, h, _⟩ := hSb s hs; exact h.1
  · obtain ⟨d, h, _⟩ := hSb s hs; exact h.2.2
  · obtain ⟨d, h, k⟩ := hSb s hs; exact k _ h.2.1
  · obtain ⟨d, h, k⟩ := hYb y hy; exact k _ h
end
theorem ob_sized {H : Type} {ts : List TypeId} {ds : List (DataW H)} (hsz : (DataW.weightsEach Try.prog ts ds).all (· ≤ reachBytes) = true) {j : Nat} {d0 d1 : DataW H} (ht : ts[j]? = some 25) (hd : ds[j]? = some (.agg [d0, d1])) {n : Nat}
    (hn : n ∈ d0.weights Try.prog 22 ∨ n ∈ d1.weights Try.prog 23) : n ≤ 281474976710656 := by
  have h2 := reachBytes_lt
  have hm : n ∈ (DataW.agg [d0, d1]).weights Try.prog 25 := by
    rcases hn with h | h <;> simp [DataW.weights, Try.underlying25, DataW.weightsEach, h]
  have := of_decide_eq_true (List.all_eq_true.1 hsz _ (DataW.weights_mem_each ht hd _ hm))
  omega
theorem st_sized {H : Type} {ts : List TypeId} {ds : List (DataW H)} (hsz : (DataW.weightsEach Try.prog ts ds).all (· ≤ reachBytes) = true) {j : Nat} {s : BA} (ht : ts[j]? = some 9) (hd : ds[j]? = some (.lit (.string s.data.toList))) : s.size ≤ 281474976710656 := by
  have h1 := sized_string hsz ht hd
  have h2 := reachBytes_lt
  rw [size_list]; omega
theorem own : ownKnob Try.prog.godebug = none := by kernel_rfl
theorem laidOut : laidOutB Try.prog = true := by kernel_rfl
theorem returns_sized {H : Type} {enc : TypeId × Value → H} {a : Assume} {C : Checked} {os : Os} {f : FuncId} {fn : Func} {s : ChangeSpec} {conds : List PathCond} {apart fresh handsOn again : Bool}
    (own : ownKnob C.prog.godebug = none) (started : os.Started) (noInit : C.prog.inits.idxOf? f = none) (hfn : C.prog.funcs[f]? = some fn)
    (witness : ∃ (w : World) (tape : Tape) (i : Input), w.os = os ∧ (w.forCall tape i).Shaped C.prog ∧ i.vars = [] ∧ Input.okWide C.prog (w.forCall tape i) .any w.heap.size f i ∧
      s.pre6 enc C.prog fn conds apart (w.forCall tape i).memory i.args ∧ a.holds C.prog (lone (Frame.enter C.prog f i.args .normal) [] (w.forCall tape i)))
    (contract : ∀ (W : World) (base : Nat) (args : Array Value) (ds gs : List (DataW H)) (before : List MemPlace),
      (∀ (j : Nat) t v, fn.params[j]? = some t → args[j]? = some v → Value.okWide C.prog W .any base t v) →
      DataW.Whole enc C.prog fn.params.toList s.vars apart W args.toList ds gs before →
      conds.all (PathCond.test C.prog ⟨fn.params.toList, ds, s.plain.varTypes C.prog, gs⟩) = true →
      (DataW.weightsEach C.prog (fn.params.toList ++ s.plain.varTypes C.prog) (ds ++ gs)).all (· ≤ reachBytes) = true →
      a.holds C.prog (lone (Frame.enter C.prog f args .normal) [] W) →
      Calls C.prog f args W fun e W' => ∃ v, e = .returned v ∧ s.post enc C.prog fn apart fresh handsOn again W args v W') :
    ReturnsInHanded a C os f .any (s.pre6 enc C.prog fn conds apart) (s.post enc C.prog fn apart fresh handsOn again) := by
  have e : s.pre6 enc C.prog fn conds apart = fun w args => (s.pre enc C.prog fn conds apart w args ∧ True) ∧ sizedMet enc C.prog fn (OpenSpec.ofChange s) apart w args := by
    funext w args; simp [ChangeSpec.pre6]
  rw [e] at witness ⊢
  exact returnsInHanded_of_change_and (X := fun _ _ => True) (fun _ _ _ _ h => h) own started noInit hfn witness (fun W base args ds gs before h1 h2 h3 h4 _ h5 => contract W base args ds gs before h1 h2 h3 h4 h5)
end Go.Proofs.Ytopghgoheaaceaa
