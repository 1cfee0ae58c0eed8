/-
  Arguments of the laws, opened: what they read as. Conditions: none.
-/
import Derived.Test.YtbheeahdbimeiaaStbF
import Derived.Lib.SmallJoins
import Derived.ChangeMaps
import Derived.ChangeMaps5
import Derived.SizedLaws
import Derived.Deep.Slices
import Derived.OpenShut
import Derived.Handed
import Derived.JoinedOf
namespace Go.Proofs.Ytbheeahdbimeiaa
open Go.RowKit Go.ChangeShapes Go.WideShapes Go.Deep
set_option linter.unusedVariables false
set_option linter.unusedSimpArgs false

theorem weightsAll_mem {H : Type} {P : Program} {e : TypeId} : ∀ {l : List (DataW H)} {d : DataW H}, d ∈ l → ∀ n ∈ d.weights P e, n ∈ DataW.weightsAll P e l
  | x :: r, d, h, n, hn => by
    rw [DataW.weightsAll]
    rcases List.mem_cons.1 h with rfl | h
    · exact List.mem_append_left _ hn
    · exact List.mem_append_right _ (weightsAll_mem h n hn)
theorem add_plain (g o k : Nat) : (Addr.mk g o none).add k = ⟨g, o + k, none⟩ := by
  cases k <;> simp [Addr.add]
theorem choose_lt {α : Type} [Inhabited α] {p : Nat → α → Prop} {n : Nat} (h : ∀ i, i < n → ∃ a, p i a) : ∃ f : Nat → α, ∀ i, i < n → p i (f i) := by
  classical
  exact ⟨fun i => if hi : i < n then Classical.choose (h i hi) else default, fun i hi => by simp only [dif_pos hi]; exact Classical.choose_spec (h i hi)⟩
section
variable {H : Type} {enc : TypeId × Value → H} {w : World} {base : Nat} {spare : Nat → Bool} {held : Bool}
theorem rows_open {tS tE : TypeId} (hu : Try.prog.underlying tS = some (.slice tE)) {n : Nat} (hc : Try.prog.cellsOf tE = n) (hn : 0 < n) {α : Type} [Inhabited α] (f : α → List Value) (hf : ∀ a, (f a).length = n) (G : α → DataW H → Prop)
    (elem : ∀ {fuel : Nat} {cs : List Value} {x : DataW H × List MemPlace}, DataW.trod enc Try.prog w base spare held fuel tE cs = some x → ∃ a, cs = f a ∧ G a x.1)
    {fuel : Nat} {v : Value} {x : DataW H × List MemPlace} (h : DataW.trod enc Try.prog w base spare held fuel tS [v] = some x) :
    ∃ L : List α, RowsO n w v (L.map f) ∧ ∀ a ∈ L, ∃ d, G a d ∧ ∀ m ∈ d.weights Try.prog tE, m ∈ x.1.weights Try.prog tS := by
  rcases open_slice hu h with ⟨hcs, _⟩ | ⟨a, len, cap, m, fu, D, Pl, hcs, hb, hl, hm, hmm, hx, hi⟩
  · simp only [List.cons.injEq, and_true] at hcs
    subst hcs
    exact ⟨[], .inl ⟨.inl rfl, rfl⟩, fun y hy => by cases hy⟩
  · simp only [List.cons.injEq, and_true] at hcs
    subst hcs
    rw [hc] at hi
    rcases Nat.eq_zero_or_pos len with rfl | hp
    · exact ⟨[], .inl ⟨.inr ⟨a, cap, rfl⟩, rfl⟩, fun y hy => by cases hy⟩
    have hlm : len ≤ m := by rw [hmm]; split <;> omega
    have each : ∀ i, i < len → ∃ y : α, (∀ j v, (f y)[j]? = some v → w.cell? ((a.add (i * n)).add j) = some v) ∧ G y (D i) := by
      intro i hil
      obtain ⟨cs', h1, h2⟩ := hi i (by omega)
      obtain ⟨_, _, hat⟩ := World.cells?_some h1
      obtain ⟨y, rfl, hg⟩ := elem h2
      refine ⟨y, fun j v hj => ?_, hg⟩
      have hjn : j < (f y).length := (List.getElem?_eq_some_iff.1 hj).1
      rw [hat j (by first | exact hjn | (rw [hf] at hjn; exact hjn))]
      exact hj
    obtain ⟨F, hF⟩ := choose_lt (α := α) (p := fun i (y : α) => (∀ j v, (f y)[j]? = some v → w.cell? ((a.add (i * n)).add j) = some v) ∧ G y (D i)) each
    obtain ⟨g, off, spot⟩ := a
    obtain ⟨v0, hv0⟩ : ∃ v0, (f (F 0))[0]? = some v0 := ⟨_, List.getElem?_eq_getElem (by rw [hf]; exact hn)⟩
    have h0 := (hF 0 hp).1 0 v0 hv0
    have hspot : spot = none := by simpa [Addr.add] using World.cell?_spot h0
    subst hspot
    have hlen : (((List.range len).map F).map f).length = len := by simp
    refine ⟨(List.range len).map F, .inr ⟨g, off, cap, by rw [hlen], by rw [hlen]; exact hl, hm, ?_, ?_⟩, ?_⟩
    · have := World.block_lt_of_cell? w _ h0
      simpa [Addr.add] using this
    · intro k y hy j v hj
      rw [List.getElem?_map, List.getElem?_map] at hy
      rcases Nat.lt_or_ge k len with hk | hk
      · rw [List.getElem?_range hk] at hy
        cases hy
        have := (hF k hk).1 j v hj
        rw [add_plain, add_plain] at this
        exact this
      · rw [List.getElem?_eq_none (by simpa using hk)] at hy; cases hy
    · intro y hy
      obtain ⟨i, hil, rfl⟩ := List.mem_map.1 hy
      have hil' := List.mem_range.1 hil
      refine ⟨D i, (hF i hil').2, fun q hq => ?_⟩
      rw [hx]
      simp only [DataW.weights, hu]
      exact List.mem_cons_of_mem _ (List.mem_append_left _ (weightsAll_mem (List.mem_map.2 ⟨i, hil, rfl⟩) _ hq))
theorem u8_wf {v : Int} (h : (Lit.int .u8 v).wf = true) : 0 ≤ v ∧ v ≤ 255 := by
  simp [Lit.wf, IntKind.min, IntKind.max, IntKind.bits, IntKind.signed] at h; omega
theorem k_u8 : Try.prog.cellsOf 5 = 1 := by kernel_rfl
theorem k_str : Try.prog.cellsOf 9 = 1 := by kernel_rfl
theorem by_elem {fuel : Nat} {cs : List Value} {x : DataW H × List MemPlace} (h : DataW.trod enc Try.prog w base spare held fuel 5 cs = some x) : ∃ b : Int, cs = byC b ∧ (0 ≤ b ∧ b ≤ 255) := by
  obtain ⟨a, e, _, hw⟩ := DataW.trod_int Try.underlying5 h
  exact ⟨a, e, u8_wf hw⟩
theorem bys_open {fuel : Nat} {v : Value} {x : DataW H × List MemPlace} (h : DataW.trod enc Try.prog w base spare held fuel 25 [v] = some x) : ∃ T : BA, BysO w v (nmOf T) := by
  obtain ⟨L, hL, hb⟩ := rows_open (n := 1) Try.underlying25 k_u8 (by decide) byC (fun _ => rfl) (fun b _ => 0 ≤ b ∧ b ≤ 255) (fun h => by_elem h) h
  exact ⟨strOfNums L, by rw [nm_str (fun b hb' => (hb b hb').choose_spec.1)]; exact hL⟩
theorem str_elem {fuel : Nat} {cs : List Value} {x : DataW H × List MemPlace} (h : DataW.trod enc Try.prog w base spare held fuel 9 cs = some x) : ∃ s : BA, cs = [Value.string s] ∧ s.size ∈ x.1.weights Try.prog 9 := by
  obtain ⟨a, e, r, _⟩ := DataW.trod_string Try.underlying9 h
  refine ⟨a, e, ?_⟩
  rw [r]
  simp [DataW.weights]
theorem strs_open {fuel : Nat} {v : Value} {x : DataW H × List MemPlace} (h : DataW.trod enc Try.prog w base spare held fuel 22 [v] = some x) : ∃ L : List BA, StrO w v L ∧ ∀ s ∈ L, s.size ∈ x.1.weights Try.prog 22 := by
  obtain ⟨L, hL, hb⟩ := rows_open (n := 1) Try.underlying22 k_str (by decide) (fun s : BA => [Value.string s]) (fun _ => rfl) (fun s d => s.size ∈ d.weights Try.prog 9) (fun h => str_elem h) h
  refine ⟨L, hL, fun s hs => ?_⟩
  obtain ⟨d, h1, h2⟩ := hb s hs
  exact h2 _ h1
end
theorem strs_sized {H : Type} {ts : List TypeId} {ds : List (DataW H)} (hsz : (DataW.weightsEach Try.prog ts ds).all (· ≤ reachBytes) = true) {j : Nat} {d : DataW H} {n : Nat} (ht : ts[j]? = some 22) (hd : ds[j]? = some d) (hn : n ∈ d.weights Try.prog 22) : n ≤ 140737488351232 := by
  have := List.all_eq_true.1 hsz _ (DataW.weights_mem_each ht hd n hn)
  exact of_decide_eq_true this
theorem st_sized {H : Type} {ts : List TypeId} {ds : List (DataW H)} (hsz : (DataW.weightsEach Try.prog ts ds).all (· ≤ reachBytes) = true) {j : Nat} {s : BA} (ht : ts[j]? = some 9) (hd : ds[j]? = some (.lit (.string s.data.toList))) : s.size ≤ 281474976710656 := by
  have h1 := sized_string hsz ht hd
  have h2 := reachBytes_lt
  have h3 : s.data.toList.length = s.size := by rw [Array.length_toList]; rfl
  omega
theorem own : ownKnob Try.prog.godebug = none := by kernel_rfl
theorem laidOut : laidOutB Try.prog = true := by kernel_rfl
theorem returns_sized {H : Type} {enc : TypeId × Value → H} {a : Assume} {C : Checked} {os : Os} {f : FuncId} {fn : Func} {s : ChangeSpec} {conds : List PathCond} {apart fresh handsOn again : Bool}
    (own : ownKnob C.prog.godebug = none) (started : os.Started) (noInit : C.prog.inits.idxOf? f = none) (hfn : C.prog.funcs[f]? = some fn)
    (witness : ∃ (w : World) (tape : Tape) (i : Input), w.os = os ∧ (w.forCall tape i).Shaped C.prog ∧ i.vars = [] ∧ Input.okWide C.prog (w.forCall tape i) .any w.heap.size f i ∧
      s.pre6 enc C.prog fn conds apart (w.forCall tape i).memory i.args ∧ a.holds C.prog (lone (Frame.enter C.prog f i.args .normal) [] (w.forCall tape i)))
    (contract : ∀ (W : World) (base : Nat) (args : Array Value) (ds gs : List (DataW H)) (before : List MemPlace),
      (∀ (j : Nat) t v, fn.params[j]? = some t → args[j]? = some v → Value.okWide C.prog W .any base t v) →
      DataW.Whole enc C.prog fn.params.toList s.vars apart W args.toList ds gs before →
      conds.all (PathCond.test C.prog ⟨fn.params.toList, ds, s.plain.varTypes C.prog, gs⟩) = true →
      (DataW.weightsEach C.prog (fn.params.toList ++ s.plain.varTypes C.prog) (ds ++ gs)).all (· ≤ reachBytes) = true →
      a.holds C.prog (lone (Frame.enter C.prog f args .normal) [] W) →
      Calls C.prog f args W fun e W' => ∃ v, e = .returned v ∧ s.post enc C.prog fn apart fresh handsOn again W args v W') :
    ReturnsInHanded a C os f .any (s.pre6 enc C.prog fn conds apart) (s.post enc C.prog fn apart fresh handsOn again) := by
  have e : s.pre6 enc C.prog fn conds apart = fun w args => (s.pre enc C.prog fn conds apart w args ∧ True) ∧ sizedMet enc C.prog fn (OpenSpec.ofChange s) apart w args := by
    funext w args; simp [ChangeSpec.pre6]
  rw [e] at witness ⊢
  exact returnsInHanded_of_change_and (X := fun _ _ => True) (fun _ _ _ _ h => h) own started noInit hfn witness (fun W base args ds gs before h1 h2 h3 h4 _ h5 => contract W base args ds gs before h1 h2 h3 h4 h5)
end Go.Proofs.Ytbheeahdbimeiaa
