/-
  All holes as a slice: slices.Collect of the program's iterator, the document's row, slices.Equal. No conditions beyond those that each lemma states.
-/
import Derived.Test.YtjkhgljlipljdaaDoorFixOpen
import Derived.OwnWalk
import Derived.WalkSmall
namespace Go.Proofs.YtjkhgljlipljdaaDoor
open Go.RowKit Go.Shelf
set_option linter.unusedVariables false
set_option linter.unusedSimpArgs false
attribute [local go_sem] Oper.semAt_some

theorem own_sliceN {W : World} {base size n : Nat} {t : TypeId} {v : Value} {xs : List Value} (h : W.ownsRow base t size v n xs) : ∃ a c, v = .slice a n c := by
  rcases h.2 with ⟨h1, h2⟩ | ⟨g, cap, cur, h1, _⟩
  · exact ⟨_, _, by rw [h2]; exact h1⟩
  · exact ⟨_, _, h1⟩
theorem own_mono {W W' : World} {base size n : Nat} {e : TypeId} {v : Value} {xs : List Value} (h : W.ownsRow base e size v n xs) {B : Nat} (hb : Below B W W') (hB : ∀ g, v.ownBlock = some g → g < B) : W'.ownsRow base e size v n xs := by
  refine ⟨h.1, ?_⟩
  rcases h.2 with h1 | ⟨g, cap, cur, rfl, h2, h3, h4⟩
  · exact .inl h1
  · exact .inr ⟨g, cap, cur, rfl, h2, (hb.block g (hB g rfl)).trans h3, h4⟩
theorem own_lt {W : World} {base size n : Nat} {e : TypeId} {v : Value} {xs : List Value} (h : W.ownsRow base e size v n xs) : ∀ g, v.ownBlock = some g → g < W.heap.size := by
  rcases h.2 with ⟨rfl, _⟩ | ⟨g, cap, cur, rfl, h2, h3, h4⟩
  · intro g hg; cases hg
  · intro g' hg; cases hg; exact (Array.getElem?_eq_some_iff.1 h3).1
theorem own_keep {B : Nat} {e : TypeId} {k : Nat} {v : Value} {n : Nat} {xs : List Value} {w w' : World} (h : w.ownsRow B e k v n xs) (hb : Below w.heap.size w w') : w'.ownsRow B e k v n xs := own_mono h hb (own_lt h)
theorem flat_put {n : Nat} : ∀ {C : List (List Value)}, (∀ x ∈ C, x.length = n) → ∀ (k : Nat) (x : List Value), C[k]? = some x → ∀ (i : Nat) u, x[i]? = some u → C.flatten[k * n + i]? = some u
  | [], _, k, x, h, _, _, _ => by simp at h
  | y :: C, hC, 0, x, h, i, u, hu => by
    simp only [List.getElem?_cons_zero, Option.some.injEq] at h
    subst h
    have hi : i < y.length := (List.getElem?_eq_some_iff.1 hu).1
    rw [List.flatten_cons, List.getElem?_append_left (by omega), show 0 * n + i = i by omega]
    exact hu
  | y :: C, hC, k + 1, x, h, i, u, hu => by
    have hy := hC y List.mem_cons_self
    have := flat_put (fun z hz => hC z (List.mem_cons_of_mem _ hz)) k x (by simpa using h) i u hu
    rw [List.flatten_cons, List.getElem?_append_right (by rw [hy, Nat.succ_mul]; omega), hy, show (k + 1) * n + i - n = k * n + i by rw [Nat.succ_mul]; omega]
    exact this
/-- a row of one's own reads as rows of n cells -/
theorem rows_of_own {n : Nat} {W : World} {base : Nat} {e : TypeId} {v : Value} {C : List (List Value)} (hC : ∀ x ∈ C, x.length = n) (h : W.ownsRow base e n v C.length C.flatten) : RowsO n W v C := by
  rcases h.2 with ⟨h1, h2⟩ | ⟨g, cap, cur, h1, h2, h3, h4, h5, h6, h7⟩
  · exact .inl ⟨.inl h1, List.length_eq_zero_iff.1 h2⟩
  · refine .inr ⟨g, 0, cap, h1, h4, h5, (Array.getElem?_eq_some_iff.1 h3).1, fun k x hx j y hy => ?_⟩
    have hf := flat_put hC k x hx j y hy
    rw [Lib.cell_of_heap h3, show 0 + k * n + j = k * n + j by omega]
    rw [← h7, List.getElem?_take] at hf
    split at hf
    · simpa using hf
    · cases hf
def hC (x : Nat × Nat) : List Value := [.int .i64 (x.1 : Int), .int .i64 (x.2 : Int), .int .i64 0, .string ⟨#[]⟩, .string ⟨#[]⟩]
def flatH (L : List (Nat × Nat)) : List Value := (L.map hC).flatten
theorem flatH_snoc (L : List (Nat × Nat)) (x : Nat × Nat) : flatH (L ++ [x]) = flatH L ++ hC x := by
  unfold flatH; rw [List.map_append, List.flatten_append]; simp
theorem cell_five_new (w : World) (x y z u v : Value) (t : TypeId) : ∀ j q, [x, y, z, u, v][j]? = some q → (w.alloc (.cells #[x, y, z, u, v] t)).cell? ((⟨w.heap.size, 0, none⟩ : Addr).add j) = some q := by
  intro j q h
  simp only [World.cell?, World.alloc, Addr.add, Nat.zero_add]
  match j, h with
  | 0, h => simpa using h
  | 1, h => simpa using h
  | 2, h => simpa using h
  | 3, h => simpa using h
  | 4, h => simpa using h
theorem infoHl : (Tryd.prog.info? 25).map (fun i => (i.zero, i.size, i.bytes)) = some (some (.agg #[.int .i64 0, .int .i64 0, .int .i64 0, .string ⟨#[]⟩, .string ⟨#[]⟩]), 5, 56) := by kernel_rfl
set_option maxRecDepth 100000 in
set_option maxHeartbeats 8000000 in
theorem appendSeq_holes (w : World) :
    Calls Tryd.prog 37 #[.slice none 0 0, .func (.func 35) #[] #[]] w fun e w' => (∃ v, e = .returned v ∧ w'.ownsRow w.heap.size 25 5 v holesL.length (flatH holesL)) ∧ Below w.heap.size w w' := by
  obtain ⟨i0, hi, hz0', hz1, hz2⟩ := info_parts infoHl
  have PT := Lib.hid (fun (n : Nat) (W : World) (hb : Below w.heap.size w W) => holes_tells n w.heap.size W hb.size)
  refine (callsIn_wide (n := 7)).1 ?_
  refine callsIn_of_wp_marks Tryd.func37 rfl trivial ?_ rfl
  simp only [Tryd.ntmps37, List.size_toArray, List.length_cons, List.length_nil, Nat.reduceAdd, Nat.reduceSub, Array.replicate_succ, Array.replicate_zero, List.push_toArray, List.append_toArray, List.nil_append, List.cons_append]
  gi_wp2_with fail
  have b1 := Boxed.new w 38 (.slice none 0 0)
  have hB0 := below1 w (.cells #[.slice none 0 0] 38)
  have hz0 : (w.alloc (.cells #[.slice none 0 0] 38)).heap.size = w.heap.size + 1 := by simp
  generalize w.alloc (.cells #[.slice none 0 0] 38) = W0 at *
  have hn0 : w.heap.size ≤ W0.heap.size := by omega
  have hown : Own (fun (s : List (Nat × Nat)) V => ∃ v, Boxed V w.heap.size 38 v ∧ V.ownsRow w.heap.size 25 5 v s.length (flatH s) ∧ True) :=
    holdsRow_own w.heap.size w.heap.size 38 25 5 (fun s : List (Nat × Nat) => s.length) (fun s => flatH s) (fun s _ => True)
  refine' range_tellsS (Fr := Below w.heap.size) Below.trans (fun W l o o' hl h ho _ => below_put (by omega)) (gf := 35) (lb := #[]) rfl enters_holes
    (PT.out _ _ hB0) (Below.refl _ _) (fun _ => rfl)
    (fun pre V => (∃ v, Boxed V w.heap.size 38 v ∧ V.ownsRow w.heap.size 25 5 v pre.length (flatH pre) ∧ True) ∧ Below w.heap.size w V)
    (fun c pre V => False)
    (OwnFrom.and (Own.from (fun s A C row hs hg hr => hown s A C row hs hg hr) _) (ownFrom_below (Nat.le_refl _) hn0))
    (fun c => Own.from (fun _ A C row hs hg hr => hs.elim) _)
    ⟨⟨_, b1, World.ownsRow_nil _ _ _ _, trivial⟩, hB0⟩
    (fun A B hA hAB => hAB.mono (by omega))
    (fun x a₁ X => ∃ b, w.heap.size + 1 ≤ b ∧ a₁ = { tmps := #[.slice none 0 0, .func (.func 35) #[] #[], .pointer (some ⟨w.heap.size, 0, none⟩), undef, .slice none 0 0, .pointer (some ⟨b, 0, none⟩), .func (.func 35) #[] #[], .agg #[.int .i64 (x.1 : Int), .int .i64 (x.2 : Int), .int .i64 0, .string ⟨#[]⟩, .string ⟨#[]⟩], undef, undef, undef, undef, undef], defers := [] } ∧ X.heap[b]? = some (.cells #[.int .i64 (x.1 : Int), .int .i64 (x.2 : Int), .int .i64 0, .string ⟨#[]⟩, .string ⟨#[]⟩] 25 (0, 0)))
    ?hAs ?hassign ?hbody ?hdone ?hstop
  case hAs =>
    refine Own.from ?_ _
    rintro s A C row ⟨b, hb, hs, hc⟩ hg hr
    exact ⟨b, hb, hs, cells_kept hc hg hr⟩
  case hassign =>
    intro m l x V K hV hK
    simp only [encH]
    gi_wp2
    exact hK _ _ (below1 V _) ⟨V.heap.size, by omega, rfl, heap_alloc_new V _⟩
  case hbody =>
    rintro m l pre x a1 V hl ⟨⟨v, hv, hrow, -⟩, hbel⟩ ⟨b, hb, rfl, hbx⟩ hlt
    obtain ⟨vb, vc, rfl⟩ := own_sliceN hrow
    have hc := hv.cell
    have hz : w.heap.size ≤ V.heap.size := hbel.size
    have HV := Lib.hid hv
    have hbl := heap_lt hbx
    obtain ⟨p0, p1, p2, p3, p4⟩ := five hbx
    clear hv hbx
    gi_wp2_with (gi_at_builtin; refine wpListIn_append_own _ rfl _ _ 38 rfl w.heap.size 25 i0 (.agg #[.int .i64 0, .int .i64 0, .int .i64 0, .string ⟨#[]⟩, .string ⟨#[]⟩]) 5 56 Tryd.underlying38 hi hz0' hz1 hz2 rfl (by decide) _ _ _ rfl (hrow.alloc _) ⟨V.heap.size, 0, none⟩ 1 1 (hC x) rfl rfl (cell_five_new _ _ _ _ _ _ _) (by simp [Value.oneCell', hC]) (by unfold maxLen; omega) (by omega) (by simp; omega) ?_; intro v' w1 hown' hgrow _; obtain ⟨g', cap', rfl⟩ := ownsRow_succ hown'; obtain ⟨hv1, hv2, hr2, hk2, hb2⟩ := HV.out.appended (by decide) hrow hz (by omega) hown' hgrow; have hc1 := hv1.cell; have hf1 := hv1.frozen)
    refine ⟨hk2.from _, hb2, ⟨_, hv2, ?_, trivial⟩, hbel.trans hb2⟩
    rw [List.length_append, flatH_snoc]
    exact hr2
  case hstop =>
    intro D c pre V hD hS hF hK
    exact hF.elim
  case hdone =>
    rintro D' ys V hD' rfl ⟨⟨v, hv, hrow, -⟩, hbel⟩ hK
    obtain ⟨vb, vc, rfl⟩ := own_sliceN hrow
    have d3 := hv.cell
    have ER := Lib.hid hrow
    clear hrow
    gi_wp2_with fail
    refine ⟨by simp, .inl ⟨_, _, rfl, run_takeDeferred hK, ?_⟩⟩
    refine ⟨.slice vb holesL.length vc, ?_, ⟨_, rfl, ?_⟩, hbel.trans (below_put (by omega))⟩
    · simp [results, Tryd.f37, go_sem]
    · exact ownsRow_putObj ER.out (.deferred none) hK rfl
theorem collect_holes (w : World) :
    Calls Tryd.prog 20 #[.func (.func 35) #[] #[]] w fun e w' => (∃ v, e = .returned v ∧ w'.ownsRow w.heap.size 25 5 v holesL.length (flatH holesL)) ∧ Below w.heap.size w w' := by
  have AS := Lib.hid (appendSeq_holes w)
  generalize flatH holesL = F at *
  generalize holesL.length = n at *
  go_enter Tryd.func20, Tryd.ntmps20
  go_wp2_with fail
  refine AS.out.mono ?_
  rintro e w1 ⟨⟨v, rfl, hr⟩, hb1⟩
  obtain ⟨vb, vc, rfl⟩ := own_sliceN hr
  have HR := Lib.hid hr
  have HB := Lib.hid hb1
  clear hr hb1
  go_wp2_with fail
  go_ret
  exact ⟨⟨_, rfl, HR.out⟩, HB.out⟩
end Go.Proofs.YtjkhgljlipljdaaDoor
