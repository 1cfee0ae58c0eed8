/-
  told, slices.Equal at tokens, begun: what each call returns. Conditions: what the variables of the library hold (Good), and the sizes that each lemma states.
-/
import Derived.Test.YtjmdcimfmmfinaaDoorLexS
namespace Go.Proofs.YtjmdcimfmmfinaaDoor
open Go.RowKit Go.Shelf
attribute [local go_sem] Oper.semAt_some

theorem own_sliceN {W : World} {base size N : Nat} {t : TypeId} {v : Value} {xs : List Value} (h : W.ownsRow base t size v N xs) : ∃ b c, v = .slice b N c := by
  rcases h.2 with ⟨h1, h2⟩ | ⟨g, cap, cur, h1, _⟩
  · exact ⟨_, 0, by rw [h1, h2]⟩
  · exact ⟨_, _, h1⟩
theorem not_nilT (p : Option Addr) (w : World) : (binOp BinOp.eql 33 (Value.func (Fn.func 32) #[] #[.pointer p]) Value.nilFunc).run Tryd.prog w = .ok (.bool false) w := by
  kernel_rfl
set_option maxRecDepth 100000 in
set_option maxHeartbeats 8000000 in
/-- told: the tokens that are told, at most so many -/
theorem told_any (line : ByteArray) (bl most : Nat) (w : World) (hG : Good w) (hm : line.size ≤ maxLen) (hbl : w.heap[bl]? = some (.cells #[.string line] 9 (0, 0))) :
    Calls Tryd.prog 14 #[.func (.func 32) #[] #[.pointer (some ⟨bl, 0, none⟩)], .int .i64 (most : Int)] w fun e w' => (∃ v, e = .returned v ∧ w'.ownsRow w.heap.size 30 4 v ((lineB line.data.toList).1.take most).length (tokC ((lineB line.data.toList).1.take most))) ∧ Below w.heap.size w w' := by
  obtain ⟨i0, hi, hz0', hz1, hz2⟩ := info_parts infoTok
  have PT := Lib.hid (fun (n : Nat) (W : World) (hb : Below w.heap.size w W) => tokens_tells line bl n w.heap.size W (hG.thn hb) hG.size hb.size hm ((hb.block bl (heap_lt hbl)).trans hbl))
  refine (callsIn_wide (n := 7)).1 ?_
  refine callsIn_of_wp_marks Tryd.func14 rfl trivial ?_ rfl
  simp only [Tryd.ntmps14, List.size_toArray, List.length_cons, List.length_nil, Nat.reduceAdd, Nat.reduceSub, Array.replicate_succ, Array.replicate_zero, List.push_toArray, List.append_toArray, List.nil_append, List.cons_append]
  have NN := not_nilT (some ⟨bl, 0, none⟩)
  gi_wp2_with fail
  have b0 := (Boxed.new w 3 (.int .i64 (most : Int))).alloc (.cells #[.slice none 0 0] 22)
  have b1 := Boxed.new (w.alloc (.cells #[.int .i64 (most : Int)] 3)) 22 (.slice none 0 0)
  have hB0 : Below w.heap.size w ((w.alloc (.cells #[.int .i64 (most : Int)] 3)).alloc (.cells #[.slice none 0 0] 22)) := ((Below.refl _ w).alloc (Nat.le_refl _) _).alloc (by simp) _
  have hz0 : ((w.alloc (.cells #[.int .i64 (most : Int)] 3)).alloc (.cells #[.slice none 0 0] 22)).heap.size = w.heap.size + 2 := by simp
  simp only [World.size_alloc] at b1
  generalize (w.alloc (.cells #[.int .i64 (most : Int)] 3)).alloc (.cells #[.slice none 0 0] 22) = W0 at *
  have hn0 : w.heap.size ≤ W0.heap.size := by omega
  generalize hT : (lineB line.data.toList).1 = T at *
  have hown : Own (fun (s : List Tok) V => ∃ v, Boxed V (w.heap.size + 1) 22 v ∧ V.ownsRow w.heap.size 30 4 v s.length (tokC s) ∧ s.length ≤ most) :=
    holdsRow_own w.heap.size (w.heap.size + 1) 22 30 4 (fun s : List Tok => s.length) (fun s => tokC s) (fun s _ => s.length ≤ most)
  refine' range_tellsS (Fr := Kt w.heap.size) Kt.trans (fun W l o o' hl h ho _ => kt_put hn0 W l o o' hl h ho) (gf := 32) (lb := #[.pointer (some ⟨bl, 0, none⟩)]) rfl enters_tokens
    (PT.out _ _ hB0) (Below.refl _ _) (fun _ => rfl)
    (fun pre V => (Boxed V w.heap.size 3 (.int .i64 (most : Int)) ∧ ∃ v, Boxed V (w.heap.size + 1) 22 v ∧ V.ownsRow w.heap.size 30 4 v pre.length (tokC pre) ∧ pre.length ≤ most) ∧ Below w.heap.size w V)
    (fun c pre V => ((c = .exit 0 ∧ ∃ l x, pre = l ++ [x] ∧ l.length = most ∧ ∃ v, Boxed V (w.heap.size + 1) 22 v ∧ V.ownsRow w.heap.size 30 4 v l.length (tokC l) ∧ l.length ≤ most)) ∧ Below w.heap.size w V)
    (OwnFrom.and (Own.from (fun s A C row hs hg hr => ⟨boxed_any hs.1 hg hr, hown s A C row hs.2 hg hr⟩) _) (ownFrom_below (Nat.le_refl _) hn0))
    (fun c => OwnFrom.and (Own.from (fun _ A C row hs hg hr => by
      obtain ⟨rfl, l, x, rfl, h1, h2⟩ := hs
      exact ⟨rfl, l, x, rfl, h1, hown l A C row h2 hg hr⟩) _) (ownFrom_below (Nat.le_refl _) hn0))
    ⟨⟨b0, _, b1, World.ownsRow_nil _ _ _ _, Nat.zero_le _⟩, hB0⟩
    (fun A B hA hAB => kt_below (by omega) hAB)
    (fun x a₁ V => ∃ b, w.heap.size + 2 ≤ b ∧ a₁ = { tmps := #[.func (.func 32) #[] #[.pointer (some ⟨bl, 0, none⟩)], .int .i64 (most : Int), undef, .pointer (some ⟨w.heap.size, 0, none⟩), .slice none 0 0, .pointer (some ⟨w.heap.size + 1, 0, none⟩), .pointer (some ⟨b, 0, none⟩), .func (.func 32) #[] #[.pointer (some ⟨bl, 0, none⟩)], .bool false, .func (.func 32) #[] #[.pointer (some ⟨bl, 0, none⟩)], .agg #[.int .i64 x.k, .string ⟨x.t.toArray⟩, .int .u64 (x.n : Int), .int .i64 x.p], undef, undef, undef, undef, undef, undef, undef, undef, undef], defers := [] } ∧ V.heap[b]? = some (.cells #[.int .i64 x.k, .string ⟨x.t.toArray⟩, .int .u64 (x.n : Int), .int .i64 x.p] 30 (0, 0)))
    ?hAs ?hassign ?hbody ?hdone ?hstop
  case hAs =>
    refine Own.from ?_ _
    rintro s A C row ⟨b, hb, hs, hc⟩ hg hr
    exact ⟨b, hb, hs, cells_kept hc hg hr⟩
  case hassign =>
    intro m l x V K hV hK
    simp only [encT]
    gi_wp2
    exact hK _ _ (below1 V _) ⟨V.heap.size, by omega, rfl, heap_alloc_new V _⟩
  case hbody =>
    rintro m l pre x a1 V hl ⟨⟨c0, v, hv, hrow, hpre⟩, hbel⟩ ⟨b, hb, rfl, hbx⟩ hlt
    obtain ⟨vb, vc, rfl⟩ := own_sliceN hrow
    have hc := hv.cell
    have d0 := c0.cell
    have hz : w.heap.size ≤ V.heap.size := hbel.size
    have HTB := Lib.hid (own_tab hrow rfl)
    have HV := Lib.hid hv
    have hbl := heap_lt hbx
    have p0 : V.cell? ⟨b, 0, none⟩ = some (.int .i64 x.k) := by rw [Lib.cell_of_heap hbx]; rfl
    have p1 : V.cell? ⟨b, 1, none⟩ = some (.string ⟨x.t.toArray⟩) := by rw [Lib.cell_of_heap hbx]; rfl
    have p2 : V.cell? ⟨b, 2, none⟩ = some (.int .u64 (x.n : Int)) := by rw [Lib.cell_of_heap hbx]; rfl
    have p3 : V.cell? ⟨b, 3, none⟩ = some (.int .i64 x.p) := by rw [Lib.cell_of_heap hbx]; rfl
    obtain ⟨D, hD⟩ : ∃ D, (⟨x.t.toArray⟩ : ByteArray) = D := ⟨_, rfl⟩
    rw [hD] at p1
    rw [hD]
    have HB := Lib.hid hbx
    by_cases hc2 : most ≤ pre.length
    · have e0 : ((most : Int) ≤ (pre.length : Int)) := by omega
      clear hbx hv
      gi_wp2_with fail
      exact ⟨KeepsFrom.refl _ _, ⟨rfl, pre, x, rfl, by omega, _, HV.out, hrow, hpre⟩, hbel⟩
    · have e0 : ((pre.length : Int) < (most : Int)) := by omega
      have hcap : pre.length + 1 ≤ 512 := by omega
      clear hbx hv
      gi_wp2_with (gi_at_builtin; refine wpListIn_append_own _ rfl _ _ 22 rfl w.heap.size 30 i0 (.agg #[.int .i64 0, .string ⟨#[]⟩, .int .u64 0, .int .i64 0]) 4 40 Tryd.underlying22 hi hz0' hz1 hz2 rfl (by decide) _ _ _ rfl (hrow.alloc _) ⟨V.heap.size, 0, none⟩ 1 1 [.int .i64 x.k, .string D, .int .u64 (x.n : Int), .int .i64 x.p] rfl rfl (cell_four_new _ _ _ _ _ _) (by simp [Value.oneCell']) (by unfold maxLen; omega) (by omega) (by simp; omega) ?_; intro v' w1 hown' hgrow _; obtain ⟨g', cap', rfl⟩ := ownsRow_succ hown'; obtain ⟨hv1, hv2, hr2, hk2, hb2⟩ := HV.out.appended (by decide) hrow hz (by omega) hown' hgrow; have hc1 := hv1.cell; have hf1 := hv1.frozen)
      have k1 : KeepsTabs V w1 := (tabs_below (below1 V _)).trans (tabs_grown hgrow (fun r hr => by
        obtain ⟨c, t, z, h1, h2⟩ := HTB.out r hr
        exact ⟨c, t, z, (Below.heap_alloc _ _ _ (Array.getElem?_eq_some_iff.1 h1).1).trans h1, h2⟩))
      have k2 := k1.trans (tabs_set (o := 0) hv1 rfl (.slice (some ⟨g', 0, none⟩) (pre.length + 1) cap'))
      have hrA := hrow.alloc (.cells #[.int .i64 x.k, .string D, .int .u64 (x.n : Int), .int .i64 x.p] 30)
      refine ⟨hk2.from _, ⟨hb2, k2⟩, ⟨boxed_set ((c0.alloc _).kept hgrow (own_ne hrA (c0.alloc _) (by decide))) (by omega), _, hv2, ?_, ?_⟩, hbel.trans hb2⟩
      · rw [List.length_append, tokC_snoc, hD]
        exact hr2
      · rw [List.length_append, List.length_singleton]; omega
  case hdone =>
    rintro D ys V hD rfl ⟨⟨c0, v, hv, hrow, hpre⟩, hbel⟩ hK
    obtain ⟨vb, vc, rfl⟩ := own_sliceN hrow
    have d3 := hv.cell
    have ER := Lib.hid hrow
    clear hrow
    gi_wp2_with fail
    refine ⟨by simp, .inl ⟨_, _, rfl, run_takeDeferred hK, ?_⟩⟩
    refine ⟨.slice vb ys.length vc, ?_, ⟨_, rfl, ?_⟩, hbel.trans (kt_put hn0 _ D _ _ hD hK rfl).1⟩
    · simp [results, Tryd.f14, go_sem]
    · rw [hT, List.take_of_length_le hpre]
      exact ownsRow_putObj ER.out (.deferred none) hK rfl
  case hstop =>
    rintro D c ys V hD hS ⟨⟨rfl, l, x, rfl, hl, v, hv, hrow, _⟩, hbel⟩ hK
    obtain ⟨vb, vc, rfl⟩ := own_sliceN hrow
    obtain ⟨r, hr⟩ := hS
    have d3 := hv.cell
    have ER := Lib.hid hrow
    have HX := Lib.hid (show T.take most = l by rw [← hr, List.append_assoc]; exact List.take_left' hl)
    clear hrow hr
    gi_wp2_with fail
    refine ⟨by simp, .inl ⟨_, _, rfl, run_takeDeferred hK, ?_⟩⟩
    refine ⟨.slice vb l.length vc, ?_, ⟨_, rfl, ?_⟩, hbel.trans (kt_put hn0 _ D _ _ hD hK rfl).1⟩
    · simp [results, Tryd.f14, go_sem, hl]
    · rw [hT, HX.out]
      exact ownsRow_putObj ER.out (.deferred none) hK rfl

/-- a slice reads as tokens -/
def TokS (W : World) (v : Value) (T : List Tok) : Prop := (v = .slice none 0 0 ∧ T = []) ∨ ∃ g cap, v = .slice (some ⟨g, 0, none⟩) T.length cap ∧ g < W.heap.size ∧
  ∀ (k : Nat) (x : Tok), T[k]? = some x → W.cell? ⟨g, k * 4, none⟩ = some (.int .i64 x.k) ∧ W.cell? ⟨g, k * 4 + 1, none⟩ = some (.string ⟨x.t.toArray⟩) ∧ W.cell? ⟨g, k * 4 + 2, none⟩ = some (.int .u64 (x.n : Int)) ∧ W.cell? ⟨g, k * 4 + 3, none⟩ = some (.int .i64 x.p)
theorem TokS.keep {W W' : World} {v : Value} {T : List Tok} (h : TokS W v T) (hb : Below W.heap.size W W') : TokS W' v T := by
  rcases h with h | ⟨g, cap, h1, h2, h3⟩
  · exact .inl h
  · refine .inr ⟨g, cap, h1, Nat.lt_of_lt_of_le h2 hb.size, fun k x hx => ?_⟩
    obtain ⟨a, b, c, d⟩ := h3 k x hx
    have k0 : ∀ j, W'.cell? ⟨g, j, none⟩ = W.cell? ⟨g, j, none⟩ := fun j => hb.cell (p := ⟨g, j, none⟩) h2
    exact ⟨(k0 _).trans a, (k0 _).trans b, (k0 _).trans c, (k0 _).trans d⟩
theorem tokC_at : ∀ (T : List Tok) (k : Nat) (x : Tok), T[k]? = some x → (tokC T)[k * 4]? = some (.int .i64 x.k) ∧ (tokC T)[k * 4 + 1]? = some (.string ⟨x.t.toArray⟩) ∧ (tokC T)[k * 4 + 2]? = some (.int .u64 (x.n : Int)) ∧ (tokC T)[k * 4 + 3]? = some (.int .i64 x.p)
  | [], k, x, h => by simp at h
  | y :: T, 0, x, h => by simp at h; subst h; exact ⟨rfl, rfl, rfl, rfl⟩
  | y :: T, k + 1, x, h => by
    have := tokC_at T k x (by simpa using h)
    rw [show (k + 1) * 4 = k * 4 + 1 + 1 + 1 + 1 by omega]
    exact this
theorem toks_of_own {W : World} {base : Nat} {v : Value} {T : List Tok} (h : W.ownsRow base 30 4 v T.length (tokC T)) : TokS W v T := by
  rcases h.2 with ⟨h1, h2⟩ | ⟨g, cap, cur, h1, h2, h3, h4, h5, h6, h7⟩
  · exact .inl ⟨h1, List.length_eq_zero_iff.1 h2⟩
  · refine .inr ⟨g, cap, h1, (Array.getElem?_eq_some_iff.1 h3).1, fun k x hx => ?_⟩
    obtain ⟨a, b, c, d⟩ := tokC_at T k x hx
    have hk : k < T.length := by
      rcases Nat.lt_or_ge k T.length with g | g
      · exact g
      · rw [List.getElem?_eq_none g] at hx; cases hx
    have key : ∀ j, j < T.length * 4 → W.cell? ⟨g, j, none⟩ = (tokC T)[j]? := by
      intro j hj
      rw [← h7, List.getElem?_take, if_pos hj]
      unfold World.cell?
      simp only [h3]
      simp
    exact ⟨(key _ (by omega)).trans a, (key _ (by omega)).trans b, (key _ (by omega)).trans c, (key _ (by omega)).trans d⟩
theorem toks_len {W : World} {v : Value} {T : List Tok} (h : TokS W v T) (V' : World) : Sem.run Tryd.prog (Builtin.len_ #[22] 3 #[v]) V' = .ok (.int .i64 (T.length : Int)) V' := by
  rcases h with ⟨h, h0⟩ | ⟨g, cap, h, _⟩
  · rw [h0, h]; simp [Builtin.len_, go_sem]
  · rw [h]; simp [Builtin.len_, go_sem]
theorem toks_at {W : World} {v : Value} {T : List Tok} (h : TokS W v T) {k : Nat} (hk : k < T.length) : ∃ g cap x, T[k]? = some x ∧ v = .slice (some ⟨g, 0, none⟩) T.length cap ∧ W.cell? ⟨g, k * 4, none⟩ = some (.int .i64 x.k) ∧ W.cell? ⟨g, k * 4 + 1, none⟩ = some (.string ⟨x.t.toArray⟩) ∧ W.cell? ⟨g, k * 4 + 2, none⟩ = some (.int .u64 (x.n : Int)) ∧ W.cell? ⟨g, k * 4 + 3, none⟩ = some (.int .i64 x.p) := by
  rcases h with ⟨_, h0⟩ | ⟨g, cap, h, _, hc⟩
  · rw [h0] at hk; cases hk
  · obtain ⟨x, hx⟩ : ∃ x, T[k]? = some x := ⟨_, List.getElem?_eq_getElem hk⟩
    exact ⟨g, cap, x, hx, h, hc k x hx⟩

set_option maxRecDepth 100000 in
set_option maxHeartbeats 2000000 in
/-- two slices that read as the same tokens are equal -/
theorem equal_toks (s1 s2 : Value) (T : List Tok) (w : World) (h1 : TokS w s1 T) (h2 : TokS w s2 T) (hlen : T.length ≤ 1000000) :
    Calls Tryd.prog 13 #[s1, s2] w fun e w' => e = .returned (.bool true) ∧ Below w.heap.size w w' := by
  have LN1 := toks_len h1
  have LN2 := toks_len h2
  have R1 := Lib.hid h1
  have R2 := Lib.hid h2
  clear h1 h2
  go_enter Tryd.func13, Tryd.ntmps13
  go_wp2_with fail
  go_loopw [13] (fun i wr => ∃ k q : Nat, k ≤ T.length ∧ i = .int .i64 (k : Int) ∧ wr = w.drewN q) (fun i _ => T.length - (intOf i).toNat)
  case atStart => exact ⟨0, 0, Nat.zero_le _, rfl, rfl⟩
  case round =>
    obtain ⟨k, q, hk, rfl, rfl⟩ := hrel
    obtain ⟨X, hX⟩ : ∃ X, w.drewN q = X := ⟨_, rfl⟩
    rw [hX]
    have HX := Lib.hid hX
    clear hX
    by_cases hlt : (k : Int) < (T.length : Int)
    · have hlt' : k < T.length := by omega
      have c1 : ∀ p, w.cell? p = X.cell? p := fun p => by rw [← HX.out]; simp
      obtain ⟨g1, cap1, x, hx, rfl, x1, x2, x3, x4⟩ := toks_at R1.out hlt'
      obtain ⟨g2, cap2, x', hx', rfl, y1, y2, y3, y4⟩ := toks_at R2.out hlt'
      obtain rfl : x = x' := Option.some.inj (hx.symm.trans hx')
      rw [c1] at x1 x2 x3 x4 y1 y2 y3 y4
      obtain ⟨D, hD⟩ : ∃ D, (⟨x.t.toArray⟩ : ByteArray) = D := ⟨_, rfl⟩
      rw [hD] at x2 y2
      obtain ⟨kk, tt, nn, pp⟩ := x
      simp only at x1 x2 x3 x4 y1 y2 y3 y4
      have w9 : IntKind.i64.wrap ((k : Int) + 1) = ((k + 1 : Nat) : Int) := by rw [IntWalk.i64_in _ (by omega)]; omega
      clear hx hx' hD c1
      go_wp2_with fail
      go_quiet (fail)
      go_wp2_with fail
      all_goals exact ⟨⟨k + 1, q + nq, by omega, by first | rfl | rw [← w9], by rw [← HX.out]; simp⟩, by simp [intOf]; omega⟩
    · go_wp2_with fail
      go_ret
      exact ⟨rfl, by rw [← HX.out]; exact below_drewN (Below.refl _ _) q⟩
end Go.Proofs.YtjmdcimfmmfinaaDoor
