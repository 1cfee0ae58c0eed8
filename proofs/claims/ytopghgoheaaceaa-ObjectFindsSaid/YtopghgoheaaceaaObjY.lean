/-
  told, slices.Equal at texts: what each call returns. Conditions: how the names lie, how many there are.
-/
import Derived.Test.YtopghgoheaaceaaObjX
import Derived.Test.YtopghgoheaaceaaObjL
import Derived.Test.YtopghgoheaaceaaObjT
namespace Go.Proofs.Ytopghgoheaaceaa
open Go.RowKit Go.Shelf
set_option linter.unusedVariables false
set_option linter.unusedSimpArgs false
attribute [local go_sem] Oper.semAt_some

theorem own_ne {V : World} {base size n B : Nat} {e t : TypeId} {v u : Value} {xs : List Value} (h : V.ownsRow base e size v n xs) (hb : Boxed V B t u) (hne : t ≠ e) : some B ≠ v.ownBlock := by
  intro he
  rcases h.2 with ⟨h1, _⟩ | ⟨g, cap, cur, h1, h2, h3, _⟩
  · rw [h1] at he; cases he
  · have e' : B = g := by rw [h1] at he; exact Option.some.inj he
    rw [← e', show V.heap[B]? = _ from hb] at h3
    cases h3; exact hne rfl
theorem not_nilS (p : Option Addr) (w : World) : (binOp BinOp.eql 51 (Value.func (Fn.func 79) #[] #[.pointer p]) Value.nilFunc).run Try.prog w = .ok (.bool false) w := by
  kernel_rfl
theorem map_snoc (D : List BA) (x : BA) : (D ++ [x]).map Value.string = D.map Value.string ++ [.string x] := by simp
set_option maxRecDepth 100000 in
set_option maxHeartbeats 8000000 in
/-- told: the names that are told, at most so many -/
theorem told_any (v : Value) (T : List BA) (most : Nat) (w : World) (hv : NamesIt w v T) (hp : ∃ p, v = .func (.func 79) #[] #[.pointer p]) (hlen : T.length ≤ 300) :
    Calls Try.prog 30 #[v, .int .i64 (most : Int)] w fun e w' => (∃ u, e = .returned u ∧ StrO w' u (T.take most)) ∧ Below w.heap.size w w' := by
  obtain ⟨i0, hi, hz0', hz1, hz2⟩ := info_parts infoStr
  obtain ⟨p, rfl⟩ := hp
  obtain ⟨g, lb, he, hge, hseq⟩ := hv
  cases he
  have GE := Lib.hid hge
  have GT := Lib.hid (hseq BA (fun s => s) T (List.map_id' T))
  clear hge hseq
  refine (callsIn_wide (n := 7)).1 ?_
  refine callsIn_of_wp_marks Try.func30 rfl trivial ?_ rfl
  simp only [Try.ntmps30, List.size_toArray, List.length_cons, List.length_nil, Nat.reduceAdd, Nat.reduceSub, Array.replicate_succ, Array.replicate_zero, List.push_toArray, List.append_toArray, List.nil_append, List.cons_append]
  have NN := not_nilS p
  gi_wp2_with fail
  have b0 := (Boxed.new w 3 (.int .i64 (most : Int))).alloc (.cells #[.slice none 0 0] 46)
  have b1 := Boxed.new (w.alloc (.cells #[.int .i64 (most : Int)] 3)) 46 (.slice none 0 0)
  have hB0 : Below w.heap.size w ((w.alloc (.cells #[.int .i64 (most : Int)] 3)).alloc (.cells #[.slice none 0 0] 46)) := ((Below.refl _ w).alloc (Nat.le_refl _) _).alloc (by simp) _
  have hz0 : ((w.alloc (.cells #[.int .i64 (most : Int)] 3)).alloc (.cells #[.slice none 0 0] 46)).heap.size = w.heap.size + 2 := by simp
  simp only [World.size_alloc] at b1
  generalize (w.alloc (.cells #[.int .i64 (most : Int)] 3)).alloc (.cells #[.slice none 0 0] 46) = W0 at *
  have hn0 : w.heap.size ≤ W0.heap.size := by omega
  have hown : Own (fun (s : List BA) V => ∃ v, Boxed V (w.heap.size + 1) 46 v ∧ V.ownsRow w.heap.size 9 1 v s.length (s.map Value.string) ∧ s.length ≤ most) :=
    holdsRow_own w.heap.size (w.heap.size + 1) 46 9 1 (fun s : List BA => s.length) (fun s => s.map Value.string) (fun s _ => s.length ≤ most)
  refine' wpIn_rangeFunc_ownF rfl (by decide) (gf := 79) (lb := #[.pointer p]) rfl trivial GE.out
    (GT.out _) (fun h k => h.trans k) (belowK_b (w := W0) (by omega)) hB0 (fun _ => rfl)
    (fun pre V => (Boxed V w.heap.size 3 (.int .i64 (most : Int)) ∧ ∃ v, Boxed V (w.heap.size + 1) 46 v ∧ V.ownsRow w.heap.size 9 1 v pre.length (pre.map Value.string) ∧ pre.length ≤ most) ∧ Below w.heap.size w V)
    (fun c pre V => ((c = .exit 0 ∧ ∃ l x, pre = l ++ [x] ∧ l.length = most ∧ ∃ v, Boxed V (w.heap.size + 1) 46 v ∧ V.ownsRow w.heap.size 9 1 v l.length (l.map Value.string) ∧ l.length ≤ most)) ∧ Below w.heap.size w V)
    (OwnFrom.and (Own.from (fun s A C row hs hg hr => ⟨boxed_own hs.1 hg hr, hown s A C row hs.2 hg hr⟩) _) (ownFrom_below (Nat.le_refl _) hn0))
    (fun c => OwnFrom.and (Own.from (fun _ A C row hs hg hr => by
      obtain ⟨rfl, l, x, rfl, h1, h2⟩ := hs
      exact ⟨rfl, l, x, rfl, h1, hown l A C row h2 hg hr⟩) _) (ownFrom_below (Nat.le_refl _) hn0))
    ?h0 _ ?assign ?body ?done ?stop
  case assign =>
    intro l x V K hK
    simp only [encN]
    gi_wp2
    exact hK
  case h0 => exact ⟨⟨b0, _, b1, World.ownsRow_nil _ _ _ _, Nat.zero_le _⟩, hB0⟩
  case body =>
    rintro l pre x V ⟨⟨c0, v, hv, hrow, hpre⟩, hbel⟩ hlt
    obtain ⟨vb, vc, rfl⟩ := own_sliceN hrow
    have hc := hv.cell
    have d0 := c0.cell
    have hz : w.heap.size ≤ V.heap.size := hbel.size
    have HV := Lib.hid hv
    by_cases hc2 : most ≤ pre.length
    · have e0 : ((most : Int) ≤ (pre.length : Int)) := by omega
      clear hv
      gi_wp2_with fail
      exact ⟨KeepsOthers.refl _, ⟨rfl, pre, x, rfl, by omega, _, HV.out, hrow, hpre⟩, hbel⟩
    · have e0 : ((pre.length : Int) < (most : Int)) := by omega
      have hcap : pre.length + 1 ≤ 512 := by omega
      clear hv
      gi_wp2_with (gi_at_builtin; refine wpListIn_append_own _ rfl _ _ 46 rfl w.heap.size 9 i0 (.string ⟨#[]⟩) 1 16 Try.underlying46 hi hz0' hz1 hz2 rfl (by decide) _ _ _ rfl (hrow.alloc _) ⟨V.heap.size, 0, none⟩ 1 1 [.string x] rfl rfl (news_one _ _ _) (by simp [Value.oneCell']) (by unfold maxLen; omega) (by omega) (by simp; omega) ?_; intro v' w1 hown' hgrow _; obtain ⟨g', cap', rfl⟩ := ownsRow_succ hown'; obtain ⟨hv1, hv2, hr2, hk2, hb2⟩ := HV.out.appended (by decide) hrow hz (by omega) hown' hgrow; have hc1 := hv1.cell; have hf1 := hv1.frozen)
      have hrA := hrow.alloc (.cells #[.string x] 9)
      refine ⟨hk2, hb2, ⟨boxed_set ((c0.alloc _).kept hgrow (own_ne hrA (c0.alloc _) (by decide))) (by omega), _, hv2, ?_, ?_⟩, hbel.trans hb2⟩
      · rw [List.length_append, map_snoc]
        exact hr2
      · rw [List.length_append, List.length_singleton]; omega
  case done =>
    rintro D ys V hD rfl ⟨⟨c0, v, hv, hrow, hpre⟩, hbel⟩ hK
    obtain ⟨vb, vc, rfl⟩ := own_sliceN hrow
    have d3 := hv.cell
    have ER := Lib.hid hrow
    clear hrow
    gi_wp2_with fail
    refine ⟨by simp, .inl ⟨_, _, rfl, run_takeDeferred hK, ?_⟩⟩
    refine ⟨.slice vb ys.length vc, ?_, ⟨_, rfl, ?_⟩, hbel.trans (belowK_b (w := w) (Nat.le_refl _) _ D _ _ (by omega) hK rfl rfl)⟩
    · simp [results, Try.f30, go_sem]
    · rw [List.take_of_length_le hpre]
      exact str_of_own (ownsRow_putObj ER.out (.deferred none) hK rfl)
  case stop =>
    rintro D c ys V hD hS ⟨⟨rfl, l, x, rfl, hl, v, hv, hrow, _⟩, hbel⟩ hK
    obtain ⟨vb, vc, rfl⟩ := own_sliceN hrow
    obtain ⟨r, hr⟩ := hS
    have d3 := hv.cell
    have ER := Lib.hid hrow
    have HX := Lib.hid (show T.take most = l by rw [← hr, List.append_assoc]; exact List.take_left' hl)
    clear hrow hr
    gi_wp2_with fail
    refine ⟨by simp, .inl ⟨_, _, rfl, run_takeDeferred hK, ?_⟩⟩
    refine ⟨.slice vb l.length vc, ?_, ⟨_, rfl, ?_⟩, hbel.trans (belowK_b (w := w) (Nat.le_refl _) _ D _ _ (by omega) hK rfl rfl)⟩
    · simp [results, Try.f30, go_sem, hl]
    · rw [HX.out]
      exact str_of_own (ownsRow_putObj ER.out (.deferred none) hK rfl)
set_option maxRecDepth 100000 in
set_option maxHeartbeats 4000000 in
theorem equal_strs (v u : Value) (D : List BA) (w : World) (hv : StrO w v D) (hu : StrO w u D) (hlen : D.length ≤ 300) :
    Calls Try.prog 29 #[v, u] w fun e w' => e = .returned (.bool true) ∧ Below w.heap.size w w' := by
  have HV := Lib.hid hv
  have HU := Lib.hid hu
  obtain ⟨a, c, rfl⟩ := hv.slice
  obtain ⟨a2, c2, rfl⟩ := hu.slice
  clear hv hu
  go_enter Try.func29, Try.ntmps29
  go_wp2_with fail
  go_loopw [13] (fun iv wr => ∃ k : Nat, k ≤ D.length ∧ iv = .int .i64 (k : Int) ∧ Hid (Below w.heap.size w wr)) (fun iv _ => D.length - (intOf iv).toNat)
  case atStart => exact ⟨0, Nat.zero_le _, rfl, Lib.hid (Below.refl _ _)⟩
  case round =>
    obtain ⟨k, hk, rfl, hbr⟩ := hrel
    by_cases hlt : (k : Int) < (D.length : Int)
    · have hlt' : k < D.length := by omega
      obtain ⟨g, off, cap, x, hx, hv, hg, x0⟩ := (HV.out.keep hbr.out).at hlt'
      obtain ⟨g2, off2, cap2, y, hy, hv2, hg2, y0⟩ := (HU.out.keep hbr.out).at hlt'
      cases hv
      cases hv2
      rw [hx] at hy
      cases hy
      have w9 : IntKind.i64.wrap ((k : Int) + 1) = ((k + 1 : Nat) : Int) := by rw [IntWalk.i64_in _ (by omega)]; omega
      have hyes := str_yes x
      clear hx
      go_wp2_with fail
      go_quiet (fail)
      go_wp2_with fail
      go_roundw
      case rel => exact ⟨k + 1, by omega, by first | rfl | rw [← w9], Lib.hid (below_drewN hbr.out _)⟩
      case measure => simp [intOf]; omega
    · go_wp2_with fail
      go_ret
      exact ⟨rfl, hbr.out⟩
theorem str_take {W : World} {a : Option Addr} {n c : Nat} {D : List BA} (h : StrO W (.slice a n c) D) (m : Nat) (hm : m ≤ n) : StrO W (.slice a m c) (D.take m) := by
  have hn : n = D.length := by
    obtain ⟨a', c', e⟩ := h.slice
    cases e; rfl
  rcases h with ⟨h1, h0⟩ | ⟨g, off, cap, h1, h2, h3, h4, h5⟩
  · have hD : D = [] := by simpa using h0
    subst hD
    obtain rfl : m = 0 := by rw [hn] at hm; simpa using hm
    rcases h1 with h1 | ⟨a', c', h1⟩
    · cases h1; exact .inl ⟨.inl rfl, rfl⟩
    · cases h1; exact .inl ⟨.inr ⟨_, _, rfl⟩, rfl⟩
  · rw [List.length_map] at h1 h2
    cases h1
    refine .inr ⟨g, off, c, by rw [List.length_map, List.length_take, Nat.min_eq_left hm], by rw [List.length_map, List.length_take]; omega, h3, h4, fun k x hx j y hy => ?_⟩
    refine h5 k x ?_ j y hy
    rw [List.getElem?_map] at hx ⊢
    rw [List.getElem?_take] at hx
    split at hx
    · exact hx
    · simp at hx
end Go.Proofs.Ytopghgoheaaceaa
