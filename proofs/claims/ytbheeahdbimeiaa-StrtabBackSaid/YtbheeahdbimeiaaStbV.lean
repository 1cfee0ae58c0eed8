/-
  The table of three names is as the document tells; the rows that Names goes through; whether a name is among others. Conditions: how the arguments lie, and their sizes.
-/
import Derived.Test.YtbheeahdbimeiaaStbU
namespace Go.Proofs.Ytbheeahdbimeiaa
open Go.RowKit Go.Maps Go.Shelf
set_option linter.unusedVariables false
set_option linter.unusedSimpArgs false
attribute [local go_sem] Oper.semAt_some

theorem strs_of_block {W : World} {g : Nat} {D : List BA} {t : TypeId} {z : Nat × Nat} (h : W.heap[g]? = some (.cells (D.map Value.string).toArray t z)) (hl : D.length ≤ maxLen) : StrO W (.slice (some ⟨g, 0, none⟩) D.length D.length) D := by
  refine .inr ⟨g, 0, D.length, by rw [List.length_map], by rw [List.length_map]; exact Nat.le_refl _, hl, heap_lt h, fun k x hx j y hy => ?_⟩
  rw [List.getElem?_map] at hx
  obtain ⟨s, hs, rfl⟩ := Option.map_eq_some_iff.1 hx
  have hj : j = 0 := by
    rcases j with _ | j
    · rfl
    · cases hy
  subst hj
  cases hy
  rw [Lib.cell_of_heap h]
  simp [hs]
def n3 : List BA := [⟨#[97]⟩, ⟨#[98, 99]⟩, ⟨#[97]⟩]
theorem n3_ok : bldE n3 = 0 ∧ outI n3 n3.length = [0, 97, 0, 98, 99, 0] ∧ atI n3 n3.length = [1, 3, 1] := by
  refine ⟨by decide, by decide, by decide⟩
set_option maxRecDepth 100000 in
set_option maxHeartbeats 2000000 in
theorem live_any (w : World) :
    Calls Try.prog 8 #[] w fun e w' => e = .returned (.bool true) ∧ Below w.heap.size w w' := by
  have hS := strs_of_block (D := n3) (heap_alloc_new w (.cells (n3.map Value.string).toArray 9)) (by decide)
  have BU := Lib.hid (build_any _ n3 _ hS (by decide) (by decide))
  have h3 := n3_ok
  have IE := Lib.hid (fun u v l W h1 h2 => intsEq_same u v l W h1 h2)
  go_enter Try.func8, Try.ntmps8
  go_wp2_with fail
  refine (BU.out).mono ?_
  rintro e w1 ⟨(⟨hb, _⟩ | ⟨_, v1, v2, rfl, h1, h2⟩), hb2⟩
  · exact absurd h3.1 hb
  rw [h3.2.1] at h1
  rw [h3.2.2] at h2
  have hcv := conv_any h1
  rw [show strOfNums [0, 97, 0, 98, 99, 0] = (⟨#[0, 97, 0, 98, 99, 0]⟩ : BA) from by decide] at hcv
  obtain ⟨ya, yc, rfl⟩ := h1.slice
  obtain ⟨za, zc, rfl⟩ := h2.slice
  have hcv2 : (convert 25 9 (.slice ya 6 yc)).run Try.prog w1 = .ok (.string ⟨#[0, 97, 0, 98, 99, 0]⟩) w1 := hcv
  clear hcv
  have HB2 := Lib.hid (Below.thn (below1 w (.cells (n3.map Value.string).toArray 9)) (by simp) hb2)
  have HL : Hid (NusO (w1.alloc (.cells (inL [1, 3, 1]).toArray 3)) (.slice (some ⟨w1.heap.size, 0, none⟩) 3 3) [1, 3, 1]) := Lib.hid (row_of_block (l := [1, 3, 1]) (heap_alloc_new w1 (.cells (inL [1, 3, 1]).toArray 3)) (by decide))
  have H2 : Hid (NusO (w1.alloc (.cells (inL [1, 3, 1]).toArray 3)) (.slice za 3 zc) [1, 3, 1]) := Lib.hid (h2.keep (below1 w1 (.cells (inL [1, 3, 1]).toArray 3)))
  clear h1 h2 hb2 h3 hS BU
  go_wp2_with fail
  refine (IE.out _ _ _ _ H2.out HL.out).mono ?_
  rintro e w2 ⟨rfl, hb3⟩
  have HB3 := Lib.hid (Below.thn HB2.out HB2.out.size ((below1 w1 (.cells (inL [1, 3, 1]).toArray 3)).trans (hb3.mono (by simp))))
  clear hb3
  go_wp2_with fail
  go_ret
  exact ⟨rfl, HB3.out⟩
theorem not_nil (f b : Nat) (w : World) : (binOp BinOp.eql 56 (Value.func (Fn.func f) #[] #[.pointer (some ⟨b, 0, none⟩)]) Value.nilFunc).run Try.prog w = .ok (.bool false) w := by
  kernel_rfl
theorem kt_row {A B : World} {base k n : Nat} {t : TypeId} {v : Value} {xs : List Value} (h : A.ownsRow base t k v n xs) (hg : A.grownBy B v.ownBlock) (ht : isTab t = false) : KT A B := by
  rcases h.2 with ⟨rfl, _⟩ | ⟨g, cap, cur, rfl, _, hb, _⟩
  · exact fun b c t' z _ hb => (hg.block b (heap_lt hb) (fun e => by cases e)).trans hb
  · exact kt_grown hg hb (fun c t' z e => by cases e; exact ht)
set_option maxRecDepth 100000 in
set_option maxHeartbeats 8000000 in
theorem lrows_any (v : Value) (T : BA) (w : World) (ht : BysO w v (nmOf T)) (hl : T.size ≤ 1048576) :
    Calls Try.prog 21 #[v] w fun e w' => (∃ v', e = .returned v' ∧ w'.ownsRow w.heap.size 41 2 v' (namR T).length (flatR (namR T))) ∧ Below w.heap.size w w' := by
  obtain ⟨i0, hi, hz0', hz1, hz2⟩ := info_parts infoRow
  have NA := Lib.hid (names_any v T w ht hl)
  have NT := Lib.hid (fun n bl W TT L h1 h2 h3 => names_tells n bl W TT L h1 h2 h3)
  have HRL := Lib.hid (show (namR T).length ≤ 1048576 by
    have := (namesB_sizes T hl).2
    unfold namesB at this
    rw [List.length_map] at this
    unfold namR
    split
    · exact this
    · simp)
  obtain ⟨aa, ca, rfl⟩ := ht.slice
  clear ht
  obtain ⟨R, hRR⟩ : ∃ R, R = namR T := ⟨_, rfl⟩
  rw [← hRR] at HRL ⊢
  have HRR := Lib.hid hRR
  clear hRR
  refine (callsIn_wide (n := 7)).1 ?_
  refine callsIn_of_wp_marks Try.func21 rfl trivial ?_ rfl
  simp only [Try.ntmps21, List.size_toArray, List.length_cons, List.length_nil, Nat.reduceAdd, Nat.reduceSub, Array.replicate_succ, Array.replicate_zero, List.push_toArray, List.append_toArray, List.nil_append, List.cons_append]
  gi_wp2_with fail
  refine ⟨trivial, ?_⟩
  refine (callsIn_wide.2 NA.out).mono ?_
  rintro e w1 ⟨⟨bl, TT, L, rfl, hbl, hTT, hTs, hR⟩, hb1⟩
  have hRL : R = laidB 1 L := HRR.out.trans hR
  subst hRL
  have HTT := Lib.hid (And.intro hTT hTs)
  have HBL := Lib.hid hbl
  have HB1 := Lib.hid hb1
  have hnn := not_nil 38 bl
  clear hTT hTs hbl hb1 hR NA HRR
  gi_wp2_with fail
  have b1 := Boxed.new w1 39 (.slice none 0 0)
  have hB0 := Below.thn HB1.out HB1.out.size (below1 w1 (.cells #[.slice none 0 0] 39))
  have hz0 : (w1.alloc (.cells #[.slice none 0 0] 39)).heap.size = w1.heap.size + 1 := by simp
  have hbl0 := ((below1 w1 (.cells #[.slice none 0 0] 39)).block _ (heap_lt HBL.out)).trans HBL.out
  have hzw : w.heap.size ≤ w1.heap.size := HB1.out.size
  generalize w1.alloc (.cells #[.slice none 0 0] 39) = W0 at *
  have hown : Own (fun (s : List (Nat × BA)) V => ∃ v, Boxed V w1.heap.size 39 v ∧ V.ownsRow w.heap.size 41 2 v s.length (flatR s) ∧ True) :=
    holdsRow_own w.heap.size w1.heap.size 39 41 2 (fun s : List (Nat × BA) => s.length) (fun s => flatR s) (fun s _ => True)
  refine' range_tellsX (Fr := KT) KT.trans (fun W l o o' hl h ho _ => kt_put h ho) (gf := 38) (lb := #[.pointer (some ⟨bl, 0, none⟩)]) rfl enters_names
    (NT.out _ _ W0 TT L HTT.out.1 HTT.out.2 hbl0) (Below.refl _ _) (fun _ => rfl)
    (fun pre V => (∃ v, Boxed V w1.heap.size 39 v ∧ V.ownsRow w.heap.size 41 2 v pre.length (flatR pre) ∧ True) ∧ Below w.heap.size w V)
    (fun c pre V => False)
    (OwnFrom.and (Own.from (fun s A C row hs hg hr => hown s A C row hs hg hr) _) (ownFrom_below (Nat.le_refl _) (by omega)))
    (fun c => Own.from (fun _ A C row hs hg hr => hs.elim) _)
    ⟨⟨_, b1, World.ownsRow_nil _ _ _ _, trivial⟩, hB0⟩
    (fun A B hA hAB => kt_below hAB)
    (fun x a₁ X => a₁ = { tmps := #[.slice aa (nmOf T).length ca, undef, .slice none 0 0, .func (.func 38) #[] #[.pointer (some ⟨bl, 0, none⟩)], .pointer (some ⟨w1.heap.size, 0, none⟩), .int .i64 (x.1 : Int), .string x.2, .slice aa (nmOf T).length ca, .func (.func 38) #[] #[.pointer (some ⟨bl, 0, none⟩)], .func (.func 38) #[] #[.pointer (some ⟨bl, 0, none⟩)], .bool false, .func (.func 38) #[] #[.pointer (some ⟨bl, 0, none⟩)], .int .i64 (x.1 : Int), .string x.2, undef, undef, undef, undef, undef, undef, undef], defers := [] })
    ?hAs ?hassign ?hbody ?hdone ?hstop
  case hAs =>
    refine Own.from ?_ _
    rintro s A C row hs hg hr
    exact hs
  case hassign =>
    intro m l x V K hV hK
    simp only [encP]
    gi_wp2
    exact hK _ _ (Below.refl _ _) rfl
  case hbody =>
    rintro m l pre x a1 V hl ⟨⟨v, hv, hrow, -⟩, hbel⟩ rfl hlt hok
    obtain ⟨vb, vc, rfl⟩ := own_sliceN hrow
    have hc := hv.cell
    have hz : w.heap.size ≤ V.heap.size := hbel.size
    have HV := Lib.hid hv
    have hpl : pre.length ≤ 1048576 := by have := HRL.out; rw [laidB_len] at this; omega
    obtain ⟨xp, xs⟩ := x
    simp only
    clear hv
    gi_wp2_with (gi_at_builtin; refine wpListIn_append_own _ rfl _ _ 39 rfl w.heap.size 41 i0 (.agg #[.int .i64 0, .string ⟨#[]⟩]) 2 24 Try.underlying39 hi hz0' hz1 hz2 rfl (by decide) _ _ _ rfl (hrow.alloc _) ⟨V.heap.size, 0, none⟩ 1 1 (rwC (xp, xs)) rfl rfl (cell_two_new _ _ _ _) (by simp [Value.oneCell', rwC]) (by unfold maxLen; omega) (by omega) (by simp; omega) ?_; intro v' w2 hown' hgrow _; obtain ⟨g', cap', rfl⟩ := ownsRow_succ hown'; obtain ⟨hv1, hv2, hr2, hk2, hb2⟩ := HV.out.appended (by decide) hrow hz (by omega) hown' hgrow; have hc1 := hv1.cell; have hf1 := hv1.frozen; have HKT := Lib.hid ((kt_below (below1 V _)).trans (kt_row (hrow.alloc _) hgrow (by decide))))
    refine ⟨hk2.from _, HKT.out.trans (kt_set _ hv1 (by decide)), ⟨_, hv2, ?_, trivial⟩, hbel.trans hb2⟩
    rw [List.length_append, flatR_snoc]
    exact hr2
  case hstop =>
    intro D c pre V hD hS hF hK
    exact hF.elim
  case hdone =>
    rintro D' ys V hD' rfl ⟨⟨v, hv, hrow, -⟩, hbel⟩ hK
    obtain ⟨vb, vc, rfl⟩ := own_sliceN hrow
    have d3 := hv.cell
    have ER := Lib.hid hrow
    clear hrow
    gi_wp2_with fail
    refine ⟨by simp, .inl ⟨_, _, rfl, run_takeDeferred hK, ?_⟩⟩
    refine ⟨.slice vb (laidB 1 L).length vc, ?_, ⟨_, rfl, ?_⟩, hbel.trans (below_put (by omega))⟩
    · simp [results, Try.f21, go_sem]
    · exact ownsRow_putObj ER.out (.deferred none) hK rfl
end Go.Proofs.Ytbheeahdbimeiaa
