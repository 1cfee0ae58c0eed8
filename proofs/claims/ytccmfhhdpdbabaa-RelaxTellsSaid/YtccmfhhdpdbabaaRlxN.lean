/-
  What each call of begun, rounds and (where it ends before it watches) Relax returns. Conditions: how the items lie, that they may be.
-/
import Derived.Test.YtccmfhhdpdbabaaRlxM
import Derived.Test.YtccmfhhdpdbabaaScopeIn
namespace Go.Proofs.Ytccmfhhdpdbabaa
open Go.RowKit Go.Shelf
set_option linter.unusedVariables false
set_option linter.unusedSimpArgs false
attribute [local go_sem] Oper.semAt_some

set_option maxHeartbeats 2000000 in
theorem begun_any (v : Value) (L : List It) (w : World) (hL : ItsO w v L) (hl6 : L.length ≤ 65536) :
    Calls Try.prog 41 #[v] w fun e w' => (∃ S, e = .returned (.pointer (some ⟨S, 0, none⟩)) ∧ w.heap.size < S ∧ w'.heap[S]? = some (.cells #[v, .slice (some ⟨w.heap.size, 0, none⟩) L.length L.length, .int .i64 0, .slice none 0 0, .pointer none] 68 (0, 0)) ∧
      w'.ownsRow w.heap.size 4 1 (.slice (some ⟨w.heap.size, 0, none⟩) L.length L.length) L.length ((itB L 0).map fun x => Value.bool x)) ∧ Below w.heap.size w w' := by
  obtain ⟨aa, ca, rfl⟩ := hL.slice
  obtain ⟨i0, hi, hz0', hz1, hz2⟩ := info_parts infoBool
  clear hL
  go_enter Try.func41, Try.ntmps41
  go_wp2_with (at_make; refine wpList_make_full _ rfl _ _ 23 rfl w.heap.size 4 i0 (.bool false) 1 Try.underlying23 hi hz0' hz1 _ _ _ _ L.length rfl rfl rfl rfl (by rw [hz2]; omega) (by unfold maxLen; omega) (Nat.le_refl _) ?_; intro w2 hown2 hgrow2)
  go_ret
  have hz := (hown2.lt _ rfl).2
  have hB2 : Below w.heap.size w w2 := (Below.refl _ w).grown hgrow2 (Nat.le_refl _) (fun k hk => by cases hk)
  rw [madeBool, show List.replicate L.length (Value.bool false) = (itB L 0).map fun x => Value.bool x by simp [itB]] at hown2
  exact ⟨⟨w2.heap.size, rfl, hz, heap_alloc_new w2 _, hown2.alloc _⟩, hB2.alloc hB2.size _⟩
theorem roundsM_any (S : Nat) (w : World) :
    Calls Try.prog 42 #[.pointer (some ⟨S, 0, none⟩)] w fun e w' => e = .returned (.func (.func 47) #[] #[.pointer (some ⟨w.heap.size, 0, none⟩)]) ∧ w' = w.alloc (.cells #[.pointer (some ⟨S, 0, none⟩)] 61) := by
  go_enter Try.func42, Try.ntmps42
  go_wp2_with fail
  go_ret
  exact ⟨rfl, rfl⟩
theorem SecK.own {w0 : World} {S gl bs : Nat} {lv : Value} {L : List It} {k : Nat} {A C : World} {row : Option Nat} (h : SecK w0 S gl bs lv L k A) (hg : A.grownBy C row) (hr : ∀ r, row = some r → w0.heap.size ≤ r ∧ ∃ o : Obj, A.heap[r]? = some o ∧ o.isCells = false) : SecK w0 S gl bs lv L k C := by
  have kp : ∀ {b : Nat} {cs : Array Value} {T : TypeId} {fr : Nat × Nat}, A.heap[b]? = some (.cells cs T fr) → C.heap[b]? = some (.cells cs T fr) := fun {b cs T fr} hb =>
    (hg.block b (heap_lt hb) (by intro e; obtain ⟨_, o, ho, hc⟩ := hr b e.symm; rw [hb] at ho; cases ho; cases hc)).trans hb
  obtain ⟨fv, hh⟩ := h.here
  refine ⟨⟨fv, kp hh⟩, ⟨h.row.1, ?_⟩, h.old.grown hg h.old.size (fun r e => (hr r e).1), kp h.box⟩
  rcases h.row.2 with h1 | ⟨g, cap, cur, h1, h2, h3, h4⟩
  · exact .inl h1
  · exact .inr ⟨g, cap, cur, h1, h2, kp h3, h4⟩
theorem SecK.far {w0 : World} {S gl bs : Nat} {lv : Value} {L : List It} {k : Nat} {V : World} (h : SecK w0 S gl bs lv L k V) {c : Nat} (h0 : w0.heap.size ≤ c) (h1 : c ≠ S) (h2 : c ≠ gl) (h3 : c ≠ bs) (u : Value) : SecK w0 S gl bs lv L k (V.setCell ⟨c, 0, none⟩ u) := by
  obtain ⟨fv, hh⟩ := h.here
  exact ⟨⟨fv, (heap_setCell_other V ⟨c, 0, none⟩ S u (fun e => h1 e.symm)).trans hh⟩, own_ne h.row (by intro e; cases e; exact h2 rfl) u, h.old.setCell (p := ⟨c, 0, none⟩) h0 u, (heap_setCell_other V ⟨c, 0, none⟩ bs u (fun e => h3 e.symm)).trans h.box⟩
theorem keep_cells {A C : World} {row : Option Nat} {B b : Nat} {cs : Array Value} {T : TypeId} {fr : Nat × Nat} (hb : A.heap[b]? = some (.cells cs T fr)) (hg : A.grownBy C row) (hr : ∀ r, row = some r → B ≤ r ∧ ∃ o : Obj, A.heap[r]? = some o ∧ o.isCells = false) : C.heap[b]? = some (.cells cs T fr) :=
  (hg.block b (heap_lt hb) (by intro e; obtain ⟨_, o, ho, hc⟩ := hr b e.symm; rw [hb] at ho; cases ho; cases hc)).trans hb
theorem enters_rounds : ∀ args w, (callFunc 47 args).run Try.prog w = .ok (.enter 47 args) w := fun _ _ => by kernel_rfl
theorem two_keeps {S gl B : Nat} {V V' : World} (h : Two S gl V V') (h1 : S < B) (h2 : gl < B) : KeepsFrom B V V' := ⟨h.size, fun k o hB hk _ => (h.block k (heap_lt hk) (by omega) (by omega)).trans hk⟩
set_option maxRecDepth 100000 in
set_option maxHeartbeats 8000000 in
theorem relax_plain (R ln : Nat) (v : Value) (L : List It) (w : World) (hL : ItsO w v L) (hc : chkB L = 0) (hne : ∀ k, k < R → farL L (itB L k) L.length ≠ []) (hR0 : farL L (itB L R) L.length = []) (hR : R < ln) (hl2 : ln ≤ 65536)
    (hln : ∀ W, Calls Try.prog 52 #[.int .u64 (L.length : Int)] W fun e w' => e = .returned (.int .i64 (ln : Int)) ∧ W = w') :
    Calls Try.prog 22 #[v] w fun e w' => (∃ v', e = .returned (.tuple #[v', .int .i64 (R : Int), .int .i64 0]) ∧ w'.ownsRow w.heap.size 4 1 v' L.length ((itB L (R + 1)).map fun x => Value.bool x)) ∧ Below w.heap.size w w' := by
  have hok := chk_ok hc
  have CK := Lib.hid (check_any v L w hL)
  rw [hc] at CK
  have BG := Lib.hid (fun W (hb : Below w.heap.size w W) => begun_any v L W (hL.keep hb) hok.1)
  have RM := Lib.hid (fun S W => roundsM_any S W)
  have RT := Lib.hid (fun n w1 S gl bs (h : ItsO w1 v L) h1 h2 h3 h4 h5 h6 => rounds_tells n R ln w1 S gl bs v L h h1 h2 h3 h4 h5 h6 hok hR hl2 hln)
  have HL := Lib.hid hL
  have HNE := Lib.hid hne
  have HR0 := Lib.hid hR0
  obtain ⟨aa, ca, rfl⟩ := hL.slice
  clear hL hne hR0 hln hc hok
  refine (callsIn_wide (n := 7)).1 ?_
  refine callsIn_of_wp_marks Try.func22 rfl trivial ?_ rfl
  simp only [Try.ntmps22, List.size_toArray, List.length_cons, List.length_nil, Nat.reduceAdd, Nat.reduceSub, Array.replicate_succ, Array.replicate_zero, List.push_toArray, List.append_toArray, List.nil_append, List.cons_append]
  gi_wp2_with fail
  refine scope_in ?_
  gi_wp2_with fail
  refine ⟨trivial, ?_⟩
  refine (callsIn_wide.2 CK.out).mono ?_
  rintro e w1 ⟨rfl, hb1⟩
  have HB1 := Lib.hid hb1
  clear hb1
  gi_wp2_with fail
  refine ⟨trivial, ?_⟩
  refine (callsIn_wide.2 (BG.out _ HB1.out)).mono ?_
  rintro e w2 ⟨⟨S, rfl, hSz, hh, hrow⟩, hb2⟩
  have HB2 := Lib.hid hb2
  have HH := Lib.hid hh
  have HRW := Lib.hid hrow
  clear hb2 hh hrow
  gi_wp2_with fail
  refine label_in ?_
  gi_wp2_with fail
  refine ⟨trivial, ?_⟩
  refine (callsIn_wide.2 (RM.out S _)).mono ?_
  rintro e w3 ⟨rfl, rfl⟩
  have hsec : SecK w1 S w1.heap.size (w2.heap.size + 1) (.slice aa L.length ca) L 0 ((w2.alloc (.cells #[.int .i64 0] 3)).alloc (.cells #[.pointer (some ⟨S, 0, none⟩)] 61)) := by
    refine ⟨⟨_, (Below.heap_alloc _ _ _ (by have := heap_lt HH.out; simp; omega)).trans ((Below.heap_alloc _ _ _ (heap_lt HH.out)).trans HH.out)⟩, (HRW.out.alloc _).alloc _, (HB2.out.alloc HB2.out.size _).alloc (by have := HB2.out.size; simp; omega) _, ?_⟩
    have := World.alloc_heap_new (w2.alloc (.cells #[.int .i64 0] 3)) (.cells #[.pointer (some ⟨S, 0, none⟩)] 61)
    rwa [World.size_alloc] at this
  have hcb : ((w2.alloc (.cells #[.int .i64 0] 3)).alloc (.cells #[.pointer (some ⟨S, 0, none⟩)] 61)).heap[w2.heap.size]? = some (.cells #[.int .i64 0] 3 (0, 0)) := (Below.heap_alloc _ _ _ (by simp)).trans (World.alloc_heap_new w2 _)
  have hbs : (w2.alloc (.cells #[.int .i64 0] 3)).heap.size = w2.heap.size + 1 := by simp
  rw [hbs]
  have hz4 : ((w2.alloc (.cells #[.int .i64 0] 3)).alloc (.cells #[.pointer (some ⟨S, 0, none⟩)] 61)).heap.size = w2.heap.size + 2 := by simp
  generalize (w2.alloc (.cells #[.int .i64 0] 3)).alloc (.cells #[.pointer (some ⟨S, 0, none⟩)] 61) = W4 at *
  have hS2 := heap_lt HH.out
  have hg2 := (HRW.out.lt _ rfl).2
  have HSEC := Lib.hid hsec
  have HCB := Lib.hid hcb
  clear hsec hcb
  gi_wp2_with fail
  refine' range_M (gf := 47) (lb := #[.pointer (some ⟨w2.heap.size + 1, 0, none⟩)]) rfl enters_rounds
    (RT.out (7 - 1) w1 S w1.heap.size (w2.heap.size + 1) (HL.out.keep HB1.out) (by omega) (Nat.le_refl _) (by omega) (by omega) (by omega) (by omega)) (fun _ => rfl)
    (fun s V s' V' hs ht => two_keeps ht.2.1 (by omega) (by omega))
    (fun k V => (k ≤ R ∧ SecK w1 S w1.heap.size (w2.heap.size + 1) (.slice aa L.length ca) L k V) ∧ V.heap[w2.heap.size]? = some (.cells #[.int .i64 (k : Int)] 3 (0, 0)))
    (fun k V => (∃ j, k = j + 1 ∧ j ≤ R ∧ V.heap[w2.heap.size]? = some (.cells #[.int .i64 (j : Int)] 3 (0, 0))) ∧ SecK w1 S w1.heap.size (w2.heap.size + 1) (.slice aa L.length ca) L k V)
    (fun c k V => (c = .exit 0 ∧ V.heap[w2.heap.size]? = some (.cells #[.int .i64 (R : Int)] 3 (0, 0))) ∧ SecK w1 S w1.heap.size (w2.heap.size + 1) (.slice aa L.length ca) L (R + 1) V)
    (fun s A C row hs hg hr => ⟨⟨hs.1.1, hs.1.2.own hg (fun r e => ⟨by have := (hr r e).1; omega, (hr r e).2⟩)⟩, keep_cells hs.2 hg hr⟩)
    (fun s A C row hs hg hr => ⟨by obtain ⟨j, a1, a2, a3⟩ := hs.1; exact ⟨j, a1, a2, keep_cells a3 hg hr⟩, hs.2.own hg (fun r e => ⟨by have := (hr r e).1; omega, (hr r e).2⟩)⟩)
    (fun c s A C row hs hg hr => ⟨⟨hs.1.1, keep_cells hs.1.2 hg hr⟩, hs.2.own hg (fun r e => ⟨by have := (hr r e).1; omega, (hr r e).2⟩)⟩)
    (fun s V hs => hs.1)
    (fun s V s' V' hs ht => ⟨⟨s, ht.1, hs.1.1, (ht.2.1.block _ (heap_lt hs.2) (by omega) (by omega)).trans hs.2⟩, by rw [ht.1]; exact ht.2.2⟩)
    ⟨⟨Nat.zero_le _, HSEC.out⟩, HCB.out⟩
    (fun k a₁ _ => a₁ = { tmps := #[.slice aa L.length ca, undef, .slice none 0 0, .int .i64 0, .int .i64 0, .int .i64 0, .pointer (some ⟨S, 0, none⟩), .pointer (some ⟨w2.heap.size, 0, none⟩), .int .i64 ((farL L (itB L (k - 1)) L.length).length : Int), .slice aa L.length ca, .int .i64 0, .int .i64 0, .bool false, undef, .slice aa L.length ca, .pointer (some ⟨S, 0, none⟩), .pointer (some ⟨S, 0, none⟩), .func (.func 47) #[] #[.pointer (some ⟨w2.heap.size + 1, 0, none⟩)], .int .i64 ((farL L (itB L (k - 1)) L.length).length : Int), undef, undef, undef, undef, undef, undef, undef, undef, undef, undef], defers := [] })
    ?hAs ?hassign ?hbody ?hstop
  case hAs =>
    refine Own.from ?_ _
    rintro s A C row hs hg hr
    exact hs
  case hassign =>
    intro m l x V K hV hK
    unfold encF
    gi_wp2
    exact hK _ _ (Below.refl _ _) rfl
  case hbody =>
    rintro m l x a1 V hl ⟨⟨j, rfl, hjR, hc⟩, hsec⟩ rfl
    rw [Nat.add_sub_cancel]
    have HSE := Lib.hid hsec
    have HC := Lib.hid hc
    have c0 := Lib.cell_of_heap hc 0
    have f0 := Lib.frozen_of_heap hc 0
    by_cases hj : j = R
    · subst hj
      have HRE := HR0.out
      rw [HRE]
      clear hsec hc HRE
      gi_wp2_with fail
      exact ⟨KeepsFrom.refl _ _, ⟨rfl, HC.out⟩, HSE.out⟩
    · have hjl : j < R := by omega
      have hnz := HNE.out j hjl
      generalize farL L (itB L j) L.length = F at *
      have hnz2 : ((F.length : Int) == 0) = false := by
        cases F with
        | nil => exact absurd rfl hnz
        | cons q F => simp; omega
      have w9 : IntKind.i64.wrap ((j : Int) + 1) = ((j + 1 : Nat) : Int) := by rw [IntWalk.i64_in _ (by omega)]; omega
      clear hsec hc hnz
      gi_wp2_with fail
      exact ⟨(KeepsOthers.setCell _ _ _).from _, ⟨hjl, HSE.out.far (c := w2.heap.size) (by omega) (by omega) (by omega) (by omega) _⟩, heap_setCell_same V w2.heap.size 0 _ _ _ HC.out⟩
  case hstop =>
    rintro D c x V hD ⟨⟨rfl, hc⟩, hsec⟩ hK
    have HSE := Lib.hid hsec
    have HC := Lib.hid hc
    have c0 := Lib.cell_of_heap hc 0
    obtain ⟨fv, hh⟩ := hsec.here
    obtain ⟨e0, e1, e2, e3, e4⟩ := five_cells hh
    have c0 : V.cell? ⟨w2.heap.size, 0, none⟩ = some (.int .i64 (R : Int)) := c0
    clear hsec hc hh
    gi_wp2_with fail
    refine wpIn_mono (Q := NoPanic _) ?_ NoPanic.imp
    gi_region_with (fail)
    all_goals refine NoPanic.normal ?_
    all_goals gi_wp2_with fail
    all_goals
      refine ⟨by simp, .inl ⟨_, _, rfl, run_takeDeferred (show (World.drew V).heap[D]? = some (.deferred (some [])) from hK), ?_⟩⟩
      have hfin : SecK w1 S w1.heap.size (w2.heap.size + 1) (.slice aa L.length ca) L (R + 1) (V.drew.putObj D (.deferred none)) := HSE.out.drew.own (grownBy_putObj' V.drew D (.deferred none)) (fun r e => by cases e; exact ⟨by omega, _, hK, rfl⟩)
      refine ⟨.tuple #[.slice (some ⟨w1.heap.size, 0, none⟩) L.length L.length, .int .i64 (R : Int), .int .i64 0], ?_, ⟨_, rfl, ownsRow_less' hfin.row HB1.out.size⟩, Below.thn HB1.out HB1.out.size hfin.old⟩
      simp [results, Try.f22, go_sem]
end Go.Proofs.Ytccmfhhdpdbabaa
