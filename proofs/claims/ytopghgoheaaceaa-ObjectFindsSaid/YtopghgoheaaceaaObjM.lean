/-
  twice: what each call returns. Conditions: how the list lies, the names' sizes.
-/
import Derived.Test.YtopghgoheaaceaaObjL
import Derived.Maps.OwnIn
import Derived.Maps.OwnSet
import Derived.Maps.Views
namespace Go.Proofs.Ytopghgoheaaceaa
open Go.RowKit Go.Shelf
set_option linter.unusedVariables false
set_option linter.unusedSimpArgs false
attribute [local go_sem] Oper.semAt_some

/-- a name that a map takes as a key -/
abbrev Nm := {s : BA // s.size ≤ maxLen}
def tOf (x : Nm) : List UInt8 := x.1.data.toList
/-- the map counts each of these once -/
def Cnt (pre : List Nm) (D : DataW Unit) : Prop := Maps.IsMap D ∧ (pre.map tOf).Nodup ∧ ∀ s : List UInt8, D.atKey (.string s) (.lit (.int .i64 0)) = .lit (.int .i64 (if s ∈ pre.map tOf then 1 else 0))
theorem cnt_none : Cnt [] (.map []) := ⟨⟨_, rfl⟩, List.nodup_nil, fun s => by simp; rfl⟩
theorem cnt_next {pre : List Nm} {D : DataW Unit} {x : Nm} (h : Cnt pre D) (hx : tOf x ∉ pre.map tOf) : Cnt (pre ++ [x]) (D.put (.string (tOf x)) (.lit (.int .i64 1))) := by
  obtain ⟨h1, h2, h3⟩ := h
  refine ⟨?_, ?_, fun s => ?_⟩
  · obtain ⟨es, rfl⟩ := h1; exact ⟨_, rfl⟩
  · rw [List.map_append, List.nodup_append]
    exact ⟨h2, by simp, fun a ha b hb e => hx (by
      rw [List.map_cons, List.map_nil, List.mem_singleton] at hb
      rw [← hb, ← e]; exact ha)⟩
  · by_cases e : s = tOf x
    · subst e
      rw [Maps.atKey_put_same h1 (by trivial)]
      simp
    · rw [Maps.atKey_put_other (by intro g; injection g with g; exact e g), h3 s]
      rw [List.map_append, List.map_cons, List.map_nil]
      simp only [List.mem_append, List.mem_singleton, e, or_false]
def twiceL (L : List BA) : Bool := !decide L.Nodup
theorem nm_nodup (M : List Nm) : (M.map tOf).Nodup ↔ (M.map (·.1)).Nodup := by
  simp only [List.Nodup, List.pairwise_map]
  exact ⟨fun h => h.imp fun {a b} k e => k (by unfold tOf; rw [e]), fun h => h.imp fun {a b} k e => k (bytes_eq e)⟩
theorem zero_int (w : World) : (zeroValue 3).run Try.prog w = .ok (.int .i64 0) w := by kernel_rfl
set_option maxRecDepth 100000 in
set_option maxHeartbeats 8000000 in
theorem twice_any (v : Value) (L : List BA) (w : World) (hv : NamesIt w v L) (hs : ∀ x ∈ L, x.size ≤ maxLen) (hlen : L.length ≤ 281474976710656) :
    Calls Try.prog 38 #[v] w fun e w' => e = .returned (.bool (twiceL L)) ∧ Below w.heap.size w w' := by
  obtain ⟨g, lb, rfl, hge, hseq⟩ := hv
  obtain ⟨M, hM⟩ : ∃ M : List Nm, M.map (·.1) = L := ⟨L.pmap Subtype.mk hs, by rw [List.map_pmap]; simp⟩
  have GE := Lib.hid hge
  have GT := Lib.hid (hseq Nm (·.1) M hM)
  have hMl : M.length ≤ 281474976710656 := by have := congrArg List.length hM; simp at this; omega
  have RT := Lib.hid (fun (h : (M.map tOf).Nodup) => show twiceL L = false by unfold twiceL; rw [← hM, decide_eq_true ((nm_nodup M).1 h)]; rfl)
  have RF := Lib.hid (fun (h : ¬ (M.map tOf).Nodup) => show twiceL L = true by unfold twiceL; rw [← hM, decide_eq_false (fun g => h ((nm_nodup M).2 g))]; rfl)
  generalize twiceL L = R at *
  clear hge hseq hM hs hlen
  have hmm := @run_makeMap Try.prog
  refine (callsIn_wide (n := 7)).1 ?_
  refine callsIn_of_wp_marks Try.func38 rfl trivial ?_ rfl
  simp only [Try.ntmps38, List.size_toArray, List.length_cons, List.length_nil, Nat.reduceAdd, Nat.reduceSub, Array.replicate_succ, Array.replicate_zero, List.push_toArray, List.append_toArray, List.nil_append, List.cons_append]
  gi_wp2_with fail
  have zz : ∀ (W : World) (o : Obj), (W.alloc o).heap.size = W.heap.size + 1 := fun W o => by simp
  have hm0 := (World.ownsMap_made (w.alloc (.cells #[.bool false] 4)) Try.prog 9 (plainElem (H := Unit) Try.prog 3)).alloc (.cells #[.map (some (w.heap.size + 1))] 82)
  have bR := ((Boxed.new w 4 (.bool false)).alloc (.map #[] 0)).alloc (.cells #[.map (some (w.heap.size + 1))] 82)
  have bS := Boxed.new ((w.alloc (.cells #[.bool false] 4)).alloc (.map #[] 0)) 82 (.map (some (w.heap.size + 1)))
  simp only [World.size_alloc] at bS bR hm0
  have hB0 : Below w.heap.size w (((w.alloc (.cells #[.bool false] 4)).alloc (.map #[] 0)).alloc (.cells #[.map (some (w.heap.size + 1))] 82)) := (((Below.refl _ w).alloc (Nat.le_refl _) _).alloc (by simp) _).alloc (by simp; omega) _
  have hz3 : (((w.alloc (.cells #[.bool false] 4)).alloc (.map #[] 0)).alloc (.cells #[.map (some (w.heap.size + 1))] 82)).heap.size = w.heap.size + 3 := by simp
  generalize hW3 : ((w.alloc (.cells #[.bool false] 4)).alloc (.map #[] 0)).alloc (.cells #[.map (some (w.heap.size + 1))] 82) = W3 at *
  clear hW3 zz hmm
  refine' wpIn_rangeFunc_ownG rfl (by decide) (gf := g) (lb := lb) rfl trivial GE.out
    (GT.out _) (fun h k => h.trans k) (belowK_b (w := W3) (by omega)) hB0 (fun _ => rfl)
    (fun pre V => (Boxed V w.heap.size 4 (.bool false) ∧ Boxed V (w.heap.size + 2) 82 (.map (some (w.heap.size + 1))) ∧ ∃ D, V.ownsMap Try.prog 9 (plainElem (H := Unit) Try.prog 3) (w.heap.size + 1) pre.length D ∧ Hid (Cnt pre D)) ∧ Below w.heap.size w V)
    (fun c pre V => (c = .ret ∧ Boxed V w.heap.size 4 (.bool true) ∧ Hid (¬ (pre.map tOf).Nodup)) ∧ Below w.heap.size w V)
    (OwnFrom.and (fun _ A C row hs hg hr => ⟨boxed_own hs.1 hg (fun r e => (hr r e).2), boxed_own hs.2.1 hg (fun r e => (hr r e).2), by
      obtain ⟨D, h1, h2⟩ := hs.2.2
      exact ⟨D, h1.kept hg (fun e => by have := (hr _ e.symm).1; omega), h2⟩⟩) (ownFrom_below (Nat.le_refl _) (by omega)))
    (fun c => OwnFrom.and (Own.from (fun _ A C row hs hg hr => ⟨hs.1, boxed_own hs.2.1 hg hr, hs.2.2⟩) _) (ownFrom_below (Nat.le_refl _) (by omega)))
    ?h0 _ ?assign ?body ?done ?stop
  case assign =>
    intro l x V K hK
    simp only [encN]
    gi_wp2
    exact hK
  case h0 => exact ⟨⟨bR, bS, _, hm0, Lib.hid cnt_none⟩, hB0⟩
  case body =>
    rintro l pre x V ⟨⟨c0, c2, D, hown, hcnt⟩, hbel⟩ hlt
    have d0 := c0.cell
    have f0 := c0.frozen
    have d2 := c2.cell
    have hkey := Go.WideMaps.keyOf_string_mk (P := Try.prog) (k := 9) Try.underlying9 (s := x.1) x.2
    have hat0 := hcnt.out.2.2 (tOf x)
    obtain ⟨es, ck, hh, _⟩ := id hown
    by_cases hx : tOf x ∈ pre.map tOf
    · rw [if_pos hx] at hat0
      have HX := Lib.hid (show ¬ ((pre ++ [x]).map tOf).Nodup by
        rw [List.map_append, List.nodup_append]
        intro h
        exact h.2.2 _ hx (tOf x) (by simp) rfl)
      clear hx
      gi_wp2_with (first
        | (gi_at_lookup; refine wpListIn_lookup_own_int _ rfl _ _ 82 rfl 9 3 .i64 (Maps.string_keyed Try.underlying9) Try.underlying82 Try.underlying3 (zero_int _) (w.heap.size + 1) pre.length _ rfl hown _ _ rfl hkey ?_; intro c hat hwc; obtain rfl : c = 1 := (by rw [show Lit.string x.1.data.toList = Lit.string (tOf x) from rfl, hat0] at hat; injection hat with hat; injection hat with _ hat; exact hat.symm); clear hat hwc)
        | (gi_at_lookup; refine wpListIn_lookup_own_int _ rfl _ _ 82 rfl 9 3 .i64 (Maps.string_keyed Try.underlying9) Try.underlying82 Try.underlying3 (zero_int _) (w.heap.size + 1) (pre.length + 1) _ rfl hown1 _ _ rfl hkey ?_; intro c hat hwc; obtain rfl : c = 2 := (by rw [Maps.atKey_put_same hcnt.out.1 (by trivial)] at hat; injection hat with hat; injection hat with _ hat; exact hat.symm); clear hat hwc)
        | (gi_at_mapUpdate; refine wpListIn_mapUpdate_own _ rfl _ _ _ 82 rfl 9 3 (Maps.string_keyed Try.underlying9) Try.underlying82 _ (w.heap.size + 1) pre.length _ rfl hown (by unfold maxLen; omega) _ _ _ rfl rfl hkey _ [] (plainElem_int Try.underlying3 (by decide)) ?_; intro w1 hown1 hgrow1; have e2 : w1.cell? ⟨w.heap.size + 1 + 1, 0, none⟩ = some (.map (some (w.heap.size + 1))) := cell_kept d2 hgrow1 (fun r e => by cases e; exact ⟨_, hh, rfl⟩); have c01 := boxed_own c0 hgrow1 (fun r e => by cases e; exact ⟨_, hh, rfl⟩); have c21 := boxed_own c2 hgrow1 (fun r e => by cases e; exact ⟨_, hh, rfl⟩); have d01 := c01.cell; have f01 := c01.frozen)
        | fail)
      have hb1 := hbel.grown hgrow1 (by have := hbel.size; omega) (fun k e => by cases e; omega)
      exact ⟨(KeepsFrom.of_grownBy hgrow1 (fun j e => by cases e; omega)).trans ((KeepsOthers.setCell _ _ _).from _), ⟨rfl, boxed_same c01 _, HX⟩, hb1.setCell (p := ⟨w.heap.size, 0, none⟩) (Nat.le_refl _) _⟩
    · rw [if_neg hx] at hat0
      have HC := Lib.hid (cnt_next hcnt.out hx)
      clear hx
      gi_wp2_with (first
        | (gi_at_lookup; refine wpListIn_lookup_own_int _ rfl _ _ 82 rfl 9 3 .i64 (Maps.string_keyed Try.underlying9) Try.underlying82 Try.underlying3 (zero_int _) (w.heap.size + 1) pre.length _ rfl hown _ _ rfl hkey ?_; intro c hat hwc; obtain rfl : c = 0 := (by rw [show Lit.string x.1.data.toList = Lit.string (tOf x) from rfl, hat0] at hat; injection hat with hat; injection hat with _ hat; exact hat.symm); clear hat hwc)
        | (gi_at_lookup; refine wpListIn_lookup_own_int _ rfl _ _ 82 rfl 9 3 .i64 (Maps.string_keyed Try.underlying9) Try.underlying82 Try.underlying3 (zero_int _) (w.heap.size + 1) (pre.length + 1) _ rfl hown1 _ _ rfl hkey ?_; intro c hat hwc; obtain rfl : c = 1 := (by rw [Maps.atKey_put_same hcnt.out.1 (by trivial)] at hat; injection hat with hat; injection hat with _ hat; exact hat.symm); clear hat hwc)
        | (gi_at_mapUpdate; refine wpListIn_mapUpdate_own _ rfl _ _ _ 82 rfl 9 3 (Maps.string_keyed Try.underlying9) Try.underlying82 _ (w.heap.size + 1) pre.length _ rfl hown (by unfold maxLen; omega) _ _ _ rfl rfl hkey _ [] (plainElem_int Try.underlying3 (by decide)) ?_; intro w1 hown1 hgrow1; have e2 : w1.cell? ⟨w.heap.size + 1 + 1, 0, none⟩ = some (.map (some (w.heap.size + 1))) := cell_kept d2 hgrow1 (fun r e => by cases e; exact ⟨_, hh, rfl⟩); have c01 := boxed_own c0 hgrow1 (fun r e => by cases e; exact ⟨_, hh, rfl⟩); have c21 := boxed_own c2 hgrow1 (fun r e => by cases e; exact ⟨_, hh, rfl⟩); have d01 := c01.cell; have f01 := c01.frozen)
        | fail)
      have hb1 := hbel.grown hgrow1 (by have := hbel.size; omega) (fun k e => by cases e; omega)
      refine ⟨KeepsFrom.of_grownBy hgrow1 (fun j e => by cases e; omega), (Below.refl _ V).grown hgrow1 hbel.size (fun k e => by cases e; omega), ⟨c01, c21, _, ?_, HC⟩, hb1⟩
      rw [List.length_append]
      exact hown1
  case done =>
    rintro D ys V hD hS ⟨⟨c0, c2, DM, hown, hcnt⟩, hbel⟩ hK
    have HL := Lib.hid (RT.out (by rw [← hS]; exact hcnt.out.2.1))
    have d0 := c0.cell
    have f0 := c0.frozen
    clear hS
    gi_wp2
    have n1 := boxed_same c0 (.bool false)
    have hb2 := hbel.setCell (p := ⟨w.heap.size, 0, none⟩) (Nat.le_refl _) (.bool false)
    have hK2 := (KeepsOthers.setCell V ⟨w.heap.size, 0, none⟩ (.bool false)).same D _ hK rfl
    refine ⟨by simp, .inl ⟨_, _, rfl, run_takeDeferred hK2, ?_⟩⟩
    have kp : ∀ {p : Addr} {v : Value}, World.cell? _ p = some v → (World.putObj _ D (.deferred none)).cell? p = some v := fun h => cell_kept h (grownBy_putObj' _ D (.deferred none)) (fun r e => by cases e; exact ⟨_, hK2, rfl⟩)
    have e1 := kp n1.cell
    refine ⟨.bool false, ?_, by rw [HL.out], hb2.trans (belowK_b (w := w) (Nat.le_refl _) _ D _ _ (by omega) hK2 rfl rfl)⟩
    simp [results, Try.f38, go_sem, e1]
  case stop =>
    rintro D c ys V hD hS ⟨⟨rfl, n1, hx⟩, hbel⟩ hK
    have HL := Lib.hid (RF.out (fun h => hx.out (by
      obtain ⟨t, ht⟩ := hS
      rw [← ht, List.map_append] at h
      exact (List.nodup_append.1 h).1)))
    clear hS
    gi_wp2
    refine ⟨by simp, .inl ⟨_, _, rfl, run_takeDeferred hK, ?_⟩⟩
    have kp : ∀ {p : Addr} {v : Value}, World.cell? _ p = some v → (World.putObj _ D (.deferred none)).cell? p = some v := fun h => cell_kept h (grownBy_putObj' _ D (.deferred none)) (fun r e => by cases e; exact ⟨_, hK, rfl⟩)
    have e1 := kp n1.cell
    refine ⟨.bool true, ?_, by rw [HL.out], hbel.trans (belowK_b (w := w) (Nat.le_refl _) _ D _ _ (by omega) hK rfl rfl)⟩
    simp [results, Try.f38, go_sem, e1]
end Go.Proofs.Ytopghgoheaaceaa
