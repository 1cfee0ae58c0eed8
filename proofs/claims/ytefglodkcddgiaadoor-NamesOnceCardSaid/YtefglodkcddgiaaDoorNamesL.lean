/-
  All, and find: the number of a name that stands in a kind's table. No conditions.
-/
import Derived.Test.YtefglodkcddgiaaDoorNamesJ
import Derived.Test.YtefglodkcddgiaaDoorNamesK
import Derived.Laws.ResultCell
namespace Go.Proofs.YtefglodkcddgiaaDoor
open Go.RowKit Go.Shelf
attribute [local go_sem] Oper.semAt_some

/-- the iterator over a kind's names -/
structure Gen (k : Int) (g : Nat) : Prop where
  all : ∀ w : World, Calls Tryd.prog 34 #[.int .i64 k] w fun e w' => e = .returned (.func (.func g) #[] #[]) ∧ w = w'
  tells : Tells g (tbl k)
  enters : ∀ args w, (callFunc g args).run Tryd.prog w = .ok (.enter g args) w
set_option maxHeartbeats 1000000 in
theorem gen_any (k : Int) : ∃ g, Gen k g := by
  by_cases h1 : k = 1
  · subst h1
    refine ⟨41, ?_, registers_tells, enters_of Tryd.func41 (by kernel_rfl) rfl⟩
    intro w; go_enter Tryd.func34, Tryd.ntmps34; go_wp2; go_ret; exact ⟨rfl, rfl⟩
  by_cases h2 : k = 2
  · subst h2
    refine ⟨42, ?_, conditions_tells, enters_of Tryd.func42 (by kernel_rfl) rfl⟩
    intro w; go_enter Tryd.func34, Tryd.ntmps34; go_wp2; go_ret; exact ⟨rfl, rfl⟩
  by_cases h3 : k = 3
  · subst h3
    refine ⟨43, ?_, mods_tells, enters_of Tryd.func43 (by kernel_rfl) rfl⟩
    intro w; go_enter Tryd.func34, Tryd.ntmps34; go_wp2; go_ret; exact ⟨rfl, rfl⟩
  by_cases h4 : k = 4
  · subst h4
    refine ⟨44, ?_, barriers_tells, enters_of Tryd.func44 (by kernel_rfl) rfl⟩
    intro w; go_enter Tryd.func34, Tryd.ntmps34; go_wp2; go_ret; exact ⟨rfl, rfl⟩
  by_cases h5 : k = 5
  · subst h5
    refine ⟨45, ?_, hints_tells, enters_of Tryd.func45 (by kernel_rfl) rfl⟩
    intro w; go_enter Tryd.func34, Tryd.ntmps34; go_wp2; go_ret; exact ⟨rfl, rfl⟩
  by_cases h6 : k = 6
  · subst h6
    refine ⟨46, ?_, systems_tells, enters_of Tryd.func46 (by kernel_rfl) rfl⟩
    intro w; go_enter Tryd.func34, Tryd.ntmps34; go_wp2; go_ret; exact ⟨rfl, rfl⟩
  by_cases h7 : k = 7
  · subst h7
    refine ⟨47, ?_, fetches_tells, enters_of Tryd.func47 (by kernel_rfl) rfl⟩
    intro w; go_enter Tryd.func34, Tryd.ntmps34; go_wp2; go_ret; exact ⟨rfl, rfl⟩
  by_cases h8 : k = 8
  · subst h8
    refine ⟨48, ?_, fields_tells, enters_of Tryd.func48 (by kernel_rfl) rfl⟩
    intro w; go_enter Tryd.func34, Tryd.ntmps34; go_wp2; go_ret; exact ⟨rfl, rfl⟩
  refine ⟨49, ?_, ?_, enters_of Tryd.func49 (by kernel_rfl) rfl⟩
  · have b1 : (k == 1) = false := by simp [h1]
    have b2 : (k == 2) = false := by simp [h2]
    have b3 : (k == 3) = false := by simp [h3]
    have b4 : (k == 4) = false := by simp [h4]
    have b5 : (k == 5) = false := by simp [h5]
    have b6 : (k == 6) = false := by simp [h6]
    have b7 : (k == 7) = false := by simp [h7]
    have b8 : (k == 8) = false := by simp [h8]
    clear h1 h2 h3 h4 h5 h6 h7 h8
    intro w; go_enter Tryd.func34, Tryd.ntmps34; go_wp2; go_ret; exact ⟨rfl, rfl⟩
  · have : tbl k = [] := by unfold tbl; rw [if_neg h1, if_neg h2, if_neg h3, if_neg h4, if_neg h5, if_neg h6, if_neg h7, if_neg h8]
    rw [this]; exact none_tells

theorem boxed_own {X Y : World} {B : Nat} {t : TypeId} {v : Value} {row : Option Nat} (hv : Boxed X B t v) (hg : X.grownBy Y row) (hrow : ∀ r, row = some r → ∃ o : Obj, X.heap[r]? = some o ∧ o.isCells = false) : Boxed Y B t v :=
  hv.kept hg (fun e' => by
    obtain ⟨o, ho, hc⟩ := hrow B e'.symm
    rw [show X.heap[B]? = _ from hv] at ho; cases ho; cases hc)
theorem boxed_alloc {X : World} {B : Nat} {t : TypeId} {v : Value} (h : Boxed X B t v) (o : Obj) : Boxed (X.alloc o) B t v := h.alloc o
theorem boxed_set {X : World} {B C : Nat} {t : TypeId} {v u : Value} (h : Boxed X B t v) (hne : B ≠ C) : Boxed (X.setCell ⟨C, 0, none⟩ u) B t v :=
  (Below.heap_setCell _ _ _ _ hne).trans h
theorem boxed_same {X : World} {B : Nat} {t : TypeId} {v : Value} (h : Boxed X B t v) (u : Value) : Boxed (X.setCell ⟨B, 0, none⟩ u) B t u := by
  unfold Boxed at *
  simp only [World.setCell, Array.getElem?_modify, if_true, h, Option.map_some]
  rfl
def numO (o : Option Nat) : Int := match o with
  | some n => (n : Int)
  | none => 0
def numOut (o : Option Nat) : Ending := .returned (.tuple #[.int .i64 (numO o), .int .i64 (errO o)])

set_option maxRecDepth 100000 in
set_option maxHeartbeats 4000000 in
theorem find_any (k : Int) (s : ByteArray) (w : World) :
    Calls Tryd.prog 27 #[.int .i64 k, .string s] w fun e w' => e = numOut (look (tbl k) s.data.toList) ∧ Below w.heap.size w w' := by
  obtain ⟨g, hg⟩ := gen_any k
  have GA := Lib.hid hg.all
  have GT := Lib.hid hg.tells
  have GE := Lib.hid hg.enters
  generalize tbl k = T at *
  clear hg
  refine (callsIn_wide (n := 7)).1 ?_
  refine callsIn_of_wp_marks Tryd.func27 rfl trivial ?_ rfl
  simp only [Tryd.ntmps27, List.size_toArray, List.length_cons, List.length_nil, Nat.reduceAdd, Nat.reduceSub, Array.replicate_succ, Array.replicate_zero, List.push_toArray, List.append_toArray, List.nil_append, List.cons_append]
  gi_wp2_with fail
  refine ⟨trivial, ?_⟩
  refine (callsIn_wide.2 (GA.out _)).mono ?_
  rintro e w1 ⟨rfl, rfl⟩
  gi_wp2_with fail
  have b0 := ((Boxed.new w 9 (.string s)).alloc (.cells #[.int .i64 0] 2)).alloc (.cells #[.int .i64 0] 25)
  have b1 := (Boxed.new (w.alloc (.cells #[.string s] 9)) 2 (.int .i64 0)).alloc (.cells #[.int .i64 0] 25)
  have b2 := Boxed.new ((w.alloc (.cells #[.string s] 9)).alloc (.cells #[.int .i64 0] 2)) 25 (.int .i64 0)
  simp only [World.size_alloc] at b1 b2
  have hB0 : Below w.heap.size w (((w.alloc (.cells #[.string s] 9)).alloc (.cells #[.int .i64 0] 2)).alloc (.cells #[.int .i64 0] 25)) := (((Below.refl _ w).alloc (Nat.le_refl _) _).alloc (by simp) _).alloc (by simp; omega) _
  refine' wpIn_rangeFunc_ownF rfl (by decide) (gf := g) (lb := #[]) rfl trivial GE.out
    (GT.out _ w.heap.size _ (by simp; omega)) Kt.trans (kt_b (by simp; omega)) (Below.refl _ _) (fun _ => rfl)
    (fun pre V => ((Boxed V w.heap.size 9 (.string s) ∧ Boxed V (w.heap.size + 1) 2 (.int .i64 0) ∧ Boxed V (w.heap.size + 1 + 1) 25 (.int .i64 0)) ∧ Hid (∀ r ∈ pre, r.1 ≠ s.data.toList)) ∧ Below w.heap.size w V)
    (fun c pre V => (c = .ret ∧ ∃ l x, pre = l ++ [x] ∧ (Boxed V (w.heap.size + 1) 2 (.int .i64 (x.2 : Int)) ∧ Boxed V (w.heap.size + 1 + 1) 25 (.int .i64 0)) ∧ Hid (x.1 = s.data.toList ∧ ∀ r ∈ l, r.1 ≠ s.data.toList)) ∧ Below w.heap.size w V)
    (OwnFrom.and (Own.from (fun _ A C row hs hg hr => ⟨⟨boxed_own hs.1.1 hg hr, boxed_own hs.1.2.1 hg hr, boxed_own hs.1.2.2 hg hr⟩, hs.2⟩) _) (ownFrom_below (Nat.le_refl _) (by simp; omega)))
    (fun c => OwnFrom.and (Own.from (fun _ A C row hs hg hr => by
      obtain ⟨rfl, l, x, rfl, a3, a4⟩ := hs
      exact ⟨rfl, l, x, rfl, ⟨boxed_own a3.1 hg hr, boxed_own a3.2 hg hr⟩, a4⟩) _) (ownFrom_below (Nat.le_refl _) (by simp; omega)))
    ?h0 _ ?assign ?body ?done ?stop
  case assign =>
    intro l x V K hK
    simp only [encR]
    gi_wp2
    exact hK
  case h0 => exact ⟨⟨⟨b0, b1, b2⟩, Lib.hid (fun r hr => by cases hr)⟩, hB0⟩
  case body =>
    rintro l pre x V ⟨⟨⟨c0, c1, c2⟩, hno⟩, hbel⟩ hlt
    have d0 := c0.cell
    have d1 := c1.cell
    have d2 := c2.cell
    have f1 := c1.frozen
    have f2 := c2.frozen
    obtain ⟨D, hD⟩ : ∃ D, (⟨x.1.toArray⟩ : ByteArray) = D := ⟨_, rfl⟩
    rw [hD]
    by_cases hx : x.1 = s.data.toList
    · obtain rfl : D = s := by rw [← hD]; exact bytes_eq hx
      have HX := Lib.hid hx
      clear hD hx
      gi_wp2
      exact ⟨(KeepsOthers.setCell _ _ _).trans (KeepsOthers.setCell _ _ _), ⟨rfl, pre, x, rfl, ⟨boxed_set (B := w.heap.size + 1) (C := w.heap.size + 1 + 1) (boxed_same c1 _) (by omega), boxed_same (boxed_set (B := w.heap.size + 1 + 1) (C := w.heap.size + 1) c2 (by omega)) _⟩, Lib.hid ⟨HX.out, hno.out⟩⟩, (hbel.setCell (p := ⟨w.heap.size + 1, 0, none⟩) (by show w.heap.size ≤ w.heap.size + 1; omega) _).setCell (p := ⟨w.heap.size + 1 + 1, 0, none⟩) (by show w.heap.size ≤ w.heap.size + 1 + 1; omega) _⟩
    · have hne : (D.toList == s.toList) = false := by
        rw [beq_eq_false_iff_ne]
        intro e
        rw [ByteArray.toList_eq, ByteArray.toList_eq, ← hD] at e
        exact hx e
      have HN := Lib.hid (show ∀ r ∈ pre ++ [x], r.1 ≠ s.data.toList by
        intro r hr
        rcases List.mem_append.1 hr with h | h
        · exact hno.out r h
        · rw [List.mem_singleton.1 h]; exact hx)
      clear hD hx
      gi_wp2
      exact ⟨KeepsOthers.refl _, ⟨Below.refl _ _, tabs_refl _⟩, ⟨⟨c0, c1, c2⟩, HN⟩, hbel⟩
  case done =>
    rintro D ys V hD hS ⟨⟨⟨c0, c1, c2⟩, hno⟩, hbel⟩ hK
    have HL := Lib.hid (show look T s.data.toList = none from look_no (by rw [← hS]; exact hno.out))
    have d1 := c1.cell
    have d2 := c2.cell
    have f1 := c1.frozen
    have f2 := c2.frozen
    clear hS
    gi_wp2
    have n1 := boxed_set (C := w.heap.size + 1 + 1) (u := .int .i64 30) (boxed_same c1 (.int .i64 0)) (by omega)
    have n2 := boxed_same (boxed_set (C := w.heap.size + 1) (u := .int .i64 0) c2 (by omega)) (.int .i64 30)
    have hb2 := (hbel.setCell (p := ⟨w.heap.size + 1, 0, none⟩) (by show w.heap.size ≤ w.heap.size + 1; omega) (.int .i64 0)).setCell (p := ⟨w.heap.size + 1 + 1, 0, none⟩) (by show w.heap.size ≤ w.heap.size + 1 + 1; omega) (.int .i64 30)
    have hK2 := ((KeepsOthers.setCell V ⟨w.heap.size + 1, 0, none⟩ (.int .i64 0)).trans (KeepsOthers.setCell _ ⟨w.heap.size + 1 + 1, 0, none⟩ (.int .i64 30))).same D _ hK rfl
    refine ⟨by simp, .inl ⟨_, _, rfl, run_takeDeferred hK2, ?_⟩⟩
    have kp : ∀ {p : Addr} {v : Value}, World.cell? _ p = some v → (World.putObj _ D (.deferred none)).cell? p = some v := fun h => cell_kept h (grownBy_putObj' _ D (.deferred none)) (fun r e => by cases e; exact ⟨_, hK2, rfl⟩)
    have e1 := kp n1.cell
    have e2 := kp n2.cell
    refine ⟨.tuple #[.int .i64 0, .int .i64 30], ?_, by rw [HL.out]; rfl, hb2.trans (belowK_b (w := w) (Nat.le_refl _) _ D _ _ (by simp at hD; omega) hK2 rfl rfl)⟩
    simp [results, Tryd.f27, go_sem, e1, e2]
  case stop =>
    rintro D c ys V hD hS ⟨⟨rfl, l, x, rfl, ⟨n1, n2⟩, hx⟩, hbel⟩ hK
    have HL := Lib.hid (look_yes hS hx.out.2 hx.out.1)
    clear hS
    gi_wp2
    refine ⟨by simp, .inl ⟨_, _, rfl, run_takeDeferred hK, ?_⟩⟩
    have kp : ∀ {p : Addr} {v : Value}, World.cell? _ p = some v → (World.putObj _ D (.deferred none)).cell? p = some v := fun h => cell_kept h (grownBy_putObj' _ D (.deferred none)) (fun r e => by cases e; exact ⟨_, hK, rfl⟩)
    have e1 := kp n1.cell
    have e2 := kp n2.cell
    refine ⟨.tuple #[.int .i64 (x.2 : Int), .int .i64 0], ?_, by rw [HL.out]; rfl, hbel.trans (belowK_b (w := w) (Nat.le_refl _) _ D _ _ (by simp at hD; omega) hK rfl rfl)⟩
    simp [results, Tryd.f27, go_sem, e1, e2]
end Go.Proofs.YtefglodkcddgiaaDoor
