/-
  first, Find, Section: what each call returns. Conditions: how the list lies.
-/
import Derived.Test.YtopghgoheaaceaaObjK
import Derived.Laws.ResultCell
namespace Go.Proofs.Ytopghgoheaaceaa
open Go.RowKit Go.Shelf
set_option linter.unusedVariables false
set_option linter.unusedSimpArgs false
attribute [local go_sem] Oper.semAt_some

theorem boxed_own {X Y : World} {B : Nat} {t : TypeId} {v : Value} {row : Option Nat} (hv : Boxed X B t v) (hg : X.grownBy Y row) (hrow : ∀ r, row = some r → ∃ o : Obj, X.heap[r]? = some o ∧ o.isCells = false) : Boxed Y B t v :=
  hv.kept hg (fun e' => by
    obtain ⟨o, ho, hc⟩ := hrow B e'.symm
    rw [show X.heap[B]? = _ from hv] at ho; cases ho; cases hc)
theorem boxed_set {X : World} {B C : Nat} {t : TypeId} {v u : Value} (h : Boxed X B t v) (hne : B ≠ C) : Boxed (X.setCell ⟨C, 0, none⟩ u) B t v :=
  (Below.heap_setCell _ _ _ _ hne).trans h
theorem boxed_same {X : World} {B : Nat} {t : TypeId} {v : Value} (h : Boxed X B t v) (u : Value) : Boxed (X.setCell ⟨B, 0, none⟩ u) B t u := by
  unfold Boxed at *
  simp only [World.setCell, Array.getElem?_modify, if_true, h, Option.map_some]
  rfl
/-- the number of the first that is that name -/
def findL : List BA → BA → Option Nat
  | [], _ => none
  | x :: L, s => if x = s then some 0 else (findL L s).map (· + 1)
def findO (o : Option Nat) : Ending := match o with
  | some k => .returned (.tuple #[.int .i64 (k : Int), .bool true])
  | none => .returned (.tuple #[.int .i64 0, .bool false])
theorem findL_none : ∀ {L : List BA} {s : BA}, (∀ r ∈ L, r ≠ s) → findL L s = none
  | [], _, _ => rfl
  | x :: L, s, h => by
    show (if x = s then some 0 else _) = none
    rw [if_neg (h x List.mem_cons_self), findL_none (fun r hr => h r (List.mem_cons_of_mem _ hr))]; rfl
theorem findL_some : ∀ {l M : List BA} {s : BA}, (∀ r ∈ l, r ≠ s) → findL (l ++ s :: M) s = some l.length
  | [], M, s, _ => by show (if s = s then some 0 else _) = some 0; rw [if_pos rfl]
  | x :: l, M, s, h => by
    show (if x = s then some 0 else (findL (l ++ s :: M) s).map (· + 1)) = _
    rw [if_neg (h x List.mem_cons_self), findL_some (fun r hr => h r (List.mem_cons_of_mem _ hr))]; rfl
theorem four_new (w : World) (a b c d : Obj) : ((((w.alloc a).alloc b).alloc c).alloc d).heap[w.heap.size]? = some a ∧ ((((w.alloc a).alloc b).alloc c).alloc d).heap[w.heap.size + 1]? = some b ∧ ((((w.alloc a).alloc b).alloc c).alloc d).heap[w.heap.size + 2]? = some c ∧ ((((w.alloc a).alloc b).alloc c).alloc d).heap[w.heap.size + 3]? = some d ∧ Below w.heap.size w ((((w.alloc a).alloc b).alloc c).alloc d) := by
  have z1 : (w.alloc a).heap.size = w.heap.size + 1 := by simp
  have z2 : ((w.alloc a).alloc b).heap.size = w.heap.size + 2 := by simp
  have z3 : (((w.alloc a).alloc b).alloc c).heap.size = w.heap.size + 3 := by simp
  refine ⟨?_, ?_, ?_, ?_, (((below1 w a).alloc (by simp) _).alloc (by simp; omega) _).alloc (by simp; omega) _⟩
  · rw [Below.heap_alloc _ _ _ (by omega), Below.heap_alloc _ _ _ (by omega), Below.heap_alloc _ _ _ (by omega)]; exact World.alloc_heap_new w _
  · rw [Below.heap_alloc _ _ _ (by omega), Below.heap_alloc _ _ _ (by omega), ← z1]; exact World.alloc_heap_new _ _
  · rw [Below.heap_alloc _ _ _ (by omega), ← z2]; exact World.alloc_heap_new _ _
  · rw [← z3]; exact World.alloc_heap_new _ _
set_option maxRecDepth 100000 in
set_option maxHeartbeats 4000000 in
theorem first_any (v : Value) (L : List BA) (s : BA) (w : World) (hv : NamesIt w v L) (hlen : L.length ≤ 281474976710656) :
    Calls Try.prog 56 #[v, .string s] w fun e w' => e = findO (findL L s) ∧ Below w.heap.size w w' := by
  obtain ⟨g, lb, rfl, hge, hseq⟩ := hv
  have GE := Lib.hid hge
  have GT := Lib.hid hseq
  clear hge hseq
  refine (callsIn_wide (n := 7)).1 ?_
  refine callsIn_of_wp_marks Try.func56 rfl trivial ?_ rfl
  simp only [Try.ntmps56, List.size_toArray, List.length_cons, List.length_nil, Nat.reduceAdd, Nat.reduceSub, Array.replicate_succ, Array.replicate_zero, List.push_toArray, List.append_toArray, List.nil_append, List.cons_append]
  gi_wp2_with fail
  obtain ⟨b0, b1, b2, b3, hB0⟩ := four_new w (.cells #[.string s] 9) (.cells #[.int .i64 0] 3) (.cells #[.bool false] 4) (.cells #[.int .i64 0] 3)
  generalize hW4 : (((w.alloc (.cells #[.string s] 9)).alloc (.cells #[.int .i64 0] 3)).alloc (.cells #[.bool false] 4)).alloc (.cells #[.int .i64 0] 3) = W4 at *
  have hz4 : W4.heap.size = w.heap.size + 4 := by rw [← hW4]; simp
  clear hW4
  refine' wpIn_rangeFunc_ownF rfl (by decide) (gf := g) (lb := lb) rfl trivial GE.out
    (GT.out BA (fun s => s) L (List.map_id' L) _) (fun h k => h.trans k) (belowK_b (w := W4) (by omega)) hB0 (fun _ => rfl)
    (fun pre V => ((Boxed V w.heap.size 9 (.string s) ∧ Boxed V (w.heap.size + 1) 3 (.int .i64 0) ∧ Boxed V (w.heap.size + 2) 4 (.bool false) ∧ Boxed V (w.heap.size + 3) 3 (.int .i64 (pre.length : Int))) ∧ Hid (∀ r ∈ pre, r ≠ s)) ∧ Below w.heap.size w V)
    (fun c pre V => (c = .ret ∧ ∃ l x, pre = l ++ [x] ∧ (Boxed V (w.heap.size + 1) 3 (.int .i64 (l.length : Int)) ∧ Boxed V (w.heap.size + 2) 4 (.bool true)) ∧ Hid (x = s ∧ ∀ r ∈ l, r ≠ s)) ∧ Below w.heap.size w V)
    (OwnFrom.and (Own.from (fun _ A C row hs hg hr => ⟨⟨boxed_own hs.1.1 hg hr, boxed_own hs.1.2.1 hg hr, boxed_own hs.1.2.2.1 hg hr, boxed_own hs.1.2.2.2 hg hr⟩, hs.2⟩) _) (ownFrom_below (Nat.le_refl _) (by omega)))
    (fun c => OwnFrom.and (Own.from (fun _ A C row hs hg hr => by
      obtain ⟨rfl, l, x, rfl, a3, a4⟩ := hs
      exact ⟨rfl, l, x, rfl, ⟨boxed_own a3.1 hg hr, boxed_own a3.2 hg hr⟩, a4⟩) _) (ownFrom_below (Nat.le_refl _) (by omega)))
    ?h0 _ ?assign ?body ?done ?stop
  case assign =>
    intro l x V K hK
    simp only [encN]
    gi_wp2
    exact hK
  case h0 => exact ⟨⟨⟨b0, b1, b2, b3⟩, Lib.hid (fun r hr => by cases hr)⟩, hB0⟩
  case body =>
    rintro l pre x V ⟨⟨⟨c0, c1, c2, c3⟩, hno⟩, hbel⟩ hlt
    have d0 := c0.cell
    have d1 := c1.cell
    have d2 := c2.cell
    have d3 := c3.cell
    have f1 := c1.frozen
    have f2 := c2.frozen
    have f3 := c3.frozen
    by_cases hx : x = s
    · subst hx
      have HNO := hno
      gi_wp2
      exact ⟨(KeepsOthers.setCell _ _ _).trans (KeepsOthers.setCell _ _ _), ⟨rfl, pre, x, rfl, ⟨boxed_set (B := w.heap.size + 1) (C := w.heap.size + 2) (boxed_same c1 _) (by omega), boxed_same (boxed_set (B := w.heap.size + 2) (C := w.heap.size + 1) c2 (by omega)) _⟩, Lib.hid ⟨rfl, HNO.out⟩⟩, (hbel.setCell (p := ⟨w.heap.size + 1, 0, none⟩) (by show w.heap.size ≤ w.heap.size + 1; omega) _).setCell (p := ⟨w.heap.size + 2, 0, none⟩) (by show w.heap.size ≤ w.heap.size + 2; omega) _⟩
    · have hne : (x.toList == s.toList) = false := str_no hx
      have HN := Lib.hid (show ∀ r ∈ pre ++ [x], r ≠ s by
        intro r hr
        rcases List.mem_append.1 hr with h | h
        · exact hno.out r h
        · rw [List.mem_singleton.1 h]; exact hx)
      have w9 : IntKind.i64.wrap ((pre.length : Int) + 1) = ((pre.length + 1 : Nat) : Int) := by rw [IntWalk.i64_in _ (by omega)]; omega
      clear hx
      gi_wp2
      refine ⟨KeepsOthers.setCell _ _ _, (Below.refl w.heap.size V).setCell (p := ⟨w.heap.size + 3, 0, none⟩) (by show w.heap.size ≤ w.heap.size + 3; omega) _, ⟨⟨boxed_set (C := w.heap.size + 3) c0 (by omega), boxed_set (C := w.heap.size + 3) c1 (by omega), boxed_set (C := w.heap.size + 3) c2 (by omega), ?_⟩, HN⟩, hbel.setCell (p := ⟨w.heap.size + 3, 0, none⟩) (by show w.heap.size ≤ w.heap.size + 3; omega) _⟩
      have := boxed_same c3 (.int .i64 ((pre ++ [x]).length : Int))
      first | exact this | (simpa [w9] using this)
  case done =>
    rintro D ys V hD hS ⟨⟨⟨c0, c1, c2, c3⟩, hno⟩, hbel⟩ hK
    have HL := Lib.hid (show findL L s = none from findL_none (by rw [← hS]; exact hno.out))
    have d1 := c1.cell
    have d2 := c2.cell
    have f1 := c1.frozen
    have f2 := c2.frozen
    clear hS
    gi_wp2
    have n1 := boxed_set (C := w.heap.size + 2) (u := .bool false) (boxed_same c1 (.int .i64 0)) (by omega)
    have n2 := boxed_same (boxed_set (C := w.heap.size + 1) (u := .int .i64 0) c2 (by omega)) (.bool false)
    have hb2 := (hbel.setCell (p := ⟨w.heap.size + 1, 0, none⟩) (by show w.heap.size ≤ w.heap.size + 1; omega) (.int .i64 0)).setCell (p := ⟨w.heap.size + 2, 0, none⟩) (by show w.heap.size ≤ w.heap.size + 2; omega) (.bool false)
    have hK2 := ((KeepsOthers.setCell V ⟨w.heap.size + 1, 0, none⟩ (.int .i64 0)).trans (KeepsOthers.setCell _ ⟨w.heap.size + 2, 0, none⟩ (.bool false))).same D _ hK rfl
    refine ⟨by simp, .inl ⟨_, _, rfl, run_takeDeferred hK2, ?_⟩⟩
    have kp : ∀ {p : Addr} {v : Value}, World.cell? _ p = some v → (World.putObj _ D (.deferred none)).cell? p = some v := fun h => cell_kept h (grownBy_putObj' _ D (.deferred none)) (fun r e => by cases e; exact ⟨_, hK2, rfl⟩)
    have e1 := kp n1.cell
    have e2 := kp n2.cell
    refine ⟨.tuple #[.int .i64 0, .bool false], ?_, by rw [HL.out]; rfl, hb2.trans (belowK_b (w := w) (Nat.le_refl _) _ D _ _ (by omega) hK2 rfl rfl)⟩
    simp [results, Try.f56, go_sem, e1, e2]
  case stop =>
    rintro D c ys V hD hS ⟨⟨rfl, l, x, rfl, ⟨n1, n2⟩, hx⟩, hbel⟩ hK
    have HL := Lib.hid (show findL L s = some l.length by
      obtain ⟨M, hM⟩ := hS
      rw [← hM, hx.out.1, List.append_assoc]
      exact findL_some hx.out.2)
    clear hS
    gi_wp2
    refine ⟨by simp, .inl ⟨_, _, rfl, run_takeDeferred hK, ?_⟩⟩
    have kp : ∀ {p : Addr} {v : Value}, World.cell? _ p = some v → (World.putObj _ D (.deferred none)).cell? p = some v := fun h => cell_kept h (grownBy_putObj' _ D (.deferred none)) (fun r e => by cases e; exact ⟨_, hK, rfl⟩)
    have e1 := kp n1.cell
    have e2 := kp n2.cell
    refine ⟨.tuple #[.int .i64 (l.length : Int), .bool true], ?_, by rw [HL.out]; rfl, hbel.trans (belowK_b (w := w) (Nat.le_refl _) _ D _ _ (by omega) hK rfl rfl)⟩
    simp [results, Try.f56, go_sem, e1, e2]
theorem find_any (o : Obj') (s : BA) (w : World) (ho : ObjO w o) (hlen : o.syms.length ≤ 281474976710656) :
    Calls Try.prog 22 #[obV o, .string s] w fun e w' => e = findO (findL (o.syms.map (·.name)) s) ∧ Below w.heap.size w w' := by
  have NM := Lib.hid (fun W (hb : Below w.heap.size w W) => symNames_any o W (ho.keep hb))
  have FS := Lib.hid (fun v W hv => first_any v (o.syms.map (·.name)) s W hv (by rw [List.length_map]; exact hlen))
  clear ho hlen
  generalize findL (o.syms.map (·.name)) s = R at *
  unfold obV at NM ⊢
  go_enter Try.func22, Try.ntmps22
  go_wp2_with fail
  refine (NM.out _ (below1 w _)).mono ?_
  rintro e w1 ⟨⟨v, rfl, hv⟩, hb1⟩
  have HV := Lib.hid hv
  have HB1 := Lib.hid (Below.thn (below1 w _) (by simp) hb1)
  clear hv hb1
  go_wp2_with fail
  refine (FS.out _ _ HV.out).mono ?_
  rintro e w2 ⟨rfl, hb2⟩
  have HB2 := Lib.hid (Below.thn HB1.out HB1.out.size hb2)
  clear hb2
  cases R with
  | none =>
    unfold findO
    go_wp2_with fail
    go_ret2
    exact ⟨rfl, HB2.out⟩
  | some k =>
    unfold findO
    go_wp2_with fail
    go_ret2
    exact ⟨rfl, HB2.out⟩
theorem section_any (o : Obj') (s : BA) (w : World) (ho : ObjO w o) (hlen : o.secs.length ≤ 281474976710656) :
    Calls Try.prog 24 #[obV o, .string s] w fun e w' => e = findO (findL (o.secs.map (·.name)) s) ∧ Below w.heap.size w w' := by
  have NM := Lib.hid (fun W (hb : Below w.heap.size w W) => secNames_any o W (ho.keep hb))
  have FS := Lib.hid (fun v W hv => first_any v (o.secs.map (·.name)) s W hv (by rw [List.length_map]; exact hlen))
  clear ho hlen
  generalize findL (o.secs.map (·.name)) s = R at *
  unfold obV at NM ⊢
  go_enter Try.func24, Try.ntmps24
  go_wp2_with fail
  refine (NM.out _ (below1 w _)).mono ?_
  rintro e w1 ⟨⟨v, rfl, hv⟩, hb1⟩
  have HV := Lib.hid hv
  have HB1 := Lib.hid (Below.thn (below1 w _) (by simp) hb1)
  clear hv hb1
  go_wp2_with fail
  refine (FS.out _ _ HV.out).mono ?_
  rintro e w2 ⟨rfl, hb2⟩
  have HB2 := Lib.hid (Below.thn HB1.out HB1.out.size hb2)
  clear hb2
  cases R with
  | none =>
    unfold findO
    go_wp2_with fail
    go_ret2
    exact ⟨rfl, HB2.out⟩
  | some k =>
    unfold findO
    go_wp2_with fail
    go_ret2
    exact ⟨rfl, HB2.out⟩
end Go.Proofs.Ytopghgoheaaceaa
