/-
  What each call of the program's Name returns. Conditions: what the package-level variables hold (Good).
-/
import Derived.Test.YtefglodkcddgiaaDoorNamesQ
namespace Go.Proofs.YtefglodkcddgiaaDoor
open Go.RowKit Go.Shelf
attribute [local go_sem] Oper.semAt_some

theorem nameOf_1 (n : Int) : nameOf 1 n = rlook regT n := by
  unfold nameOf
  rw [show tbl 1 = regT from rfl]
  cases rlook regT n with
  | some x => rfl
  | none => simp only; rw [if_neg (by omega)]
theorem nameOf_in {k n : Int} {x : List UInt8} (h : rlook (tbl k) n = some x) : nameOf k n = some x := by unfold nameOf; rw [h]
theorem nameOf_form {n : Nat} (h : rlook (tbl 6) (n : Int) = none) (hn : n < 32768) : nameOf 6 (n : Int) = some (sysText n) := by
  unfold nameOf; rw [h]; simp only; rw [if_pos ⟨trivial, by omega, by omega⟩, Int.toNat_natCast]
theorem nameOf_out {k n : Int} (h : rlook (tbl k) n = none) (hn : ¬ (k = 6 ∧ 0 ≤ n ∧ n ≤ 32767)) : nameOf k n = none := by
  unfold nameOf; rw [h]; simp only; rw [if_neg hn]

set_option maxHeartbeats 1000000 in
theorem name_1 (n : Int) (w : World) :
    Calls Tryd.prog 15 #[.int .i64 1, .int .i64 n] w fun e w' => e = strOut (nameOf 1 n) ∧ Below w.heap.size w w' := by
  rw [nameOf_1]
  have R := Lib.hid (fun w => regText_any n w)
  generalize rlook regT n = o at *
  unfold strOut at *
  go_enter Tryd.func15, Tryd.ntmps15
  go_wp2_with fail
  refine (R.out _).mono ?_
  rintro e w1 ⟨rfl, hb⟩
  obtain ⟨hcc, hff⟩ := bcell hb
  have hz : w.heap.size + 1 + 1 < w1.heap.size := by have := hb.size; simp at this; omega
  have HB := Lib.hid hb
  clear hb
  go_wp2_with fail
  exact bodyPost_ret (v := .tuple #[.string (strB o), .int .i64 (errO o)]) (by simp [results, Tryd.results15, hcc, go_sem]) rfl ⟨rfl, ((((((Below.refl _ _).alloc (Nat.le_refl _) _).alloc (by simp) _).alloc (by simp; omega) _).trans (HB.out.mono (by simp; omega))).setCell (p := ⟨w.heap.size + 1, 0, none⟩) (by simp) _).setCell (p := ⟨w.heap.size + 1 + 1, 0, none⟩) (by simp; omega) _⟩

set_option maxRecDepth 100000 in
set_option maxHeartbeats 4000000 in
theorem name_any (k n : Int) (w : World) (hG : Good w) :
    Calls Tryd.prog 15 #[.int .i64 k, .int .i64 n] w fun e w' => e = strOut (nameOf k n) ∧ Below w.heap.size w w' := by
  by_cases hk1 : k = 1
  · subst hk1; exact name_1 n w
  obtain ⟨g, hg⟩ := gen_any k
  have GA := Lib.hid hg.all
  have GT := Lib.hid hg.tells
  have GE := Lib.hid hg.enters
  have HG := Lib.hid hG
  have bk1 : (k == 1) = false := by simp [hk1]
  obtain ⟨T, hT⟩ : ∃ T, tbl k = T := ⟨_, rfl⟩
  rw [hT] at GT
  have HT := Lib.hid hT
  clear hg hG hk1 hT
  refine (callsIn_wide (n := 7)).1 ?_
  refine callsIn_of_wp_marks Tryd.func15 rfl trivial ?_ rfl
  simp only [Tryd.ntmps15, List.size_toArray, List.length_cons, List.length_nil, Nat.reduceAdd, Nat.reduceSub, Array.replicate_succ, Array.replicate_zero, List.push_toArray, List.append_toArray, List.nil_append, List.cons_append]
  gi_wp2_with fail
  refine ⟨trivial, ?_⟩
  refine (callsIn_wide.2 (GA.out _)).mono ?_
  rintro e w1 ⟨rfl, rfl⟩
  gi_wp2_with fail
  have b0 := ((Boxed.new w 2 (.int .i64 n)).alloc (.cells #[.string ⟨#[]⟩] 9)).alloc (.cells #[.int .i64 0] 25)
  have b1 := (Boxed.new (w.alloc (.cells #[.int .i64 n] 2)) 9 (.string ⟨#[]⟩)).alloc (.cells #[.int .i64 0] 25)
  have b2 := Boxed.new ((w.alloc (.cells #[.int .i64 n] 2)).alloc (.cells #[.string ⟨#[]⟩] 9)) 25 (.int .i64 0)
  simp only [World.size_alloc] at b1 b2
  have hB0 : Below w.heap.size w (((w.alloc (.cells #[.int .i64 n] 2)).alloc (.cells #[.string ⟨#[]⟩] 9)).alloc (.cells #[.int .i64 0] 25)) := (((Below.refl _ w).alloc (Nat.le_refl _) _).alloc (by simp) _).alloc (by simp; omega) _
  refine' wpIn_rangeFunc_ownF rfl (by decide) (gf := g) (lb := #[]) rfl trivial GE.out
    (GT.out _ w.heap.size _ (by simp; omega)) Kt.trans (kt_b (by simp; omega)) (Below.refl _ _) (fun _ => rfl)
    (fun pre V => ((Boxed V w.heap.size 2 (.int .i64 n) ∧ Boxed V (w.heap.size + 1) 9 (.string ⟨#[]⟩) ∧ Boxed V (w.heap.size + 1 + 1) 25 (.int .i64 0)) ∧ Hid (∀ r ∈ pre, (r.2 : Int) ≠ n)) ∧ Below w.heap.size w V)
    (fun c pre V => (c = .ret ∧ ∃ l x, pre = l ++ [x] ∧ (Boxed V (w.heap.size + 1) 9 (.string ⟨x.1.toArray⟩) ∧ Boxed V (w.heap.size + 1 + 1) 25 (.int .i64 0)) ∧ Hid ((x.2 : Int) = n ∧ ∀ r ∈ l, (r.2 : Int) ≠ n)) ∧ Below w.heap.size w V)
    (OwnFrom.and (Own.from (fun _ A C row hs hg hr => ⟨⟨boxed_own hs.1.1 hg hr, boxed_own hs.1.2.1 hg hr, boxed_own hs.1.2.2 hg hr⟩, hs.2⟩) _) (ownFrom_below (Nat.le_refl _) (by simp; omega)))
    (fun c => OwnFrom.and (Own.from (fun _ A C row hs hg hr => by
      obtain ⟨rfl, l, x, rfl, a3, a4⟩ := hs
      exact ⟨rfl, l, x, rfl, ⟨boxed_own a3.1 hg hr, boxed_own a3.2 hg hr⟩, a4⟩) _) (ownFrom_below (Nat.le_refl _) (by simp; omega)))
    ?h0 _ ?assign ?body ?done ?stop
  case assign =>
    intro l x V K hK
    simp only [encR]
    gi_wp2
    exact hK
  case h0 => exact ⟨⟨⟨b0, b1, b2⟩, Lib.hid (fun r hr => by cases hr)⟩, hB0⟩
  case body =>
    rintro l pre x V ⟨⟨⟨c0, c1, c2⟩, hno⟩, hbel⟩ hlt
    have d0 := c0.cell
    have d1 := c1.cell
    have d2 := c2.cell
    have f1 := c1.frozen
    have f2 := c2.frozen
    obtain ⟨D, hD⟩ : ∃ D, (⟨x.1.toArray⟩ : ByteArray) = D := ⟨_, rfl⟩
    rw [hD]
    by_cases hx : (x.2 : Int) = n
    · have hxe : ((x.2 : Int) == n) = true := by simp [hx]
      have HX := Lib.hid hx
      have HD := Lib.hid hD
      clear hD hx
      gi_wp2
      exact ⟨(KeepsOthers.setCell _ _ _).trans (KeepsOthers.setCell _ _ _), ⟨rfl, pre, x, rfl, ⟨boxed_set (B := w.heap.size + 1) (C := w.heap.size + 1 + 1) (by rw [HD.out]; exact boxed_same c1 _) (by omega), boxed_same (boxed_set (B := w.heap.size + 1 + 1) (C := w.heap.size + 1) c2 (by omega)) _⟩, Lib.hid ⟨HX.out, hno.out⟩⟩, (hbel.setCell (p := ⟨w.heap.size + 1, 0, none⟩) (by show w.heap.size ≤ w.heap.size + 1; omega) _).setCell (p := ⟨w.heap.size + 1 + 1, 0, none⟩) (by show w.heap.size ≤ w.heap.size + 1 + 1; omega) _⟩
    · have hne : ((x.2 : Int) == n) = false := by simp [hx]
      have HN := Lib.hid (show ∀ r ∈ pre ++ [x], (r.2 : Int) ≠ n by
        intro r hr
        rcases List.mem_append.1 hr with h | h
        · exact hno.out r h
        · rw [List.mem_singleton.1 h]; exact hx)
      clear hD hx
      gi_wp2
      exact ⟨KeepsOthers.refl _, ⟨Below.refl _ _, tabs_refl _⟩, ⟨⟨c0, c1, c2⟩, HN⟩, hbel⟩
  case done =>
    rintro D ys V hD hS ⟨⟨⟨c0, c1, c2⟩, hno⟩, hbel⟩ hK
    have hL : rlook T n = none := rlook_no (by rw [← hS]; exact hno.out)
    rw [← HT.out] at hL
    have d0 := c0.cell
    have d1 := c1.cell
    have d2 := c2.cell
    have f1 := c1.frozen
    have f2 := c2.frozen
    have hVs := hbel.size
    have z2 := c2.lt
    have z1 := c1.lt
    clear hS
    by_cases hform : k = 6 ∧ 0 ≤ n ∧ n ≤ 32767
    · obtain ⟨rfl, hn0, hn1⟩ := hform
      obtain ⟨m, rfl⟩ : ∃ m : Nat, n = (m : Int) := ⟨n.toNat, by omega⟩
      have HL := Lib.hid (nameOf_form hL (by omega))
      have ST := Lib.hid (sysText_any m V (HG.out.keep HG.out.size hbel) (by omega))
      clear hL
      gi_wp2_with fail
      refine ⟨trivial, ?_⟩
      refine (callsIn_wide.2 ST.out).mono ?_
      rintro e W2 ⟨rfl, hb⟩
      have c1' : Boxed W2 (w.heap.size + 1) 9 (.string ⟨#[]⟩) := (hb.block _ z1).trans c1
      have c2' : Boxed W2 (w.heap.size + 1 + 1) 25 (.int .i64 0) := (hb.block _ z2).trans c2
      have hK' : W2.heap[D]? = some (.deferred (some [])) := (hb.block D (Array.getElem?_eq_some_iff.1 hK).1).trans hK
      have d1' := c1'.cell
      have d2' := c2'.cell
      have f1' := c1'.frozen
      have f2' := c2'.frozen
      have hbel2 := Below.thn hbel hbel.size hb
      clear d0 d1 d2 f1 f2 hK
      gi_wp2_with fail
      have n1 := boxed_set (C := w.heap.size + 1 + 1) (u := .int .i64 0) (boxed_same c1' (.string ⟨(sysText m).toArray⟩)) (by omega)
      have n2 := boxed_same (boxed_set (C := w.heap.size + 1) (u := .string ⟨(sysText m).toArray⟩) c2' (by omega)) (.int .i64 0)
      have hb2 := (hbel2.setCell (p := ⟨w.heap.size + 1, 0, none⟩) (by show w.heap.size ≤ w.heap.size + 1; omega) (.string ⟨(sysText m).toArray⟩)).setCell (p := ⟨w.heap.size + 1 + 1, 0, none⟩) (by show w.heap.size ≤ w.heap.size + 1 + 1; omega) (.int .i64 0)
      have hK2 := ((KeepsOthers.setCell W2 ⟨w.heap.size + 1, 0, none⟩ (.string ⟨(sysText m).toArray⟩)).trans (KeepsOthers.setCell _ ⟨w.heap.size + 1 + 1, 0, none⟩ (.int .i64 0))).same D _ hK' rfl
      refine ⟨by simp, .inl ⟨_, _, rfl, run_takeDeferred hK2, ?_⟩⟩
      have kp : ∀ {p : Addr} {v : Value}, World.cell? _ p = some v → (World.putObj _ D (.deferred none)).cell? p = some v := fun h => cell_kept h (grownBy_putObj' _ D (.deferred none)) (fun r e => by cases e; exact ⟨_, hK2, rfl⟩)
      have e1 := kp n1.cell
      have e2 := kp n2.cell
      refine ⟨.tuple #[.string ⟨(sysText m).toArray⟩, .int .i64 0], ?_, by rw [HL.out]; rfl, hb2.trans (belowK_b (w := w) (Nat.le_refl _) _ D _ _ (by simp at hD; omega) hK2 rfl rfl)⟩
      simp [results, Tryd.f15, go_sem, e1, e2]
    · have HL := Lib.hid (nameOf_out hL hform)
      have hw : (k == 6) = false ∨ ((k == 6) = true ∧ n < 0) ∨ ((k == 6) = true ∧ 0 ≤ n ∧ 32767 < n) := by
        by_cases g : k = 6
        · subst g
          by_cases g0 : n < 0
          · exact .inr (.inl ⟨rfl, g0⟩)
          · exact .inr (.inr ⟨rfl, by omega, by omega⟩)
        · exact .inl (by simp [g])
      clear hL hform
      rcases hw with h | ⟨h, h2⟩ | ⟨h, h2, h3⟩
      all_goals
        gi_wp2
        have n1 := boxed_set (C := w.heap.size + 1 + 1) (u := .int .i64 30) (boxed_same c1 (.string ⟨#[]⟩)) (by omega)
        have n2 := boxed_same (boxed_set (C := w.heap.size + 1) (u := .string ⟨#[]⟩) c2 (by omega)) (.int .i64 30)
        have hb2 := (hbel.setCell (p := ⟨w.heap.size + 1, 0, none⟩) (by show w.heap.size ≤ w.heap.size + 1; omega) (.string ⟨#[]⟩)).setCell (p := ⟨w.heap.size + 1 + 1, 0, none⟩) (by show w.heap.size ≤ w.heap.size + 1 + 1; omega) (.int .i64 30)
        have hK2 := ((KeepsOthers.setCell V ⟨w.heap.size + 1, 0, none⟩ (.string ⟨#[]⟩)).trans (KeepsOthers.setCell _ ⟨w.heap.size + 1 + 1, 0, none⟩ (.int .i64 30))).same D _ hK rfl
        refine ⟨by simp, .inl ⟨_, _, rfl, run_takeDeferred hK2, ?_⟩⟩
        have kp : ∀ {p : Addr} {v : Value}, World.cell? _ p = some v → (World.putObj _ D (.deferred none)).cell? p = some v := fun h => cell_kept h (grownBy_putObj' _ D (.deferred none)) (fun r e => by cases e; exact ⟨_, hK2, rfl⟩)
        have e1 := kp n1.cell
        have e2 := kp n2.cell
        refine ⟨.tuple #[.string ⟨#[]⟩, .int .i64 30], ?_, by rw [HL.out]; rfl, hb2.trans (belowK_b (w := w) (Nat.le_refl _) _ D _ _ (by simp at hD; omega) hK2 rfl rfl)⟩
        simp [results, Tryd.f15, go_sem, e1, e2]
  case stop =>
    rintro D c ys V hD hS ⟨⟨rfl, l, x, rfl, ⟨n1, n2⟩, hx⟩, hbel⟩ hK
    have HL := Lib.hid (nameOf_in (k := k) (n := n) (by rw [HT.out]; exact rlook_yes hS hx.out.2 hx.out.1))
    clear hS
    gi_wp2
    refine ⟨by simp, .inl ⟨_, _, rfl, run_takeDeferred hK, ?_⟩⟩
    have kp : ∀ {p : Addr} {v : Value}, World.cell? _ p = some v → (World.putObj _ D (.deferred none)).cell? p = some v := fun h => cell_kept h (grownBy_putObj' _ D (.deferred none)) (fun r e => by cases e; exact ⟨_, hK, rfl⟩)
    have e1 := kp n1.cell
    have e2 := kp n2.cell
    refine ⟨.tuple #[.string ⟨x.1.toArray⟩, .int .i64 0], ?_, by rw [HL.out]; rfl, hbel.trans (belowK_b (w := w) (Nat.le_refl _) _ D _ _ (by simp at hD; omega) hK rfl rfl)⟩
    simp [results, Tryd.f15, go_sem, e1, e2]
end Go.Proofs.YtefglodkcddgiaaDoor
