/-
  What each call of the program's Find returns. Conditions: how the argument lies, and its size.
-/
import Derived.Test.YtbheeahdbimeiaaStbL
namespace Go.Proofs.Ytbheeahdbimeiaa
open Go.RowKit Go.Shelf Go.Maps
set_option linter.unusedVariables false
set_option linter.unusedSimpArgs false
attribute [local go_sem] Oper.semAt_some

theorem below3 (w : World) (a b c : Obj) : Below w.heap.size w (((w.alloc a).alloc b).alloc c) := (((Below.refl _ w).alloc (Nat.le_refl _) a).alloc (by simp) b).alloc (by simp; omega) c
theorem three_new (w : World) (a b c : Obj) : (((w.alloc a).alloc b).alloc c).heap[w.heap.size]? = some a ∧ (((w.alloc a).alloc b).alloc c).heap[w.heap.size + 1]? = some b ∧ (((w.alloc a).alloc b).alloc c).heap[w.heap.size + 2]? = some c := by
  refine ⟨?_, ?_, ?_⟩
  · rw [Below.heap_alloc _ _ _ (by simp; omega), Below.heap_alloc _ _ _ (by simp)]; exact World.alloc_heap_new w a
  · rw [Below.heap_alloc _ _ _ (by simp)]
    have := World.alloc_heap_new (w.alloc a) b
    rwa [World.size_alloc] at this
  · have := World.alloc_heap_new ((w.alloc a).alloc b) c
    simpa using this
theorem fnd_bad {T s : BA} (h : chkE T ≠ 0) : fndR T s = (0, false) := by unfold fndR; rw [if_neg h]
def hitF (o : Option (Nat × BA)) (s : BA) : Nat × Bool := match o with
  | some r => (r.1, true)
  | none => (0, decide (s = ⟨#[]⟩))
theorem fnd_tab {T s : BA} {L : List BA} (h : chkE T = 0) (hL : TabN T L) : fndR T s = hitF ((laidB 1 L).find? (fun r => decide (r.2 = s))) s := by
  rw [← rowsB_tab hL]
  unfold fndR
  rw [if_pos h]
  rfl
theorem fnd_none {T s : BA} {L : List BA} (h : chkE T = 0) (hL : TabN T L) (hn : ∀ r ∈ laidB 1 L, r.2 ≠ s) : fndR T s = (0, decide (s = ⟨#[]⟩)) := by rw [fnd_tab h hL, find_no hn]; rfl
theorem fnd_some {T s : BA} {L : List BA} {pre r : List (Nat × BA)} {x : Nat × BA} (h : chkE T = 0) (hL : TabN T L) (hl : laidB 1 L = pre ++ x :: r) (hn : ∀ r ∈ pre, r.2 ≠ s) (hx : x.2 = s) : fndR T s = (x.1, true) := by
  rw [fnd_tab h hL, find_at (i := pre.length) (x := x) (by rw [hl, List.getElem?_append_right (Nat.le_refl _), Nat.sub_self]; rfl) hx (by rw [hl, List.take_left]; exact hn)]; rfl
theorem laidB_mem {p : Nat} {L : List BA} {r : Nat × BA} (h : r ∈ laidB p L) : r.2 ∈ L := by
  have h2 : r.2 ∈ (laidB p L).map (·.2) := List.mem_map.2 ⟨r, h, rfl⟩
  rwa [laidB_names] at h2
set_option maxRecDepth 100000 in
set_option maxHeartbeats 8000000 in
theorem find_empty_or_bad (v : Value) (T s : BA) (w : World) (ht : BysO w v (nmOf T)) (hl : T.size ≤ 1048576) (hs : chkE T ≠ 0 ∨ s = ⟨#[]⟩) :
    Calls Try.prog 16 #[v, .string s] w (FndP w T s) := by
  have CK := Lib.hid (check_any v T (((w.alloc (.cells #[.string s] 9)).alloc (.cells #[.int .i64 0] 3)).alloc (.cells #[.bool false] 4)) (ht.keep (below3 w _ _ _)) hl)
  have HA : Hid ((chkE T ≠ 0 ∧ fndR T s = (0, false)) ∨ (chkE T = 0 ∧ s = ⟨#[]⟩ ∧ fndR T s = (0, true))) := by
    refine Lib.hid ?_
    by_cases h : chkE T = 0
    · have h2 := hs.resolve_left (fun k => k h)
      obtain ⟨_, L, hL, _, hL2⟩ := chk_inv h
      exact .inr ⟨h, h2, by rw [fnd_none h hL (fun r hr => by rw [h2]; exact hL2 _ (laidB_mem hr)), h2]; rfl⟩
    · exact .inl ⟨h, fnd_bad h⟩
  have hB3 := below3 w (.cells #[.string s] 9) (.cells #[.int .i64 0] 3) (.cells #[.bool false] 4)
  have h3 := three_new w (.cells #[.string s] 9) (.cells #[.int .i64 0] 3) (.cells #[.bool false] 4)
  obtain ⟨aa, ca, rfl⟩ := ht.slice
  unfold FndP
  generalize fndR T s = F at *
  clear ht hs
  refine (callsIn_wide (n := 7)).1 ?_
  refine callsIn_of_wp_marks Try.func16 rfl trivial ?_ rfl
  simp only [Try.ntmps16, List.size_toArray, List.length_cons, List.length_nil, Nat.reduceAdd, Nat.reduceSub, Array.replicate_succ, Array.replicate_zero, List.push_toArray, List.append_toArray, List.nil_append, List.cons_append]
  gi_wp2_with fail
  generalize (((w.alloc (.cells #[.string s] 9)).alloc (.cells #[.int .i64 0] 3)).alloc (.cells #[.bool false] 4)) = W3 at *
  refine ⟨trivial, ?_⟩
  refine (callsIn_wide.2 CK.out).mono ?_
  rintro e w4 ⟨rfl, hb4⟩
  have k0 := (hb4.block _ (heap_lt h3.1)).trans h3.1
  have k1 := (hb4.block _ (heap_lt h3.2.1)).trans h3.2.1
  have k2 := (hb4.block _ (heap_lt h3.2.2)).trans h3.2.2
  have c0 : w4.cell? ⟨w.heap.size, 0, none⟩ = some (.string s) := Lib.cell_of_heap k0 0
  have c1 : w4.cell? ⟨w.heap.size + 1, 0, none⟩ = some (.int .i64 0) := Lib.cell_of_heap k1 0
  have c2 : w4.cell? ⟨w.heap.size + 2, 0, none⟩ = some (.bool false) := Lib.cell_of_heap k2 0
  have f1 := Lib.frozen_of_heap k1 0
  have f2 := Lib.frozen_of_heap k2 0
  have HB4 := Lib.hid (Below.thn hB3 hB3.size hb4)
  have HK1 := Lib.hid k1
  have HK2 := Lib.hid k2
  clear k0 k1 k2 hb4 hB3 h3 CK
  have fin : ∀ (x : Int) (y : Bool), ((w4.setCell ⟨w.heap.size + 1, 0, none⟩ (.int .i64 x)).setCell ⟨w.heap.size + 2, 0, none⟩ (.bool y)).cell? ⟨w.heap.size + 1, 0, none⟩ = some (.int .i64 x) ∧ ((w4.setCell ⟨w.heap.size + 1, 0, none⟩ (.int .i64 x)).setCell ⟨w.heap.size + 2, 0, none⟩ (.bool y)).cell? ⟨w.heap.size + 2, 0, none⟩ = some (.bool y) ∧ Below w.heap.size w ((w4.setCell ⟨w.heap.size + 1, 0, none⟩ (.int .i64 x)).setCell ⟨w.heap.size + 2, 0, none⟩ (.bool y)) := by
    intro x y
    have a1 : (w4.setCell ⟨w.heap.size + 1, 0, none⟩ (.int .i64 x)).heap[w.heap.size + 1]? = some (.cells #[.int .i64 x] 3 (0, 0)) := heap_setCell_same _ _ _ _ _ _ HK1.out
    have a2 : (w4.setCell ⟨w.heap.size + 1, 0, none⟩ (.int .i64 x)).heap[w.heap.size + 2]? = some (.cells #[.bool false] 4 (0, 0)) := (Below.heap_setCell _ _ _ _ (by show w.heap.size + 2 ≠ w.heap.size + 1; omega)).trans HK2.out
    have a3 : ((w4.setCell ⟨w.heap.size + 1, 0, none⟩ (.int .i64 x)).setCell ⟨w.heap.size + 2, 0, none⟩ (.bool y)).heap[w.heap.size + 2]? = some (.cells #[.bool y] 4 (0, 0)) := heap_setCell_same _ _ _ _ _ _ a2
    have a4 : ((w4.setCell ⟨w.heap.size + 1, 0, none⟩ (.int .i64 x)).setCell ⟨w.heap.size + 2, 0, none⟩ (.bool y)).heap[w.heap.size + 1]? = some (.cells #[.int .i64 x] 3 (0, 0)) := (Below.heap_setCell _ _ _ _ (by show w.heap.size + 1 ≠ w.heap.size + 2; omega)).trans a1
    exact ⟨Lib.cell_of_heap a4 0, Lib.cell_of_heap a3 0, (HB4.out.setCell (p := ⟨w.heap.size + 1, 0, none⟩) (by simp) _).setCell (p := ⟨w.heap.size + 2, 0, none⟩) (by simp) _⟩
  have FIN := Lib.hid fin
  clear fin
  rcases HA.out with ⟨hE, hF⟩ | ⟨hE, hs0, hF⟩
  · have hne : (chkE T == 0) = false := not_beq hE
    have hne2 : (chkE T != 0) = true := by simp [bne, hne]
    generalize chkE T = E at *
    gi_wp2_with fail
    obtain ⟨e1, e2, e3⟩ := FIN.out 0 false
    refine ⟨.tuple #[.int .i64 0, .bool false], ?_, by rw [hF]; rfl, e3⟩
    simp [results, Try.f16, go_sem, e1, e2]
  · rw [hE]
    subst hs0
    gi_wp2_with fail
    obtain ⟨e1, e2, e3⟩ := FIN.out 0 true
    refine ⟨.tuple #[.int .i64 0, .bool true], ?_, by rw [hF]; rfl, e3⟩
    simp [results, Try.f16, go_sem, e1, e2]
theorem two_set {w w4 : World} {i0 : Value} {b0 : Value} (HK1 : w4.heap[w.heap.size + 1]? = some (.cells #[i0] 3 (0, 0))) (HK2 : w4.heap[w.heap.size + 2]? = some (.cells #[b0] 4 (0, 0))) (x y : Value) :
    ((w4.setCell ⟨w.heap.size + 1, 0, none⟩ x).setCell ⟨w.heap.size + 2, 0, none⟩ y).heap[w.heap.size + 1]? = some (.cells #[x] 3 (0, 0)) ∧ ((w4.setCell ⟨w.heap.size + 1, 0, none⟩ x).setCell ⟨w.heap.size + 2, 0, none⟩ y).heap[w.heap.size + 2]? = some (.cells #[y] 4 (0, 0)) ∧
    (∀ n u, n ≤ w.heap.size → Below n u w4 → Below n u ((w4.setCell ⟨w.heap.size + 1, 0, none⟩ x).setCell ⟨w.heap.size + 2, 0, none⟩ y)) ∧ ((w4.setCell ⟨w.heap.size + 1, 0, none⟩ x).setCell ⟨w.heap.size + 2, 0, none⟩ y).heap.size = w4.heap.size ∧
    ∀ b, b ≠ w.heap.size + 1 → b ≠ w.heap.size + 2 → ((w4.setCell ⟨w.heap.size + 1, 0, none⟩ x).setCell ⟨w.heap.size + 2, 0, none⟩ y).heap[b]? = w4.heap[b]? := by
  have a1 : (w4.setCell ⟨w.heap.size + 1, 0, none⟩ x).heap[w.heap.size + 1]? = some (.cells #[x] 3 (0, 0)) := heap_setCell_same _ _ _ _ _ _ HK1
  have a2 : (w4.setCell ⟨w.heap.size + 1, 0, none⟩ x).heap[w.heap.size + 2]? = some (.cells #[b0] 4 (0, 0)) := (Below.heap_setCell _ _ _ _ (by show w.heap.size + 2 ≠ w.heap.size + 1; omega)).trans HK2
  have a3 : ((w4.setCell ⟨w.heap.size + 1, 0, none⟩ x).setCell ⟨w.heap.size + 2, 0, none⟩ y).heap[w.heap.size + 2]? = some (.cells #[y] 4 (0, 0)) := heap_setCell_same _ _ _ _ _ _ a2
  have a4 : ((w4.setCell ⟨w.heap.size + 1, 0, none⟩ x).setCell ⟨w.heap.size + 2, 0, none⟩ y).heap[w.heap.size + 1]? = some (.cells #[x] 3 (0, 0)) := (Below.heap_setCell _ _ _ _ (by show w.heap.size + 1 ≠ w.heap.size + 2; omega)).trans a1
  exact ⟨a4, a3, fun n u hn h => (h.setCell (p := ⟨w.heap.size + 1, 0, none⟩) (by simp; omega) _).setCell (p := ⟨w.heap.size + 2, 0, none⟩) (by simp; omega) _, by simp [World.setCell], fun b h1 h2 => (Below.heap_setCell _ _ _ _ h2).trans (Below.heap_setCell _ _ _ _ h1)⟩
set_option maxRecDepth 100000 in
set_option maxHeartbeats 8000000 in
theorem find_in (v : Value) (T s : BA) (L : List BA) (w : World) (ht : BysO w v (nmOf T)) (hl : T.size ≤ 1048576) (hE : chkE T = 0) (hT : TabN T L) (hs : s ≠ ⟨#[]⟩) :
    Calls Try.prog 16 #[v, .string s] w (FndP w T s) := by
  have CK := Lib.hid (check_any v T (((w.alloc (.cells #[.string s] 9)).alloc (.cells #[.int .i64 0] 3)).alloc (.cells #[.bool false] 4)) (ht.keep (below3 w _ _ _)) hl)
  rw [hE] at CK
  have HNo := Lib.hid (fun (h : ∀ r ∈ laidB 1 L, r.2 ≠ s) => show fndR T s = (0, false) by rw [fnd_none hE hT h, decide_eq_false hs])
  have HYes := Lib.hid (fun (pre r : List (Nat × BA)) (x : Nat × BA) hl hn hx => @fnd_some T s L pre r x hE hT hl hn hx)
  have hB3 := below3 w (.cells #[.string s] 9) (.cells #[.int .i64 0] 3) (.cells #[.bool false] 4)
  have h3 := three_new w (.cells #[.string s] 9) (.cells #[.int .i64 0] 3) (.cells #[.bool false] 4)
  have hz3 : ((((w.alloc (.cells #[.string s] 9)).alloc (.cells #[.int .i64 0] 3)).alloc (.cells #[.bool false] 4))).heap.size = w.heap.size + 3 := by simp
  have HCV := Lib.hid (fun W (hb : Below w.heap.size w W) => by have := conv_any (ht.keep hb); rwa [str_nm] at this)
  have PA := Lib.hid (fun W => pieces_any T W)
  have PT := Lib.hid (fun n bl W h => pieces_tells n bl W T L (.inl hT) hl h)
  have hn2 : (ByteArray.toList s).isEmpty = false := by
    cases hc : ByteArray.toList s with
    | nil => exact absurd (ba_ext (by rw [ByteArray.toList_eq] at hc; exact hc)) hs
    | cons c r => rfl
  have hn1 := ba_ne hs
  obtain ⟨aa, ca, rfl⟩ := ht.slice
  unfold FndP
  generalize fndR T s = F at *
  clear ht hs hT hE
  refine (callsIn_wide (n := 7)).1 ?_
  refine callsIn_of_wp_marks Try.func16 rfl trivial ?_ rfl
  simp only [Try.ntmps16, List.size_toArray, List.length_cons, List.length_nil, Nat.reduceAdd, Nat.reduceSub, Array.replicate_succ, Array.replicate_zero, List.push_toArray, List.append_toArray, List.nil_append, List.cons_append]
  gi_wp2_with fail
  generalize (((w.alloc (.cells #[.string s] 9)).alloc (.cells #[.int .i64 0] 3)).alloc (.cells #[.bool false] 4)) = W3 at *
  refine ⟨trivial, ?_⟩
  refine (callsIn_wide.2 CK.out).mono ?_
  rintro e w4 ⟨rfl, hb4⟩
  have k0 := (hb4.block _ (heap_lt h3.1)).trans h3.1
  have k1 := (hb4.block _ (heap_lt h3.2.1)).trans h3.2.1
  have k2 := (hb4.block _ (heap_lt h3.2.2)).trans h3.2.2
  have c0 : w4.cell? ⟨w.heap.size, 0, none⟩ = some (.string s) := Lib.cell_of_heap k0 0
  have hB4 := Below.thn hB3 hB3.size hb4
  have hz4 : w.heap.size + 3 ≤ w4.heap.size := by have := hb4.size; omega
  have hcv := HCV.out w4 hB4
  clear hb4 hB3 h3 CK
  gi_wp2_with fail
  refine ⟨trivial, ?_⟩
  refine (callsIn_wide.2 (PA.out _)).mono ?_
  rintro e w5 ⟨rfl, hw5⟩
  gi_wp2_with fail
  have hX0 : (w4.alloc (.cells #[.string T] 9)).heap[w4.heap.size]? = some (.cells #[.string T] 9 (0, 0)) := heap_alloc_new w4 _
  have hbA := below1 w4 (.cells #[.string T] 9)
  have m0 := (hbA.block _ (heap_lt k0)).trans k0
  have m1 := (hbA.block _ (heap_lt k1)).trans k1
  have m2 := (hbA.block _ (heap_lt k2)).trans k2
  have hB0 := Below.thn hB4 hB4.size hbA
  have hz0 : (w4.alloc (.cells #[.string T] 9)).heap.size = w4.heap.size + 1 := by simp
  generalize w4.alloc (.cells #[.string T] 9) = W0 at *
  clear hbA hw5 hcv k0 k1 k2 c0
  refine' range_tellsX (Fr := KT) KT.trans (fun W l o o' hl h ho _ => kt_put h ho) (gf := 37) (lb := #[.pointer (some ⟨w4.heap.size, 0, none⟩)]) rfl enters_pieces
    (PT.out _ _ W0 hX0) (Below.refl _ _) (fun _ => rfl)
    (fun pre V => (V.heap[w.heap.size]? = some (.cells #[.string s] 9 (0, 0)) ∧ V.heap[w.heap.size + 1]? = some (.cells #[.int .i64 0] 3 (0, 0)) ∧ V.heap[w.heap.size + 2]? = some (.cells #[.bool false] 4 (0, 0)) ∧ ∀ r ∈ pre, r.2 ≠ s) ∧ Below w.heap.size w V)
    (fun c pre V => (c = .ret ∧ ∃ (a : List (Nat × BA)) (x : Nat × BA), pre = a ++ [x] ∧ x.2 = s ∧ (∀ r ∈ a, r.2 ≠ s) ∧ V.heap[w.heap.size + 1]? = some (.cells #[.int .i64 (x.1 : Int)] 3 (0, 0)) ∧ V.heap[w.heap.size + 2]? = some (.cells #[.bool true] 4 (0, 0))) ∧ Below w.heap.size w V)
    (OwnFrom.and (Own.from (fun s A C row hs hg hr => ⟨cells_kept hs.1 hg hr, cells_kept hs.2.1 hg hr, cells_kept hs.2.2.1 hg hr, hs.2.2.2⟩) _) (ownFrom_below (Nat.le_refl _) (by omega)))
    (fun c => OwnFrom.and (Own.from (fun s A C row hs hg hr => ⟨hs.1, by
      obtain ⟨a, x, h1, h2, h3, h4, h5⟩ := hs.2
      exact ⟨a, x, h1, h2, h3, cells_kept h4 hg hr, cells_kept h5 hg hr⟩⟩) _) (ownFrom_below (Nat.le_refl _) (by omega)))
    ⟨⟨m0, m1, m2, fun r hr => by cases hr⟩, hB0⟩
    (fun A B hA hAB => kt_below hAB)
    (fun x a₁ X => a₁ = { tmps := #[.slice aa (nmOf T).length ca, .string s, undef, .pointer (some ⟨w.heap.size, 0, none⟩), .pointer (some ⟨w.heap.size + 1, 0, none⟩), .pointer (some ⟨w.heap.size + 1 + 1, 0, none⟩), .int .i64 (x.1 : Int), .string x.2, .slice aa (nmOf T).length ca, .int .i64 0, .bool false, .string s, .bool false, .slice aa (nmOf T).length ca, .string T, .func (.func 37) #[] #[.pointer (some ⟨w4.heap.size, 0, none⟩)], .int .i64 (x.1 : Int), .string x.2, undef, undef, undef, undef], defers := [] })
    ?hAs ?hassign ?hbody ?hdone ?hstop
  case hAs =>
    refine Own.from ?_ _
    rintro s A C row hs hg hr
    exact hs
  case hassign =>
    intro m l x V K hV hK
    simp only [encP]
    gi_wp2
    exact hK _ _ (Below.refl _ _) rfl
  case hbody =>
    rintro m l2 pre x a1 X hl2 ⟨⟨hc0, hc1, hc2, hall⟩, hbel⟩ rfl hlt hok
    have q0 : X.cell? ⟨w.heap.size, 0, none⟩ = some (.string s) := Lib.cell_of_heap hc0 0
    have q1 : X.cell? ⟨w.heap.size + 1, 0, none⟩ = some (.int .i64 0) := Lib.cell_of_heap hc1 0
    have q2 : X.cell? ⟨w.heap.size + 2, 0, none⟩ = some (.bool false) := Lib.cell_of_heap hc2 0
    have f1 := Lib.frozen_of_heap hc1 0
    have f2 := Lib.frozen_of_heap hc2 0
    have HS := Lib.hid (two_set hc1 hc2)
    have HC0 := Lib.hid hc0
    have HC1 := Lib.hid hc1
    have HC2 := Lib.hid hc2
    have HB := Lib.hid hbel
    have HA := Lib.hid hall
    clear hc0 hc1 hc2 hbel hall
    obtain ⟨xp, xs⟩ := x
    simp only
    by_cases he : xs = s
    · subst he
      gi_wp2_with fail
      obtain ⟨s1, s2, s3, s4, s5⟩ := HS.out (.int .i64 (xp : Int)) (.bool true)
      exact ⟨⟨by rw [s4]; exact Nat.le_refl _, fun k o hk ho _ => by rw [s5 k (by omega) (by omega)]; exact ho⟩, ⟨rfl, pre, (xp, xs), rfl, rfl, HA.out, s1, s2⟩, s3 _ _ (Nat.le_refl _) HB.out⟩
    · have hne := ba_ne he
      have HN := Lib.hid (show ∀ r ∈ pre ++ [(xp, xs)], r.2 ≠ s by
        intro r hr
        rcases List.mem_append.1 hr with h | h
        · exact HA.out r h
        · rw [List.mem_singleton.1 h]; exact he)
      clear he
      gi_wp2_with fail
      exact ⟨KeepsFrom.refl _ _, KT.refl _, ⟨HC0.out, HC1.out, HC2.out, HN.out⟩, HB.out⟩
  case hdone =>
    rintro D xs V hD rfl ⟨⟨hc0, hc1, hc2, hall⟩, hbel⟩ hK
    have q1 : V.cell? ⟨w.heap.size + 1, 0, none⟩ = some (.int .i64 0) := Lib.cell_of_heap hc1 0
    have q2 : V.cell? ⟨w.heap.size + 2, 0, none⟩ = some (.bool false) := Lib.cell_of_heap hc2 0
    have f1 := Lib.frozen_of_heap hc1 0
    have f2 := Lib.frozen_of_heap hc2 0
    have HF := Lib.hid (HNo.out hall)
    obtain ⟨s1, s2, s3, s4, s5⟩ := two_set hc1 hc2 (.int .i64 0) (.bool false)
    have HK2 := Lib.hid ((s5 D (by omega) (by omega)).trans hK)
    have HB2 := Lib.hid (s3 _ _ (Nat.le_refl _) hbel)
    have HR := Lib.hid (And.intro s1 s2)
    have hD1 : w.heap.size + 1 ≠ D := by omega
    have hD2 : w.heap.size + 2 ≠ D := by omega
    have hD0 : w.heap.size ≤ D := by omega
    clear s1 s2 s3 s4 s5 hall
    gi_wp2_with fail
    refine ⟨by simp, .inl ⟨_, _, rfl, run_takeDeferred HK2.out, ?_⟩⟩
    refine ⟨.tuple #[.int .i64 0, .bool false], ?_, by rw [HF.out]; rfl, HB2.out.trans (below_put hD0)⟩
    have e1 := (cell_put (o' := .deferred none) hD1).trans (Lib.cell_of_heap HR.out.1 0)
    have e2 := (cell_put (o' := .deferred none) hD2).trans (Lib.cell_of_heap HR.out.2 0)
    simp [results, Try.f16, go_sem, e1, e2]
  case hstop =>
    rintro D c ys V hD hS ⟨⟨rfl, a, x, rfl, hx, ha, hc1, hc2⟩, hbel⟩ hK
    have HF := Lib.hid (show F = (x.1, true) from by
      obtain ⟨r, hr⟩ := hS
      exact HYes.out a r x (by rw [← hr]; simp) ha hx)
    have hD1 : w.heap.size + 1 ≠ D := by omega
    have hD2 : w.heap.size + 2 ≠ D := by omega
    have hD0 : w.heap.size ≤ D := by omega
    gi_wp2_with fail
    refine ⟨by simp, .inl ⟨_, _, rfl, run_takeDeferred hK, ?_⟩⟩
    refine ⟨.tuple #[.int .i64 (x.1 : Int), .bool true], ?_, by rw [HF.out], hbel.trans (below_put hD0)⟩
    have e1 := (cell_put (o' := .deferred none) hD1).trans (Lib.cell_of_heap hc1 0)
    have e2 := (cell_put (o' := .deferred none) hD2).trans (Lib.cell_of_heap hc2 0)
    simp [results, Try.f16, go_sem, e1, e2]
theorem find_any (v : Value) (T s : BA) (w : World) (ht : BysO w v (nmOf T)) (hl : T.size ≤ 1048576) :
    Calls Try.prog 16 #[v, .string s] w (FndP w T s) := by
  by_cases h : chkE T ≠ 0 ∨ s = ⟨#[]⟩
  · exact find_empty_or_bad v T s w ht hl h
  · have hE : chkE T = 0 := Classical.byContradiction fun k => h (.inl k)
    obtain ⟨_, L, hL, _⟩ := chk_inv hE
    exact find_in v T s L w ht hl hE hL (fun k => h (.inr k))
end Go.Proofs.Ytbheeahdbimeiaa
