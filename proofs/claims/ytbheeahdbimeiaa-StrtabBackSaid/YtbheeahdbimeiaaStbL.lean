/-
  What each call of the program's Check returns. Conditions: how the argument lies, and its size.
-/
import Derived.Test.YtbheeahdbimeiaaStbK
namespace Go.Proofs.Ytbheeahdbimeiaa
open Go.RowKit Go.Shelf Go.Maps
set_option linter.unusedVariables false
set_option linter.unusedSimpArgs false
attribute [local go_sem] Oper.semAt_some

/-- the map when these rows were put -/
def gOf (l : List (Nat × BA)) : BA → Option Nat := l.foldl (fun g r => upd g r.2 r.1) g0
theorem gOf_snoc (l : List (Nat × BA)) (x : Nat × BA) : gOf (l ++ [x]) = upd (gOf l) x.2 x.1 := by unfold gOf; rw [List.foldl_append]; rfl
theorem fold_none : ∀ (l : List (Nat × BA)) (g : BA → Option Nat) (s : BA), (l.foldl (fun g r => upd g r.2 r.1) g) s = none ↔ g s = none ∧ s ∉ l.map (·.2)
  | [], g, s => by simp
  | x :: r, g, s => by
    rw [List.foldl_cons, fold_none r]
    unfold upd
    rw [List.map_cons, List.mem_cons]
    by_cases e : s = x.2
    · rw [if_pos e]; simp [e]
    · rw [if_neg e]; simp [e]
theorem gOf_none {l : List (Nat × BA)} {s : BA} : gOf l s = none ↔ s ≠ ⟨#[]⟩ ∧ s ∉ l.map (·.2) := by
  unfold gOf
  rw [fold_none]
  unfold g0 upd
  by_cases e : s = ⟨#[]⟩
  · simp [e]
  · simp [e]
/-- names that are unlike, and none of them empty -/
def GoodN (l : List (Nat × BA)) : Prop := (l.map (·.2)).Nodup ∧ ∀ s ∈ l.map (·.2), s ≠ (⟨#[]⟩ : BA)
theorem goodN_nil : GoodN [] := ⟨List.nodup_nil, fun s hs => by cases hs⟩
theorem goodN_snoc {l : List (Nat × BA)} {x : Nat × BA} (h : GoodN l) (hx : gOf l x.2 = none) : GoodN (l ++ [x]) := by
  obtain ⟨h1, h2⟩ := gOf_none.1 hx
  unfold GoodN
  rw [List.map_append]
  refine ⟨List.nodup_append.2 ⟨h.1, by simp, fun a ha b hb e => ?_⟩, fun s hs => ?_⟩
  · simp at hb; subst hb; subst e; exact h2 ha
  · rcases List.mem_append.1 hs with hs | hs
    · exact h.2 s hs
    · simp at hs; subst hs; exact h1
theorem goodN_not {l : List (Nat × BA)} {x : Nat × BA} {p : Nat} (hx : gOf l x.2 = some p) : ¬ GoodN (l ++ [x]) := by
  unfold GoodN
  rw [List.map_append]
  rintro ⟨h1, h2⟩
  have : gOf l x.2 = none := gOf_none.2 ⟨h2 x.2 (by simp), fun hm => (List.nodup_append.1 h1).2.2 x.2 hm x.2 (by simp) rfl⟩
  rw [this] at hx; cases hx
theorem goodN_pre {l m : List (Nat × BA)} (h : GoodN m) (hp : l <+: m) : GoodN l := by
  obtain ⟨r, rfl⟩ := hp
  unfold GoodN at h
  rw [List.map_append] at h
  exact ⟨(List.nodup_append.1 h.1).1, fun s hs => h.2 s (List.mem_append_left _ hs)⟩
theorem goodN_laid (p : Nat) (L : List BA) : GoodN (laidB p L) ↔ (L.Nodup ∧ ∀ s ∈ L, s ≠ (⟨#[]⟩ : BA)) := by unfold GoodN; rw [laidB_names]
theorem cells_kept {X Y : World} {b : Nat} {c : Array Value} {t : TypeId} {z : Nat × Nat} {row : Option Nat} (h : X.heap[b]? = some (.cells c t z)) (hg : X.grownBy Y row) (hr : ∀ r, row = some r → ∃ o : Obj, X.heap[r]? = some o ∧ o.isCells = false) : Y.heap[b]? = some (.cells c t z) :=
  (hg.block b (heap_lt h) (fun e => by
    obtain ⟨o, ho, hc⟩ := hr b e.symm
    rw [h] at ho; cases ho; cases hc)).trans h
theorem below_put {n : Nat} {W : World} {l : Nat} {o' : Obj} (h : n ≤ l) : Below n W (W.putObj l o') :=
  { os := rfl, tape := rfl, output := rfl, size := by rw [World.putObj_size]; exact Nat.le_refl _, block := fun j hj => World.putObj_heap_other (by omega) }
theorem cell_put {W : World} {b l : Nat} {j : Nat} {o' : Obj} (h : b ≠ l) : (W.putObj l o').cell? ⟨b, j, none⟩ = W.cell? ⟨b, j, none⟩ := by
  unfold World.cell?
  simp only [World.putObj_heap_other (show b ≠ l from h)]
theorem own_isMap {W : World} {b n : Nat} {D : DW} (h : OwnPl W b n D) : ∃ es ck, W.heap[b]? = some (.map es ck) := by
  obtain ⟨es, ck, hb, _⟩ := h; exact ⟨es, ck, hb⟩
theorem head_cell {t : List Int} (h : t ≠ []) : ∃ x, t[0]? = some x ∧ t.head? = some x := by
  cases t with
  | nil => exact absurd rfl h
  | cons b r => exact ⟨b, rfl, rfl⟩
set_option maxRecDepth 100000 in
set_option maxHeartbeats 8000000 in
theorem check_tab (v : Value) (T : BA) (L : List BA) (w : World) (ht : BysO w v (nmOf T)) (hl : T.size ≤ 1048576) (hT : TabN T L) :
    Calls Try.prog 18 #[v] w fun e w' => e = .returned (.int .i64 (chkE T)) ∧ Below w.heap.size w w' := by
  have HLL := Lib.hid (laidB_len 1 L)
  have hLl : L.length ≤ 1048576 := by
    have h1 := nm_len T
    rw [hT.1, tab_len] at h1
    have h2 : ∀ M : List BA, M.length ≤ (M.map fun s => s.size + 1).sum := by
      intro M
      induction M with
      | nil => simp
      | cons a r ih => simp; omega
    have := h2 L; omega
  have hne : 0 < T.size := by rw [← nm_len, hT.1]; simp [tabOf]
  have hnl : 0 < (nmOf T).length := by rw [nm_len]; exact hne
  obtain ⟨g, off, cap, x, hx, hv, hg, x0⟩ := ht.at (k := 0) hnl
  have hx0 : x = 0 := by rw [hT.1] at hx; simp [tabOf] at hx; exact hx.symm
  obtain ⟨g', off', cap', y, hy, hv', hg', y0⟩ := ht.at (k := (nmOf T).length - 1) (by omega)
  have hy0 : y = 0 := by
    have h1 := tab_last (nms L)
    rw [← hT.1, List.getLast?_eq_getElem?, hy] at h1
    injection h1
  subst hx0 hy0 hv
  cases hv'
  rw [Nat.add_zero] at x0
  have HT := Lib.hid ht
  have HTN := Lib.hid hT
  have HLN := Lib.hid (nm_len T)
  have ls : (nmOf T).length ≤ 1048576 := by rw [nm_len]; exact hl
  have BG := Lib.hid (fun W => begun_any W)
  have PA := Lib.hid (fun W => pieces_any T W)
  have PT := Lib.hid (fun n bl W h => pieces_tells n bl W T L (.inl hT) hl h)
  have POld := Lib.hid (fun b n D g s at' p W h1 h2 h3 h4 => put_old b n D g s at' p W h1 h2 h3 h4)
  have PNew := Lib.hid (fun b n D g s p W h1 h2 h3 h4 h5 h6 => put_new b n D g s p W h1 h2 h3 h4 h5 h6)
  have HCV := Lib.hid (fun W (hb : Below w.heap.size w W) => by have := conv_any (ht.keep hb); rwa [str_nm] at this)
  have hsb : IntKind.i64.wrap (((nmOf T).length : Int) - 1) = (((nmOf T).length - 1 : Nat) : Int) := by rw [IntWalk.i64_in _ (by omega)]; omega
  have hs0 : ((nmOf T).length == 0) = false := by simp; intro h; rw [h] at hnl; simp at hnl
  have hsn : decide ((1048576 : Int) < ((nmOf T).length : Int)) = false := decide_eq_false (by omega)
  have hs1 : (((nmOf T).length - 1 : Nat) : Int) < ((nmOf T).length : Int) := by omega
  have hs2 : (0 : Int) ≤ (((nmOf T).length - 1 : Nat) : Int) := by omega
  have hs3 : (0 : Int) < ((nmOf T).length : Int) := by omega
  have hs4 : (((nmOf T).length : Int) == 0) = false := not_beq (by omega)
  clear hx hy hg' hne ht
  have HDN := Lib.hid (show GoodN (laidB 1 L) → chkE T = 0 from fun h => chk_ok hT hl ((goodN_laid 1 L).1 h).1 ((goodN_laid 1 L).1 h).2)
  have HST := Lib.hid (show ¬ GoodN (laidB 1 L) → chkE T = 190 from fun h => chk_no hT hl (fun k => h ((goodN_laid 1 L).2 k)))
  generalize chkE T = E at *
  clear hT
  generalize (nmOf T).length = N at *
  refine (callsIn_wide (n := 7)).1 ?_
  refine callsIn_of_wp_marks Try.func18 rfl trivial ?_ rfl
  simp only [Try.ntmps18, List.size_toArray, List.length_cons, List.length_nil, Nat.reduceAdd, Nat.reduceSub, Array.replicate_succ, Array.replicate_zero, List.push_toArray, List.append_toArray, List.nil_append, List.cons_append]
  gi_wp2_with fail
  refine ⟨trivial, ?_⟩
  refine (callsIn_wide.2 (BG.out _)).mono ?_
  rintro e w1 ⟨rfl, ⟨D0, hD0, hR0⟩, hb1⟩
  obtain ⟨b, hb⟩ : ∃ b, (w.alloc (.cells #[.int .i64 0] 27)).heap.size = b := ⟨_, rfl⟩
  rw [hb] at hD0 hb1 ⊢
  have hr0 : w1.heap[w.heap.size]? = some (.cells #[.int .i64 0] 27 (0, 0)) := (hb1.block _ (by rw [← hb]; simp)).trans (heap_alloc_new w _)
  have hbw : w.heap.size < b := by rw [← hb]; simp
  have hbe : b = w.heap.size + 1 := by rw [← hb]; simp
  have hBw1 : Below w.heap.size w w1 := Below.thn (below1 w (.cells #[.int .i64 0] 27)) (by simp) (by rw [hb]; exact hb1)
  clear hb
  subst hbe
  have hcv := HCV.out (w1.alloc (.cells #[.map (some (w.heap.size + 1))] 49)) (hBw1.alloc hBw1.size _)
  have hblt := hD0.lt
  gi_wp2_with fail
  refine ⟨trivial, ?_⟩
  refine (callsIn_wide.2 (PA.out _)).mono ?_
  rintro e w2 ⟨rfl, hw2⟩
  gi_wp2_with fail
  have hS0 : (w1.alloc (.cells #[.map (some (w.heap.size + 1))] 49)).heap[w1.heap.size]? = some (.cells #[.map (some (w.heap.size + 1))] 49 (0, 0)) := heap_alloc_new w1 _
  have hX0 : ((w1.alloc (.cells #[.map (some (w.heap.size + 1))] 49)).alloc (.cells #[.string T] 9)).heap[w1.heap.size + 1]? = some (.cells #[.string T] 9 (0, 0)) := by
    have := heap_alloc_new (w1.alloc (.cells #[.map (some (w.heap.size + 1))] 49)) (.cells #[.string T] 9)
    rwa [World.size_alloc] at this
  have hbA := ((Below.refl _ w1).alloc (Nat.le_refl _) (.cells #[.map (some (w.heap.size + 1))] 49)).alloc (by simp) (.cells #[.string T] 9)
  have hR1 := (hbA.block _ (heap_lt hr0)).trans hr0
  have hS1 := ((below1 (w1.alloc (.cells #[.map (some (w.heap.size + 1))] 49)) (.cells #[.string T] 9)).block w1.heap.size (by simp)).trans hS0
  have hM1 := (hD0.alloc (.cells #[.map (some (w.heap.size + 1))] 49)).alloc (.cells #[.string T] 9)
  have hB0 := hBw1.trans (hbA.mono hBw1.size)
  have hz0 : ((w1.alloc (.cells #[.map (some (w.heap.size + 1))] 49)).alloc (.cells #[.string T] 9)).heap.size = w1.heap.size + 2 := by simp
  generalize (w1.alloc (.cells #[.map (some (w.heap.size + 1))] 49)).alloc (.cells #[.string T] 9) = W0 at *
  clear hS0 hbA hw2 hcv hr0 hb1 hD0
  refine' range_tellsX (Fr := KT) KT.trans (fun W l o o' hl h ho _ => kt_put h ho) (gf := 37) (lb := #[.pointer (some ⟨w1.heap.size + 1, 0, none⟩)]) rfl enters_pieces
    (PT.out _ _ W0 hX0) (Below.refl _ _) (fun _ => rfl)
    (fun pre V => (V.heap[w.heap.size]? = some (.cells #[.int .i64 0] 27 (0, 0)) ∧ V.heap[w1.heap.size]? = some (.cells #[.map (some (w.heap.size + 1))] 49 (0, 0)) ∧ ∃ D, OwnPl V (w.heap.size + 1) (pre.length + 1) D ∧ MapR D (gOf pre) ∧ GoodN pre) ∧ Below w.heap.size w V)
    (fun c pre V => (c = .ret ∧ V.heap[w.heap.size]? = some (.cells #[.int .i64 190] 27 (0, 0)) ∧ ¬ GoodN pre) ∧ Below w.heap.size w V)
    (OwnFrom.and (fun s A C row hs hg hr => ⟨cells_kept hs.1 hg (fun r e => (hr r e).2), cells_kept hs.2.1 hg (fun r e => (hr r e).2), by
      obtain ⟨D, h1, h2⟩ := hs.2.2
      exact ⟨D, h1.kept hg (fun e => by have := (hr _ e.symm).1; omega), h2⟩⟩) (ownFrom_below (Nat.le_refl _) (by omega)))
    (fun c => OwnFrom.and (Own.from (fun s A C row hs hg hr => ⟨hs.1, cells_kept hs.2.1 hg hr, hs.2.2⟩) _) (ownFrom_below (Nat.le_refl _) (by omega)))
    ⟨⟨hR1, hS1, D0, hM1, hR0, goodN_nil⟩, hB0⟩
    (fun A B hA hAB => kt_below hAB)
    (fun x a₁ X => a₁ = { tmps := #[.slice (some ⟨g, off, none⟩) N cap, undef, .pointer (some ⟨w.heap.size, 0, none⟩), .pointer (some ⟨w1.heap.size, 0, none⟩), .int .i64 (x.1 : Int), .string x.2, .bool false, .slice (some ⟨g, off, none⟩) N cap, .int .i64 (N : Int), .bool false, .bool false, .slice (some ⟨g, off, none⟩) N cap, .int .i64 (N : Int), .bool false, .bool false, .slice (some ⟨g, off, none⟩) N cap, .pointer (some ⟨g, off, none⟩), .int .u8 0, .bool false, .bool false, .bool false, .slice (some ⟨g, off, none⟩) N cap, .slice (some ⟨g, off, none⟩) N cap, .int .i64 (N : Int), .int .i64 ((N - 1 : Nat) : Int), .pointer (some ⟨g, off + (N - 1), none⟩), .int .u8 0, .bool false, .bool false, .map (some (w.heap.size + 1)), .slice (some ⟨g, off, none⟩) N cap, .string T, .func (.func 37) #[] #[.pointer (some ⟨w1.heap.size + 1, 0, none⟩)], .int .i64 (x.1 : Int), .string x.2, undef, undef, undef, undef, undef], defers := [] })
    ?hAs ?hassign ?hbody ?hdone ?hstop
  case hAs =>
    refine Own.from ?_ _
    rintro s A C row hs hg hr
    exact hs
  case hassign =>
    intro m l x V K hV hK
    simp only [encP]
    gi_wp2
    exact hK _ _ (Below.refl _ _) rfl
  case hbody =>
    rintro m l2 pre x a1 X hl2 ⟨⟨hc1, hc2, D, hD, hR, hgd⟩, hbel⟩ rfl hlt hok
    have p0 : X.cell? ⟨w1.heap.size, 0, none⟩ = some (.map (some (w.heap.size + 1))) := Lib.cell_of_heap hc2 0
    have q0 : X.cell? ⟨w.heap.size, 0, none⟩ = some (.int .i64 0) := Lib.cell_of_heap hc1 0
    have f0 := Lib.frozen_of_heap hc1 0
    have HC1 := Lib.hid hc1
    have HC2 := Lib.hid hc2
    have HB := Lib.hid hbel
    have HD := Lib.hid hD
    have HG := Lib.hid hgd
    have HR := Lib.hid hR
    have HOK := Lib.hid hok
    obtain ⟨es, ck, hmap⟩ := own_isMap hD
    have HMP := Lib.hid hmap
    have hml : x.2.size ≤ maxLen := by have := hok.2; unfold maxLen; omega
    have hpl : pre.length + 1 < maxLen := by unfold maxLen; omega
    clear hc1 hc2 hbel hmap hgd
    cases hgx : gOf pre x.2 with
    | some p =>
      have PO := Lib.hid (POld.out (w.heap.size + 1) (pre.length + 1) D (gOf pre) x.2 (x.1 : Int) p X hD hR hml hgx)
      have HN := Lib.hid (goodN_not hgx)
      clear hD hR hgx
      gi_wp2_with fail
      refine ⟨trivial, fun h => absurd h (by decide), ?_⟩
      refine (CallsIn.inRound l2 (callsIn_wide.2 PO.out)).mono ?_
      rintro e X1 ⟨rfl, rfl⟩
      gi_wp2_with fail
      exact ⟨(KeepsOthers.setCell _ _ _).from _, ⟨rfl, heap_setCell_same X w.heap.size 0 _ _ _ HC1.out, HN.out⟩, HB.out.setCell (p := ⟨w.heap.size, 0, none⟩) (Nat.le_refl _) _⟩
    | none =>
      have PN := Lib.hid (PNew.out (w.heap.size + 1) (pre.length + 1) D (gOf pre) x.2 x.1 X hD hR hml hgx hpl (by have := hok.1; omega))
      have HN := Lib.hid (goodN_snoc HG.out hgx)
      clear hD hR hgx
      gi_wp2_with fail
      refine ⟨trivial, fun h => absurd h (by decide), ?_⟩
      refine (CallsIn.inRound l2 (callsIn_wide.2 PN.out)).mono ?_
      rintro e X1 ⟨rfl, ⟨D1, hD1, hR1'⟩, hg1⟩
      have hrow : ∀ r, some (w.heap.size + 1) = some r → ∃ o : Obj, X.heap[r]? = some o ∧ o.isCells = false := fun r e => by cases e; exact ⟨_, HMP.out, rfl⟩
      have HC1' := Lib.hid (cells_kept HC1.out hg1 hrow)
      have HC2' := Lib.hid (cells_kept HC2.out hg1 hrow)
      have HKT := Lib.hid (kt_grown hg1 HMP.out (fun c t z e => by cases e))
      have HBX := Lib.hid (HB.out.grown hg1 HB.out.size (fun q e => by cases e; omega))
      have HKF := Lib.hid (KeepsFrom.of_grownBy (B := W0.heap.size) hg1 (fun j e => by cases e; omega))
      have HDR := Lib.hid (And.intro hD1 hR1')
      clear hD1 hR1' hg1 hrow
      gi_wp2_with fail
      exact ⟨HKF.out, HKT.out, ⟨HC1'.out, HC2'.out, D1, by rw [List.length_append]; exact HDR.out.1, by rw [gOf_snoc]; exact HDR.out.2, HN.out⟩, HBX.out⟩
  case hdone =>
    rintro D xs V hD rfl ⟨⟨hc1, hc2, D', hDD, hR, hgd⟩, hbel⟩ hK
    have r0 : V.cell? ⟨w.heap.size, 0, none⟩ = some (.int .i64 0) := Lib.cell_of_heap hc1 0
    have f0 := Lib.frozen_of_heap hc1 0
    have HE := Lib.hid (HDN.out hgd)
    have hK2 : (V.setCell ⟨w.heap.size, 0, none⟩ (.int .i64 0)).heap[D]? = some (.deferred (some [])) := by
      rw [heap_setCell_other V ⟨w.heap.size, 0, none⟩ D _ (by show D ≠ w.heap.size; omega)]; exact hK
    have r1 : (V.setCell ⟨w.heap.size, 0, none⟩ (.int .i64 0)).cell? ⟨w.heap.size, 0, none⟩ = some (.int .i64 0) := Lib.cell_of_heap (heap_setCell_same V w.heap.size 0 _ _ _ hc1) 0
    have HB2 := Lib.hid (hbel.setCell (p := ⟨w.heap.size, 0, none⟩) (Nat.le_refl _) (.int .i64 0))
    have HK2 := Lib.hid hK2
    have HR1 := Lib.hid r1
    have hDw : w.heap.size ≠ D := by omega
    clear hK2 r1 hDD hR hgd
    gi_wp2_with fail
    refine ⟨by simp, .inl ⟨_, _, rfl, run_takeDeferred HK2.out, ?_⟩⟩
    refine ⟨.int .i64 0, ?_, by rw [HE.out], HB2.out.trans (below_put (by omega))⟩
    have : ((V.setCell ⟨w.heap.size, 0, none⟩ (.int .i64 0)).putObj D (.deferred none)).cell? ⟨w.heap.size, 0, none⟩ = some (.int .i64 0) := by
      rw [← HR1.out]; exact cell_put hDw
    simp [results, Try.f18, go_sem, this]
  case hstop =>
    rintro D c ys V hD hS ⟨⟨rfl, hc1, hng⟩, hbel⟩ hK
    have r0 : V.cell? ⟨w.heap.size, 0, none⟩ = some (.int .i64 190) := Lib.cell_of_heap hc1 0
    have HE := Lib.hid (HST.out (fun h => hng (goodN_pre h hS)))
    have hDw : w.heap.size ≠ D := by omega
    gi_wp2_with fail
    refine ⟨by simp, .inl ⟨_, _, rfl, run_takeDeferred hK, ?_⟩⟩
    refine ⟨.int .i64 190, ?_, by rw [HE.out], hbel.trans (below_put (by omega))⟩
    have : (V.putObj D (.deferred none)).cell? ⟨w.heap.size, 0, none⟩ = some (.int .i64 190) := by
      rw [← r0]; exact cell_put hDw
    simp [results, Try.f18, go_sem, this]
theorem ret_cell {w : World} {v u : Value} {T : TypeId} : ((w.alloc (.cells #[v] T)).setCell ⟨w.heap.size, 0, none⟩ u).cell? ⟨w.heap.size, 0, none⟩ = some u :=
  Lib.cell_of_heap (heap_setCell_same _ w.heap.size 0 _ _ _ (heap_alloc_new w (.cells #[v] T))) 0
set_option maxRecDepth 100000 in
set_option maxHeartbeats 4000000 in
theorem check_empty (v : Value) (w : World) (ht : BysO w v []) :
    Calls Try.prog 18 #[v] w fun e w' => e = .returned (.int .i64 190) ∧ Below w.heap.size w w' := by
  obtain ⟨aa, ca, rfl⟩ := ht.slice
  clear ht
  refine (callsIn_wide (n := 7)).1 ?_
  refine callsIn_of_wp_marks Try.func18 rfl trivial ?_ rfl
  simp only [Try.ntmps18, List.size_toArray, List.length_cons, List.length_nil, Nat.reduceAdd, Nat.reduceSub, Array.replicate_succ, Array.replicate_zero, List.push_toArray, List.append_toArray, List.nil_append, List.cons_append]
  gi_wp2_with fail
  have hc := cells_new w #[.int .i64 190] 27 0 _ rfl
  refine ⟨.int .i64 190, ?_, rfl, below1 w _⟩
  simp [results, Try.f18, go_sem, hc]
set_option maxRecDepth 100000 in
set_option maxHeartbeats 4000000 in
theorem check_head (v : Value) (T : BA) (w : World) (ht : BysO w v (nmOf T)) (hl : T.size ≤ 1048576) (h0 : 0 < T.size) (hb : ¬ (nmOf T).head? = some 0) :
    Calls Try.prog 18 #[v] w fun e w' => e = .returned (.int .i64 190) ∧ Below w.heap.size w w' := by
  have hnl : 0 < (nmOf T).length := by rw [nm_len]; exact h0
  have ls : (nmOf T).length ≤ 1048576 := by rw [nm_len]; exact hl
  obtain ⟨g, off, cap, x, hx, hv, hg, x0⟩ := ht.at (k := 0) hnl
  have hx0 : (x != 0) = true := by
    have : x ≠ 0 := by rintro rfl; exact hb (by rw [List.head?_eq_getElem?]; exact hx)
    simp [this]
  have hx1 : (x == 0) = false := by simpa using hx0
  subst hv
  rw [Nat.add_zero] at x0
  clear hx hb ht
  generalize (nmOf T).length = N at *
  have hs3 : (0 : Int) < (N : Int) := by omega
  have hs4 : ((N : Int) == 0) = false := not_beq (by omega)
  have hsn : decide ((1048576 : Int) < (N : Int)) = false := decide_eq_false (by omega)
  refine (callsIn_wide (n := 7)).1 ?_
  refine callsIn_of_wp_marks Try.func18 rfl trivial ?_ rfl
  simp only [Try.ntmps18, List.size_toArray, List.length_cons, List.length_nil, Nat.reduceAdd, Nat.reduceSub, Array.replicate_succ, Array.replicate_zero, List.push_toArray, List.append_toArray, List.nil_append, List.cons_append]
  gi_wp2_with fail
  have hc := cells_new w #[.int .i64 190] 27 0 _ rfl
  refine ⟨.int .i64 190, ?_, rfl, below1 w _⟩
  simp [results, Try.f18, go_sem, hc]
set_option maxRecDepth 100000 in
set_option maxHeartbeats 4000000 in
theorem check_last (v : Value) (T : BA) (w : World) (ht : BysO w v (nmOf T)) (hl : T.size ≤ 1048576) (h0 : 0 < T.size) (ha : (nmOf T).head? = some 0) (hb : ¬ (nmOf T).getLast? = some 0) :
    Calls Try.prog 18 #[v] w fun e w' => e = .returned (.int .i64 190) ∧ Below w.heap.size w w' := by
  have hnl : 0 < (nmOf T).length := by rw [nm_len]; exact h0
  have ls : (nmOf T).length ≤ 1048576 := by rw [nm_len]; exact hl
  obtain ⟨g, off, cap, x, hx, hv, hg, x0⟩ := ht.at (k := 0) hnl
  have hx0 : x = 0 := by rw [List.head?_eq_getElem?, hx] at ha; injection ha
  obtain ⟨g', off', cap', y, hy, hv', hg', y0⟩ := ht.at (k := (nmOf T).length - 1) (by omega)
  have hyn : (y != 0) = true := by
    have : y ≠ 0 := by rintro rfl; exact hb (by rw [List.getLast?_eq_getElem?]; exact hy)
    simp [this]
  have hyn2 : (y == 0) = false := by simpa using hyn
  subst hx0 hv
  cases hv'
  rw [Nat.add_zero] at x0
  clear hx hy ha hb ht
  generalize (nmOf T).length = N at *
  have hsb : IntKind.i64.wrap ((N : Int) - 1) = ((N - 1 : Nat) : Int) := by rw [IntWalk.i64_in _ (by omega)]; omega
  have hs1 : ((N - 1 : Nat) : Int) < (N : Int) := by omega
  have hs2 : (0 : Int) ≤ ((N - 1 : Nat) : Int) := by omega
  have hs3 : (0 : Int) < (N : Int) := by omega
  have hs4 : ((N : Int) == 0) = false := not_beq (by omega)
  have hsn : decide ((1048576 : Int) < (N : Int)) = false := decide_eq_false (by omega)
  refine (callsIn_wide (n := 7)).1 ?_
  refine callsIn_of_wp_marks Try.func18 rfl trivial ?_ rfl
  simp only [Try.ntmps18, List.size_toArray, List.length_cons, List.length_nil, Nat.reduceAdd, Nat.reduceSub, Array.replicate_succ, Array.replicate_zero, List.push_toArray, List.append_toArray, List.nil_append, List.cons_append]
  gi_wp2_with fail
  have hc := cells_new w #[.int .i64 190] 27 0 _ rfl
  refine ⟨.int .i64 190, ?_, rfl, below1 w _⟩
  simp [results, Try.f18, go_sem, hc]
theorem check_any (v : Value) (T : BA) (w : World) (ht : BysO w v (nmOf T)) (hl : T.size ≤ 1048576) :
    Calls Try.prog 18 #[v] w fun e w' => e = .returned (.int .i64 (chkE T)) ∧ Below w.heap.size w w' := by
  by_cases hb : (nmOf T).head? = some 0 ∧ (nmOf T).getLast? = some 0
  · obtain ⟨L, hL⟩ := tabN_of hb.1 hb.2
    exact check_tab v T L w ht hl hL
  · rw [chk_bad hl hb]
    by_cases h0 : 0 < T.size
    · by_cases h1 : (nmOf T).head? = some 0
      · exact check_last v T w ht hl h0 h1 (fun h => hb ⟨h1, h⟩)
      · exact check_head v T w ht hl h0 h1
    · refine check_empty v w ?_
      have : nmOf T = [] := List.length_eq_zero_iff.1 (by rw [nm_len]; omega)
      rwa [this] at ht
end Go.Proofs.Ytbheeahdbimeiaa
