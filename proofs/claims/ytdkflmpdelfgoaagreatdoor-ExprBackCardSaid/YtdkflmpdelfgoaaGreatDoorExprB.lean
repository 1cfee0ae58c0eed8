/-
  sum, Add: what each call returns. Conditions: texts of at most 2^48 bytes.
-/
import Derived.Test.YtdkflmpdelfgoaaGreatDoorExprA
import Derived.Deep.Cut
import Derived.Deep.RegionWith
import Derived.RegionTactic
import Derived.BigRegion
import Derived.ChangeAlike
namespace Go.Proofs.YtdkflmpdelfgoaaGreatDoor
open Go.RowKit Go.Shelf
set_option linter.unusedVariables false
attribute [local go_sem] Oper.semAt_some

abbrev BA := ByteArray
/-- a text taken out of two, where it stands in one of them -/
def clr (m0 m1 s : BA) : BA × BA × BA := if m0 = s then (⟨#[]⟩, ⟨#[]⟩, m1) else if m1 = s then (⟨#[]⟩, m0, ⟨#[]⟩) else (s, m0, m1)
/-- the four texts behind so many rounds -/
def stF (ap bp am bm : BA) : Nat → BA × BA × BA × BA
  | 0 => (ap, bp, am, bm)
  | 1 => ((clr am bm ap).1, bp, (clr am bm ap).2.1, (clr am bm ap).2.2)
  | _ => ((clr am bm ap).1, (clr (clr am bm ap).2.1 (clr am bm ap).2.2 bp).1, (clr (clr am bm ap).2.1 (clr am bm ap).2.2 bp).2.1, (clr (clr am bm ap).2.1 (clr am bm ap).2.2 bp).2.2)
def hasE (a b : BA) : Bool := decide (a = ⟨#[]⟩) || decide (b = ⟨#[]⟩)
/-- two values together -/
def sumV (a b : Int) (ap am bp bm : BA) : Option (Int × BA × BA) :=
  let s := stF ap bp am bm 2
  if hasE s.1 s.2.1 && hasE s.2.2.1 s.2.2.2 then some (wrap64 (a + b), s.1 ++ s.2.1, s.2.2.1 ++ s.2.2.2) else none
def SumV (o : Option (Int × BA × BA)) : Value := match o with
  | some (n, p, m) => .tuple #[.agg #[.int .i64 n, .string p, .string m], .int .i64 0]
  | none => .tuple #[.agg #[.int .i64 0, .string ⟨#[]⟩, .string ⟨#[]⟩], .int .i64 91]
theorem idx2 (m0 m1 s : BA) : Lib.idxOfS [m0, m1] s = if m0 = s then 0 else if m1 = s then 1 else -1 := by
  simp only [Lib.idxOfS, Lib.idxFromS]; rfl
theorem has2 (a b : BA) : Lib.containsS [a, b] ⟨#[]⟩ = hasE a b := by
  unfold Lib.containsS hasE
  rw [idx2]
  by_cases h1 : a = ⟨#[]⟩ <;> by_cases h2 : b = ⟨#[]⟩ <;> simp [h1, h2]
theorem five_new (w : World) (o0 o1 o2 o3 o4 : Obj) : let W := ((((w.alloc o0).alloc o1).alloc o2).alloc o3).alloc o4
    W.heap[w.heap.size]? = some o0 ∧ W.heap[w.heap.size + 1]? = some o1 ∧ W.heap[w.heap.size + 2]? = some o2 ∧ W.heap[w.heap.size + 1 + 1 + 1]? = some o3 ∧ W.heap[w.heap.size + 1 + 1 + 1 + 1]? = some o4 ∧ Below w.heap.size w W := by
  intro W
  obtain ⟨a0, a1, a2, a3⟩ := two_new w o0 o1
  generalize hA : (w.alloc o0).alloc o1 = A at *
  obtain ⟨b0, b1, b2, b3⟩ := two_new A o2 o3
  have hW : W = ((A.alloc o2).alloc o3).alloc o4 := by rw [← hA]
  generalize hB : (A.alloc o2).alloc o3 = B at *
  rw [hW]
  have k : ∀ j, j < B.heap.size → (B.alloc o4).heap[j]? = B.heap[j]? := fun j hj => Below.heap_alloc _ _ _ hj
  refine ⟨?_, ?_, ?_, ?_, ?_, ?_⟩
  · rw [k _ (by omega), b2.block _ (by omega)]; exact a0
  · rw [k _ (by omega), b2.block _ (by omega)]; exact a1
  · rw [k _ (by omega), ← a3]; exact b0
  · rw [k _ (by omega), show w.heap.size + 1 + 1 + 1 = A.heap.size + 1 by omega]; exact b1
  · rw [show w.heap.size + 1 + 1 + 1 + 1 = B.heap.size by omega]; exact heap_alloc_new _ _
  · exact (a2.trans (b2.mono (by omega))).alloc (by omega) _
theorem set2_0 {W : World} {B : Nat} {T : TypeId} {z : Nat × Nat} {a b : Value} (h : W.heap[B]? = some (.cells #[a, b] T z)) (x : Value) : (W.setCell ⟨B, 0, none⟩ x).heap[B]? = some (.cells #[x, b] T z) := by
  simp only [World.setCell, Array.getElem?_modify, if_true, h, Option.map_some]; rfl
theorem set2_1 {W : World} {B : Nat} {T : TypeId} {z : Nat × Nat} {a b : Value} (h : W.heap[B]? = some (.cells #[a, b] T z)) (x : Value) : (W.setCell ⟨B, 1, none⟩ x).heap[B]? = some (.cells #[a, x] T z) := by
  simp only [World.setCell, Array.getElem?_modify, if_true, h, Option.map_some]; rfl
theorem set_far {W : World} {B b o : Nat} {x : Value} {y : Option Obj} (h : W.heap[b]? = y) (hne : B ≠ b) : (W.setCell ⟨B, o, none⟩ x).heap[b]? = y := by
  rw [Below.heap_setCell _ _ _ _ (fun e => hne e.symm)]; exact h
theorem step1 {ap bp am bm p0 p1 m0 m1 : BA} (h : stF ap bp am bm 1 = (p0, p1, m0, m1)) : stF ap bp am bm 2 = (p0, (clr m0 m1 p1).1, (clr m0 m1 p1).2.1, (clr m0 m1 p1).2.2) := by
  simp only [stF, Prod.mk.injEq] at h
  obtain ⟨rfl, rfl, rfl, rfl⟩ := h
  rfl
theorem clr_0 {m0 m1 s : BA} (h : m0 = s) : clr m0 m1 s = (⟨#[]⟩, ⟨#[]⟩, m1) := by unfold clr; rw [if_pos h]
theorem clr_1 {m0 m1 s : BA} (h : m0 ≠ s) (h1 : m1 = s) : clr m0 m1 s = (⟨#[]⟩, m0, ⟨#[]⟩) := by unfold clr; rw [if_neg h, if_pos h1]
theorem clr_2 {m0 m1 s : BA} (h : m0 ≠ s) (h1 : m1 ≠ s) : clr m0 m1 s = (s, m0, m1) := by unfold clr; rw [if_neg h, if_neg h1]
theorem clr_size {L : Nat} {m0 m1 s : BA} (h0 : m0.size ≤ L) (h1 : m1.size ≤ L) (h : s.size ≤ L) : (clr m0 m1 s).1.size ≤ L ∧ (clr m0 m1 s).2.1.size ≤ L ∧ (clr m0 m1 s).2.2.size ≤ L := by
  have e : (⟨#[]⟩ : BA).size ≤ L := Nat.zero_le _
  unfold clr
  split
  · exact ⟨e, e, h1⟩
  · split
    · exact ⟨e, h0, e⟩
    · exact ⟨h, h0, h1⟩
theorem stF_size {L : Nat} {ap bp am bm : BA} (h1 : ap.size ≤ L) (h2 : am.size ≤ L) (h3 : bp.size ≤ L) (h4 : bm.size ≤ L) {p0 p1 m0 m1 : BA} (h : stF ap bp am bm 2 = (p0, p1, m0, m1)) : p0.size ≤ L ∧ p1.size ≤ L ∧ m0.size ≤ L ∧ m1.size ≤ L := by
  obtain ⟨a, b, c⟩ := clr_size h2 h4 h1
  obtain ⟨a', b', c'⟩ := clr_size b c h3
  simp only [stF, Prod.mk.injEq] at h
  obtain ⟨rfl, rfl, rfl, rfl⟩ := h
  exact ⟨a, a', b', c'⟩
theorem hasE_size {L : Nat} {a b : BA} (ha : a.size ≤ L) (hb : b.size ≤ L) (h : hasE a b = true) : (a ++ b).size ≤ L := by
  unfold hasE at h
  rcases Bool.or_eq_true _ _ ▸ h with h | h
  all_goals
    rw [decide_eq_true_eq] at h
    subst h
    rw [ByteArray.size_append, show (⟨#[]⟩ : BA).size = 0 from rfl]
    omega
/-- what the loop keeps -/
structure SumI (w wr : World) (g1 g2 : Nat) (a b : Int) (ap am bp bm p0 p1 m0 m1 : BA) : Prop where
  c0 : wr.heap[w.heap.size]? = some (.cells #[.int .i64 a, .string ap, .string am] 36 (0, 0))
  c1 : wr.heap[w.heap.size + 1]? = some (.cells #[.int .i64 b, .string bp, .string bm] 36 (0, 0))
  c2 : wr.heap[w.heap.size + 2]? = some (.cells #[.int .i64 0, .string ⟨#[]⟩, .string ⟨#[]⟩] 36 (0, 0))
  c3 : wr.heap[g1]? = some (.cells #[.string p0, .string p1] 9 (0, 0))
  c4 : wr.heap[g2]? = some (.cells #[.string m0, .string m1] 9 (0, 0))
  bel : Below w.heap.size w wr
theorem two_cells {W : World} {B : Nat} {T : TypeId} {z : Nat × Nat} {x0 x1 : Value} (h : W.heap[B]? = some (.cells #[x0, x1] T z)) : W.cell? ⟨B, 0, none⟩ = some x0 ∧ W.cell? ⟨B, 1, none⟩ = some x1 :=
  ⟨by rw [Lib.cell_of_heap h]; rfl, by rw [Lib.cell_of_heap h]; rfl⟩
theorem row2 {W : World} {g : Nat} {a b : BA} {t : TypeId} {z : Nat × Nat} (h : W.heap[g]? = some (.cells #[.string a, .string b] t z)) : ∀ j, j < [a, b].length → W.cell? ⟨g, 0 + j, none⟩ = some (.string ([a, b].getD j ByteArray.empty)) := by
  intro j hj
  match j, hj with
  | 0, _ => rw [Lib.cell_of_heap h]; rfl
  | 1, _ => rw [Lib.cell_of_heap h]; rfl
set_option maxRecDepth 100000 in
set_option maxHeartbeats 16000000 in
theorem sum_any (a b : Int) (ap am bp bm : BA) (w : World) (h1 : ap.size ≤ 281474976710656) (h2 : am.size ≤ 281474976710656) (h3 : bp.size ≤ 281474976710656) (h4 : bm.size ≤ 281474976710656) :
    Calls Tryz.prog 42 #[.agg #[.int .i64 a, .string ap, .string am], .agg #[.int .i64 b, .string bp, .string bm]] w fun e w' => e = .returned (SumV (sumV a b ap am bp bm)) ∧ Below w.heap.size w w' := by
  go_enter Tryz.func42, Tryz.ntmps42
  go_wp2_with fail
  go_cut [6, 7] from 11 (fun s6 s7 wc => ∃ g1 g2 : Nat, s6 = .slice (some ⟨g1, 0, none⟩) 2 2 ∧ s7 = .slice (some ⟨g2, 0, none⟩) 2 2 ∧ g1 ≠ g2 ∧ w.heap.size + 2 < g1 ∧ w.heap.size + 2 < g2 ∧ wc.heap[w.heap.size]? = some (.cells #[.int .i64 a, .string ap, .string am] 36 (0, 0)) ∧ wc.heap[w.heap.size + 1]? = some (.cells #[.int .i64 b, .string bp, .string bm] 36 (0, 0)) ∧ wc.heap[w.heap.size + 2]? = some (.cells #[.int .i64 0, .string ⟨#[]⟩, .string ⟨#[]⟩] 36 (0, 0)) ∧ wc.heap[g1]? = some (.cells #[.string ap, .string bp] 9 (0, 0)) ∧ wc.heap[g2]? = some (.cells #[.string am, .string bm] 9 (0, 0)) ∧ Below w.heap.size w wc)
  case first =>
    go_region
    all_goals go_wp2_with fail
    all_goals go_meet
    case rel =>
      obtain ⟨a0, a1, a2, a3, a4, a5⟩ := five_new w (.cells #[.int .i64 a, .string ap, .string am] 36) (.cells #[.int .i64 b, .string bp, .string bm] 36) (.cells #[.int .i64 0, .string ⟨#[]⟩, .string ⟨#[]⟩] 36) (.cells #[.string ap, .string bp] 9) (.cells #[.string am, .string bm] 9)
      exact ⟨_, _, rfl, rfl, by omega, by omega, by omega, a0, a1, a2, a3, a4, a5.drew⟩
    case rel =>
      obtain ⟨a0, a1, a2, a3, a4, a5⟩ := five_new w (.cells #[.int .i64 a, .string ap, .string am] 36) (.cells #[.int .i64 b, .string bp, .string bm] 36) (.cells #[.int .i64 0, .string ⟨#[]⟩, .string ⟨#[]⟩] 36) (.cells #[.string am, .string bm] 9) (.cells #[.string ap, .string bp] 9)
      exact ⟨_, _, rfl, rfl, by omega, by omega, by omega, a0, a1, a2, a4, a3, a5.drew⟩
  case rest =>
    obtain ⟨g1, g2, rfl, rfl, hne, hg1, hg2, c0, c1, c2, c3, c4, hb⟩ := hcut
    have HS0 := Lib.hid (show SumI w wc g1 g2 a b ap am bp bm ap bp am bm from ⟨c0, c1, c2, c3, c4, hb⟩)
    have HNE := Lib.hid hne
    have HL := Lib.hid (And.intro h1 (And.intro h2 (And.intro h3 h4)))
    clear c0 c1 c2 c3 c4 hb hne h1 h2 h3 h4
    go_wp2_with fail
    go_loopw [23] (fun iv wr => ∃ (k : Nat) (p0 p1 m0 m1 : BA), k ≤ 2 ∧ iv = .int .i64 (k : Int) ∧ Hid (stF ap bp am bm k = (p0, p1, m0, m1)) ∧ Hid (SumI w wr g1 g2 a b ap am bp bm p0 p1 m0 m1)) (fun iv _ => 2 - (intOf iv).toNat)
    case atStart => exact ⟨0, ap, bp, am, bm, by omega, rfl, Lib.hid rfl, HS0⟩
    case round =>
      obtain ⟨k, p0, p1, m0, m1, hk, rfl, hst, hI⟩ := hrel
      have hI' := hI.out
      obtain ⟨x0, x1⟩ := two_cells hI'.c3
      obtain ⟨y0, y1⟩ := two_cells hI'.c4
      have fx := fz_of hI'.c3
      have fy := fz_of hI'.c4
      have hne1 : g1 ≠ g2 := HNE.out
      clear hI'
      have hk3 : k = 0 ∨ k = 1 ∨ k = 2 := by omega
      rcases hk3 with rfl | rfl | rfl
      · have hst' := hst.out
        simp only [stF, Prod.mk.injEq] at hst'
        obtain ⟨rfl, rfl, rfl, rfl⟩ := hst'
        have IX := Lib.hid (Tryz.slices_Index_string g2 0 2 2 [am, bm] ap wr (Nat.le_refl _) (by decide) (row2 hI.out.c4))
        rw [show [am, bm].take 2 = [am, bm] from rfl, idx2] at IX
        by_cases e0 : am = ap
        · rw [if_pos e0] at IX
          have HF := Lib.hid (show stF ap bp am bm 1 = (⟨#[]⟩, bp, ⟨#[]⟩, bm) by show ((clr am bm ap).1, bp, (clr am bm ap).2.1, (clr am bm ap).2.2) = _; rw [clr_0 e0])
          clear e0
          go_wp2_with fail
          refine IX.out.mono ?_
          rintro e wz ⟨rfl, rfl⟩
          go_wp2_with fail
          go_roundw
          case rel => exact ⟨1, _, _, _, _, by omega, by rfl, HF, Lib.hid ⟨set_far (set_far hI.out.c0 (by omega)) (by omega), set_far (set_far hI.out.c1 (by omega)) (by omega), set_far (set_far hI.out.c2 (by omega)) (by omega), set_far (set2_0 hI.out.c3 _) (Ne.symm hne1), set2_0 (set_far hI.out.c4 hne1) _, (hI.out.bel.setCell (p := ⟨g1, 0, none⟩) (by show w.heap.size ≤ g1; omega) _).setCell (p := ⟨g2, 0, none⟩) (by show w.heap.size ≤ g2; omega) _⟩⟩
          case measure => simp [intOf]
        · rw [if_neg e0] at IX
          by_cases e1 : bm = ap
          · rw [if_pos e1] at IX
            have HF := Lib.hid (show stF ap bp am bm 1 = (⟨#[]⟩, bp, am, ⟨#[]⟩) by show ((clr am bm ap).1, bp, (clr am bm ap).2.1, (clr am bm ap).2.2) = _; rw [clr_1 e0 e1])
            clear e0 e1
            go_wp2_with fail
            refine IX.out.mono ?_
            rintro e wz ⟨rfl, rfl⟩
            go_wp2_with fail
            go_roundw
            case rel => exact ⟨1, _, _, _, _, by omega, by rfl, HF, Lib.hid ⟨set_far (set_far hI.out.c0 (by omega)) (by omega), set_far (set_far hI.out.c1 (by omega)) (by omega), set_far (set_far hI.out.c2 (by omega)) (by omega), set_far (set2_0 hI.out.c3 _) (Ne.symm hne1), set2_1 (set_far hI.out.c4 hne1) _, (hI.out.bel.setCell (p := ⟨g1, 0, none⟩) (by show w.heap.size ≤ g1; omega) _).setCell (p := ⟨g2, 1, none⟩) (by show w.heap.size ≤ g2; omega) _⟩⟩
            case measure => simp [intOf]
          · rw [if_neg e1] at IX
            have HF := Lib.hid (show stF ap bp am bm 1 = (ap, bp, am, bm) by show ((clr am bm ap).1, bp, (clr am bm ap).2.1, (clr am bm ap).2.2) = _; rw [clr_2 e0 e1])
            clear e0 e1
            go_wp2_with fail
            refine IX.out.mono ?_
            rintro e wz ⟨rfl, rfl⟩
            go_wp2_with fail
            go_roundw
            case rel => exact ⟨1, _, _, _, _, by omega, by rfl, HF, hI⟩
            case measure => simp [intOf]
      · have IX := Lib.hid (Tryz.slices_Index_string g2 0 2 2 [m0, m1] p1 wr (Nat.le_refl _) (by decide) (row2 hI.out.c4))
        rw [show [m0, m1].take 2 = [m0, m1] from rfl, idx2] at IX
        have HST := Lib.hid (step1 hst.out)
        by_cases e0 : m0 = p1
        · rw [if_pos e0] at IX
          have HF := Lib.hid (show stF ap bp am bm 2 = (p0, ⟨#[]⟩, ⟨#[]⟩, m1) by rw [HST.out, clr_0 e0])
          clear e0
          go_wp2_with fail
          refine IX.out.mono ?_
          rintro e wz ⟨rfl, rfl⟩
          go_wp2_with fail
          go_roundw
          case rel => exact ⟨2, _, _, _, _, by omega, by rfl, HF, Lib.hid ⟨set_far (set_far hI.out.c0 (by omega)) (by omega), set_far (set_far hI.out.c1 (by omega)) (by omega), set_far (set_far hI.out.c2 (by omega)) (by omega), set_far (set2_1 hI.out.c3 _) (Ne.symm hne1), set2_0 (set_far hI.out.c4 hne1) _, (hI.out.bel.setCell (p := ⟨g1, 1, none⟩) (by show w.heap.size ≤ g1; omega) _).setCell (p := ⟨g2, 0, none⟩) (by show w.heap.size ≤ g2; omega) _⟩⟩
          case measure => simp [intOf]
        · rw [if_neg e0] at IX
          by_cases e1 : m1 = p1
          · rw [if_pos e1] at IX
            have HF := Lib.hid (show stF ap bp am bm 2 = (p0, ⟨#[]⟩, m0, ⟨#[]⟩) by rw [HST.out, clr_1 e0 e1])
            clear e0 e1
            go_wp2_with fail
            refine IX.out.mono ?_
            rintro e wz ⟨rfl, rfl⟩
            go_wp2_with fail
            go_roundw
            case rel => exact ⟨2, _, _, _, _, by omega, by rfl, HF, Lib.hid ⟨set_far (set_far hI.out.c0 (by omega)) (by omega), set_far (set_far hI.out.c1 (by omega)) (by omega), set_far (set_far hI.out.c2 (by omega)) (by omega), set_far (set2_1 hI.out.c3 _) (Ne.symm hne1), set2_1 (set_far hI.out.c4 hne1) _, (hI.out.bel.setCell (p := ⟨g1, 1, none⟩) (by show w.heap.size ≤ g1; omega) _).setCell (p := ⟨g2, 1, none⟩) (by show w.heap.size ≤ g2; omega) _⟩⟩
            case measure => simp [intOf]
          · rw [if_neg e1] at IX
            have HF := Lib.hid (show stF ap bp am bm 2 = (p0, p1, m0, m1) by rw [HST.out, clr_2 e0 e1])
            clear e0 e1
            go_wp2_with fail
            refine IX.out.mono ?_
            rintro e wz ⟨rfl, rfl⟩
            go_wp2_with fail
            go_roundw
            case rel => exact ⟨2, _, _, _, _, by omega, by rfl, HF, hI⟩
            case measure => simp [intOf]
      · have C1 := Lib.hid (Tryz.slices_Contains_string g1 0 2 2 [p0, p1] ⟨#[]⟩ wr (Nat.le_refl _) (by decide) (row2 hI.out.c3))
        have C2 := Lib.hid (Tryz.slices_Contains_string g2 0 2 2 [m0, m1] ⟨#[]⟩ wr (Nat.le_refl _) (by decide) (row2 hI.out.c4))
        rw [show [p0, p1].take 2 = [p0, p1] from rfl, has2] at C1
        rw [show [m0, m1].take 2 = [m0, m1] from rfl, has2] at C2
        obtain ⟨z0, z1, z2⟩ := val_cells hI.out.c2
        have fz := fz_of hI.out.c2
        obtain ⟨q0, q1, q2⟩ := val_cells hI.out.c0
        obtain ⟨r0, r1, r2⟩ := val_cells hI.out.c1
        have hV : sumV a b ap am bp bm = if hasE p0 p1 && hasE m0 m1 then some (wrap64 (a + b), p0 ++ p1, m0 ++ m1) else none := by
          unfold sumV
          rw [hst.out]
        have HV := Lib.hid hV
        obtain ⟨i1, i2, i3, i4⟩ := stF_size HL.out.1 HL.out.2.1 HL.out.2.2.1 HL.out.2.2.2 hst.out
        have hs1 : p0.size + p1.size ≤ 562949953421312 := by omega
        have hs2 : m0.size + m1.size ≤ 562949953421312 := by omega
        clear hV i1 i2 i3 i4
        have HX := hI.out
        clear hI hst
        obtain ⟨x0, x1⟩ := two_cells HX.c3
        obtain ⟨y0, y1⟩ := two_cells HX.c4
        have HI := Lib.hid HX
        clear HX
        cases he1 : hasE p0 p1 with
        | false =>
          rw [he1] at C1 HV
          go_wp2_with fail
          refine C1.out.mono ?_
          rintro e wz ⟨rfl, rfl⟩
          go_wp2_with fail
          obtain ⟨e0, e1, e2⟩ := val_cells (val_set HI.out.c2 (.int .i64 0) (.string ⟨#[]⟩) (.string ⟨#[]⟩))
          exact bodyPost_ret (v := SumV (sumV a b ap am bp bm)) (by rw [HV.out]; simp [SumV, results, Tryz.results42, go_sem, e0, e1, e2]) rfl ⟨rfl, below_val HI.out.bel (by omega) _ _ _⟩
        | true =>
          rw [he1] at C1 HV
          cases he2 : hasE m0 m1 with
          | false =>
            rw [he2] at C2 HV
            go_wp2_with fail
            refine C1.out.mono ?_
            rintro e wz ⟨rfl, rfl⟩
            go_wp2_with fail
            refine C2.out.mono ?_
            rintro e wz ⟨rfl, rfl⟩
            go_wp2_with fail
            obtain ⟨e0, e1, e2⟩ := val_cells (val_set HI.out.c2 (.int .i64 0) (.string ⟨#[]⟩) (.string ⟨#[]⟩))
            exact bodyPost_ret (v := SumV (sumV a b ap am bp bm)) (by rw [HV.out]; simp [SumV, results, Tryz.results42, go_sem, e0, e1, e2]) rfl ⟨rfl, below_val HI.out.bel (by omega) _ _ _⟩
          | true =>
            rw [he2] at C2 HV
            go_wp2_with fail
            refine C1.out.mono ?_
            rintro e wz ⟨rfl, rfl⟩
            go_wp2_with fail
            refine C2.out.mono ?_
            rintro e wz ⟨rfl, rfl⟩
            go_wp2_with fail
            clear C1 C2
            go_region
            go_wp2_with fail
            obtain ⟨e0, e1, e2⟩ := val_cells (val_set HI.out.c2 (.int .i64 (wrap64 (a + b))) (.string (p0 ++ p1)) (.string (m0 ++ m1)))
            exact bodyPost_ret (v := SumV (sumV a b ap am bp bm)) (by rw [HV.out]; simp [SumV, results, Tryz.results42, go_sem, e0, e1, e2]) rfl ⟨rfl, (below_val HI.out.bel (B := w.heap.size + 1 + 1) (by omega) _ _ _).drew⟩
/-- of texts of so many bytes at most the sum's are no longer -/
theorem sumV_size {L : Nat} {a b : Int} {ap am bp bm : BA} (h1 : ap.size ≤ L) (h2 : am.size ≤ L) (h3 : bp.size ≤ L) (h4 : bm.size ≤ L) {n : Int} {p m : BA} (h : sumV a b ap am bp bm = some (n, p, m)) : p.size ≤ L ∧ m.size ≤ L := by
  generalize hs : stF ap bp am bm 2 = s at *
  obtain ⟨p0, p1, m0, m1⟩ := s
  obtain ⟨i1, i2, i3, i4⟩ := stF_size h1 h2 h3 h4 hs
  simp only [sumV, hs] at h
  split at h
  · rename_i hh
    obtain ⟨ha, hb⟩ := Bool.and_eq_true _ _ ▸ hh
    simp only [Option.some.injEq, Prod.mk.injEq] at h
    obtain ⟨_, rfl, rfl⟩ := h
    exact ⟨hasE_size i1 i2 ha, hasE_size i3 i4 hb⟩
  · cases h
end Go.Proofs.YtdkflmpdelfgoaaGreatDoor
