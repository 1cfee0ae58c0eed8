/-
  cmp.Compare at strings, order, slices.IsSortedFunc, the document's ahead: what each call returns. Conditions: how the symbols lie.
-/
import Derived.Test.YtopghgoheaaceaaObjD
namespace Go.Proofs.Ytopghgoheaaceaa
open Go.RowKit
set_option linter.unusedVariables false
set_option linter.unusedSimpArgs false

def ltB (a b : BA) : Bool := Op.bytesLess a.toList b.toList
def cmpB (a b : BA) : Int := if ltB a b = true then -1 else if (!(a.toList == b.toList)) = true then 1 else 0
theorem isNaN_any (a : BA) (w : World) : Calls Try.prog 85 #[.string a] w fun e w' => e = .returned (.bool false) ∧ w = w' := by
  have h : (a.toList == a.toList) = true := str_yes a
  go_enter Try.func85, Try.ntmps85
  go_wp2
  go_ret
  exact ⟨ret1b (by simp), rfl⟩
theorem cmp_any (a b : BA) (w : World) : Calls Try.prog 68 #[.string a, .string b] w fun e w' => e = .returned (.int .i64 (cmpB a b)) ∧ w = w' := by
  have NA := Lib.hid (fun a W => isNaN_any a W)
  have E : cmpB a b = if Op.bytesLess a.toList b.toList = true then -1 else if (!(a.toList == b.toList)) = true then 1 else 0 := rfl
  generalize cmpB a b = R at *
  cases h1 : Op.bytesLess a.toList b.toList with
  | true =>
    rw [h1, if_pos rfl] at E
    have HE := Lib.hid E
    clear E
    go_enter Try.func68, Try.ntmps68
    go_wp2_with fail
    refine (NA.out _ _).mono ?_
    rintro e w1 ⟨rfl, rfl⟩
    go_wp2_with fail
    refine (NA.out _ _).mono ?_
    rintro e w1 ⟨rfl, rfl⟩
    go_wp2_with fail
    go_ret
    exact ⟨ret1 (by rw [HE.out]), rfl⟩
  | false =>
    rw [h1, if_neg (by decide)] at E
    cases h2 : (a.toList == b.toList) with
    | true =>
      rw [h2, if_neg (by decide)] at E
      have HE := Lib.hid E
      clear E
      go_enter Try.func68, Try.ntmps68
      go_wp2_with fail
      refine (NA.out _ _).mono ?_
      rintro e w1 ⟨rfl, rfl⟩
      go_wp2_with fail
      refine (NA.out _ _).mono ?_
      rintro e w1 ⟨rfl, rfl⟩
      go_wp2_with fail
      go_ret
      exact ⟨ret1 (by rw [HE.out]), rfl⟩
    | false =>
      rw [h2, if_pos (by decide)] at E
      have HE := Lib.hid E
      clear E
      go_enter Try.func68, Try.ntmps68
      go_wp2_with fail
      refine (NA.out _ _).mono ?_
      rintro e w1 ⟨rfl, rfl⟩
      go_wp2_with fail
      refine (NA.out _ _).mono ?_
      rintro e w1 ⟨rfl, rfl⟩
      go_wp2_with fail
      go_ret
      exact ⟨ret1 (by rw [HE.out]), rfl⟩
/-- which of two symbols comes first -/
def ordI (a b : Sy) : Int := if a.gl = b.gl then cmpB a.name b.name else if b.gl = true then -1 else 1
theorem two_box (w : World) (a b : Obj) : Below w.heap.size w ((w.alloc a).alloc b) := (below1 w a).alloc (by simp) _
set_option maxHeartbeats 1000000 in
theorem order_any (a b : Sy) (w : World) : Calls Try.prog 42 #[syV a, syV b] w fun e w' => e = .returned (.int .i64 (ordI a b)) ∧ Below w.heap.size w w' := by
  have CM := Lib.hid (fun W => cmp_any a.name b.name W)
  have E : ordI a b = if a.gl = b.gl then cmpB a.name b.name else if b.gl = true then -1 else 1 := rfl
  generalize ordI a b = R at *
  obtain ⟨an, asc, av, ag⟩ := a
  obtain ⟨bn, bsc, bv, bg⟩ := b
  unfold syV
  simp only at E CM ⊢
  generalize cmpB an bn = C at *
  cases ag <;> cases bg
  · have HE := Lib.hid (E.trans (if_pos rfl))
    clear E
    go_enter Try.func42, Try.ntmps42
    go_wp2_with fail
    refine (CM.out _).mono ?_
    rintro e w1 ⟨rfl, rfl⟩
    go_wp2_with fail
    go_ret
    exact ⟨ret1 (by rw [HE.out]), two_box w _ _⟩
  · have HE := Lib.hid (E.trans ((if_neg (by decide)).trans (if_pos rfl)))
    clear E
    go_enter Try.func42, Try.ntmps42
    go_wp2_with fail
    go_ret
    exact ⟨ret1 (by rw [HE.out]), two_box w _ _⟩
  · have HE := Lib.hid (E.trans ((if_neg (by decide)).trans (if_neg (by decide))))
    clear E
    go_enter Try.func42, Try.ntmps42
    go_wp2_with fail
    go_ret
    exact ⟨ret1 (by rw [HE.out]), two_box w _ _⟩
  · have HE := Lib.hid (E.trans (if_pos rfl))
    clear E
    go_enter Try.func42, Try.ntmps42
    go_wp2_with fail
    refine (CM.out _).mono ?_
    rintro e w1 ⟨rfl, rfl⟩
    go_wp2_with fail
    go_ret
    exact ⟨ret1 (by rw [HE.out]), two_box w _ _⟩
/-- the document's: one symbol stands ahead of another -/
def aheadB (a b : Sy) : Bool := if a.gl = b.gl then ltB a.name b.name else b.gl
set_option maxHeartbeats 1000000 in
theorem rahead_any (a b : Sy) (w : World) : Calls Try.prog 45 #[syV a, syV b] w fun e w' => e = .returned (.bool (aheadB a b)) ∧ Below w.heap.size w w' := by
  have E : aheadB a b = if a.gl = b.gl then Op.bytesLess a.name.toList b.name.toList else b.gl := rfl
  generalize aheadB a b = R at *
  obtain ⟨an, asc, av, ag⟩ := a
  obtain ⟨bn, bsc, bv, bg⟩ := b
  unfold syV
  simp only at E ⊢
  cases ag <;> cases bg
  · have HE := Lib.hid (E.trans (if_pos rfl))
    clear E
    go_enter Try.func45, Try.ntmps45
    go_wp2_with fail
    go_ret
    exact ⟨ret1b (by rw [HE.out]), two_box w _ _⟩
  · have HE := Lib.hid (E.trans (if_neg (by decide)))
    clear E
    go_enter Try.func45, Try.ntmps45
    go_wp2_with fail
    go_ret
    exact ⟨ret1b (by rw [HE.out]), two_box w _ _⟩
  · have HE := Lib.hid (E.trans (if_neg (by decide)))
    clear E
    go_enter Try.func45, Try.ntmps45
    go_wp2_with fail
    go_ret
    exact ⟨ret1b (by rw [HE.out]), two_box w _ _⟩
  · have HE := Lib.hid (E.trans (if_pos rfl))
    clear E
    go_enter Try.func45, Try.ntmps45
    go_wp2_with fail
    go_ret
    exact ⟨ret1b (by rw [HE.out]), two_box w _ _⟩
/-- a symbol and the next one are in order -/
def okAt (L : List Sy) (i : Nat) : Bool := match L[i]?, L[i + 1]? with
  | some a, some b => !decide (ordI b a < 0)
  | _, _ => true
def sortedL (L : List Sy) : Bool := (List.range (L.length - 1)).all (okAt L)
theorem sorted_no {L : List Sy} {i : Nat} (hi : i < L.length - 1) (h : okAt L i = false) : sortedL L = false := by
  unfold sortedL
  rw [← Bool.not_eq_true, List.all_eq_true]
  intro f
  rw [f i (List.mem_range.2 hi)] at h; cases h
theorem sorted_yes {L : List Sy} (h : ∀ j, j < L.length - 1 → okAt L j = true) : sortedL L = true := by
  unfold sortedL
  rw [List.all_eq_true]
  exact fun j hj => h j (List.mem_range.1 hj)
theorem cells8 {W W' : World} (hb : Below W.heap.size W W') {g o1 o2 o3 o4 o5 o6 o7 o8 : Nat} {v1 v2 v3 v4 v5 v6 v7 v8 : Value} (hg : g < W.heap.size)
    (h : W.cell? ⟨g, o1, none⟩ = some v1 ∧ W.cell? ⟨g, o2, none⟩ = some v2 ∧ W.cell? ⟨g, o3, none⟩ = some v3 ∧ W.cell? ⟨g, o4, none⟩ = some v4 ∧ W.cell? ⟨g, o5, none⟩ = some v5 ∧ W.cell? ⟨g, o6, none⟩ = some v6 ∧ W.cell? ⟨g, o7, none⟩ = some v7 ∧ W.cell? ⟨g, o8, none⟩ = some v8) :
    W'.cell? ⟨g, o1, none⟩ = some v1 ∧ W'.cell? ⟨g, o2, none⟩ = some v2 ∧ W'.cell? ⟨g, o3, none⟩ = some v3 ∧ W'.cell? ⟨g, o4, none⟩ = some v4 ∧ W'.cell? ⟨g, o5, none⟩ = some v5 ∧ W'.cell? ⟨g, o6, none⟩ = some v6 ∧ W'.cell? ⟨g, o7, none⟩ = some v7 ∧ W'.cell? ⟨g, o8, none⟩ = some v8 := by
  have k := (bcell hb).1
  obtain ⟨a1, a2, a3, a4, a5, a6, a7, a8⟩ := h
  exact ⟨(k _ _ hg).trans a1, (k _ _ hg).trans a2, (k _ _ hg).trans a3, (k _ _ hg).trans a4, (k _ _ hg).trans a5, (k _ _ hg).trans a6, (k _ _ hg).trans a7, (k _ _ hg).trans a8⟩
set_option maxRecDepth 100000 in
set_option maxHeartbeats 4000000 in
theorem sorted_any (v : Value) (L : List Sy) (w : World) (hL : SymsO w v L) :
    Calls Try.prog 41 #[v, .func (.func 42) #[] #[]] w fun e w' => e = .returned (.bool (sortedL L)) ∧ Below w.heap.size w w' := by
  have OR := Lib.hid (fun a b W => order_any a b W)
  have SN := Lib.hid (fun i (hi : i < L.length - 1) (h : okAt L i = false) => sorted_no hi h)
  have SY := Lib.hid (fun (h : ∀ j, j < L.length - 1 → okAt L j = true) => sorted_yes h)
  generalize sortedL L = R at *
  have HL := Lib.hid hL
  have hlen := hL.len
  unfold maxLen at hlen
  obtain ⟨al, cl, rfl⟩ := hL.slice
  clear hL
  have w0 : IntKind.i64.wrap ((L.length : Int) - 1) = (L.length : Int) - 1 := IntWalk.i64_in _ (by omega)
  go_enter Try.func41, Try.ntmps41
  go_wp2_with fail
  go_loopw [5] (fun iv wr => ∃ i : Int, -1 ≤ i ∧ i ≤ (L.length : Int) - 1 ∧ iv = .int .i64 i ∧ Hid (∀ j : Nat, i ≤ (j : Int) → j < L.length - 1 → okAt L j = true) ∧ Hid (Below w.heap.size w wr)) (fun iv _ => (intOf iv).toNat)
  case atStart => exact ⟨(L.length : Int) - 1, by omega, by omega, rfl, Lib.hid (fun j h1 h2 => by omega), Lib.hid (Below.refl _ _)⟩
  case round =>
    obtain ⟨i, hi0, hi, rfl, hst, hbr⟩ := hrel
    clear w0
    by_cases hp : 0 < i
    · obtain ⟨k, rfl⟩ : ∃ k : Nat, i = (k : Int) := ⟨i.toNat, by omega⟩
      obtain ⟨m, hmk⟩ : ∃ m : Nat, k = m + 1 := ⟨k - 1, by omega⟩
      have hm1 : k < L.length := by omega
      obtain ⟨g, off, cap, y, hy, hv, hg, y0, y1, y2, y3⟩ := (HL.out.keep hbr.out).at hm1
      cases hv
      obtain ⟨g', off', cap', x, hx, hv, _, x0, x1, x2, x3⟩ := (HL.out.keep hbr.out).at (k := m) (by omega)
      cases hv
      have S0 : wr.cell? ⟨g, off + m * 4, none⟩ = some (.string x.name) ∧ wr.cell? ⟨g, off + m * 4 + 1, none⟩ = some (.int .i64 x.sec) ∧ wr.cell? ⟨g, off + m * 4 + 2, none⟩ = some (.int .i64 x.val) ∧ wr.cell? ⟨g, off + m * 4 + 3, none⟩ = some (.bool x.gl) ∧ wr.cell? ⟨g, off + k * 4, none⟩ = some (.string y.name) ∧ wr.cell? ⟨g, off + k * 4 + 1, none⟩ = some (.int .i64 y.sec) ∧ wr.cell? ⟨g, off + k * 4 + 2, none⟩ = some (.int .i64 y.val) ∧ wr.cell? ⟨g, off + k * 4 + 3, none⟩ = some (.bool y.gl) := ⟨x0, x1, x2, x3, y0, y1, y2, y3⟩
      have OA : okAt L m = !decide (ordI y x < 0) := by unfold okAt; rw [hx, ← hmk, hy]
      have OR2 := Lib.hid (fun W => OR.out y x W)
      generalize ordI y x = C at OA OR2
      have w7 : IntKind.i64.wrap ((k : Int) - 1) = (m : Int) := by rw [IntWalk.i64_in _ (by omega)]; omega
      have hml : (m : Int) < (L.length : Int) := by omega
      have hml2 : (k : Int) < (L.length : Int) := by omega
      have hpp : 0 < k := by omega
      have HK := Lib.hid hmk
      clear x0 x1 x2 x3 y0 y1 y2 y3 hx hy hp hmk hm1 hi0 hi
      obtain ⟨xn, xsc, xv, xg⟩ := x
      obtain ⟨yn, ysc, yv, yg⟩ := y
      unfold syV at OR2
      simp only at S0 OR2
      by_cases hc : C < 0
      · have HR := Lib.hid (SN.out m (by have := HK.out; omega) (by rw [OA, decide_eq_true hc]; rfl))
        replace hc := decide_eq_true hc
        clear OA SY SN
        go_wp2_with fail
        go_region_held3 (fun w' => w'.cell? ⟨g, off + m * 4, none⟩ = some (.string xn) ∧ w'.cell? ⟨g, off + m * 4 + 1, none⟩ = some (.int .i64 xsc) ∧ w'.cell? ⟨g, off + m * 4 + 2, none⟩ = some (.int .i64 xv) ∧ w'.cell? ⟨g, off + m * 4 + 3, none⟩ = some (.bool xg) ∧ w'.cell? ⟨g, off + k * 4, none⟩ = some (.string yn) ∧ w'.cell? ⟨g, off + k * 4 + 1, none⟩ = some (.int .i64 ysc) ∧ w'.cell? ⟨g, off + k * 4 + 2, none⟩ = some (.int .i64 yv) ∧ w'.cell? ⟨g, off + k * 4 + 3, none⟩ = some (.bool yg)) (first | with_reducible exact S0 | with_reducible exact S1 | exact S0 | exact S1) (first | (go_at_call 42; refine (OR2.out _).mono ?_; rintro e w1 ⟨rfl, hb1⟩; have S1 := cells8 (W := wr) (Below.thn (Below.refl _ wr).drew (Nat.le_refl _) hb1) hg S0; have HB1 := Lib.hid (Below.thn hbr.out.drew hbr.out.size hb1); clear hb1))
        all_goals
          go_wp2_with fail
          go_ret
          exact ⟨ret1b (by rw [HR.out]), HB1.out⟩
      · have HR := Lib.hid (show ∀ j : Nat, (m : Int) ≤ (j : Int) → j < L.length - 1 → okAt L j = true from fun j h1 h2 => by
          by_cases e : j = m
          · rw [e, OA, decide_eq_false hc]; rfl
          · exact hst.out j (by have := HK.out; omega) h2)
        replace hc := decide_eq_false hc
        clear OA SY SN
        go_wp2_with fail
        go_region_held3 (fun w' => w'.cell? ⟨g, off + m * 4, none⟩ = some (.string xn) ∧ w'.cell? ⟨g, off + m * 4 + 1, none⟩ = some (.int .i64 xsc) ∧ w'.cell? ⟨g, off + m * 4 + 2, none⟩ = some (.int .i64 xv) ∧ w'.cell? ⟨g, off + m * 4 + 3, none⟩ = some (.bool xg) ∧ w'.cell? ⟨g, off + k * 4, none⟩ = some (.string yn) ∧ w'.cell? ⟨g, off + k * 4 + 1, none⟩ = some (.int .i64 ysc) ∧ w'.cell? ⟨g, off + k * 4 + 2, none⟩ = some (.int .i64 yv) ∧ w'.cell? ⟨g, off + k * 4 + 3, none⟩ = some (.bool yg)) (first | with_reducible exact S0 | with_reducible exact S1 | exact S0 | exact S1) (first | (go_at_call 42; refine (OR2.out _).mono ?_; rintro e w1 ⟨rfl, hb1⟩; have S1 := cells8 (W := wr) (Below.thn (Below.refl _ wr).drew (Nat.le_refl _) hb1) hg S0; have HB1 := Lib.hid (Below.thn hbr.out.drew hbr.out.size hb1); clear hb1))
        all_goals
          go_wp2_with fail
          go_roundw
          case rel => exact ⟨(m : Int), by omega, by have := HK.out; omega, by first | rfl | rw [← w7], HR, HB1⟩
          case measure => have := HK.out; simp [intOf]; omega
    · have HR := Lib.hid (SY.out (fun j hj => hst.out j (by omega) hj))
      clear SY SN
      go_wp2_with fail
      go_ret
      exact ⟨ret1b (by rw [HR.out]), hbr.out⟩
end Go.Proofs.Ytopghgoheaaceaa
