/-
  What each call of the methods of a shape returns: isFilled, isNear, relocation, fits, filled; Type, Width, Reach. Conditions: what the start left in the two tables (Gd), that a step is 1 or 4 where a number is filled in.
-/
import Derived.Test.YtjkhgljlipljdaaDoorFixC
namespace Go.Proofs.YtjkhgljlipljdaaDoor
open Go.RowKit
set_option linter.unusedVariables false
set_option linter.unusedSimpArgs false

/-- what becomes of a hole -/
structure Fx where
  pt : Bool
  v : Int
  rl : Bool
  off : Int
  ty : Int
  sy : Int
  ad : Int
deriving DecidableEq
def fx0 : Fx := ⟨false, 0, false, 0, 0, 0, 0⟩
def fxV (x : Fx) : Value := .agg #[.bool x.pt, .int .i64 x.v, .bool x.rl, .int .i64 x.off, .int .i64 x.ty, .int .i64 x.sy, .int .i64 x.ad]
def filledB (h : Sh) : Bool := h.t != 0
def nearB (h : Sh) : Bool := h.o != 0
def fitsB (h : Sh) (v : Int) : Bool := decide (h.l ≤ v) && (decide (v ≤ h.m) && (v.tmod h.t == 0))
/-- a relocation's type -/
def relI (h : Sh) (far : Bool) : Int := if far = true then h.f else h.p
def relE (h : Sh) (far : Bool) : Int := if relI h far = 0 then 180 else 0
def fillF (h : Sh) (n : Int) : Fx := if filledB h = true then (if fitsB h n = true then ⟨true, n, false, 0, 0, 0, 0⟩ else fx0) else fx0
def fillE (h : Sh) (n : Int) : Int := if filledB h = true then (if fitsB h n = true then 0 else 181) else 180

theorem isFilled_any (h : Sh) (w : World) :
    Calls Tryd.prog 33 #[shV h] w fun e w' => e = .returned (.bool (filledB h)) ∧ Below w.heap.size w w' := by
  obtain ⟨a, b, c, d, l, m, t⟩ := h
  unfold shV
  go_enter Tryd.func33, Tryd.ntmps33
  go_wp2
  go_ret
  exact ⟨rfl, below1 w _⟩
theorem isNear_any (h : Sh) (w : World) :
    Calls Tryd.prog 47 #[shV h] w fun e w' => e = .returned (.bool (nearB h)) ∧ Below w.heap.size w w' := by
  obtain ⟨a, b, c, d, l, m, t⟩ := h
  unfold shV
  go_enter Tryd.func47, Tryd.ntmps47
  go_wp2
  go_ret
  exact ⟨rfl, below1 w _⟩
theorem relocation_any (h : Sh) (far : Bool) (w : World) :
    Calls Tryd.prog 34 #[shV h, .bool far] w fun e w' => e = .returned (.tuple #[.int .i64 (relI h far), .int .i64 (relE h far)]) ∧ Below w.heap.size w w' := by
  unfold relE relI
  obtain ⟨a, b, c, d, l, m, t⟩ := h
  unfold shV
  simp only
  cases far with
  | false =>
    by_cases hb : b = 0
    · subst hb
      go_enter Tryd.func34, Tryd.ntmps34
      go_wp2
      go_returns
      exact ⟨rfl, below1 w _⟩
    · have b1 := not_beq hb
      simp only [Bool.false_eq_true, if_false, if_neg hb]
      go_enter Tryd.func34, Tryd.ntmps34
      go_wp2
      go_returns
      exact ⟨rfl, below1 w _⟩
  | true =>
    by_cases hb : c = 0
    · subst hb
      go_enter Tryd.func34, Tryd.ntmps34
      go_wp2
      go_returns
      exact ⟨rfl, below1 w _⟩
    · have b1 := not_beq hb
      simp only [if_true, if_neg hb]
      go_enter Tryd.func34, Tryd.ntmps34
      go_wp2
      go_returns
      exact ⟨rfl, below1 w _⟩
theorem fits_any (h : Sh) (v : Int) (w : World) (ht : h.t = 1 ∨ h.t = 4) (hv : -9223372036854775808 ≤ v ∧ v ≤ 9223372036854775807) :
    Calls Tryd.prog 46 #[shV h, .int .i64 v] w fun e w' => e = .returned (.bool (fitsB h v)) ∧ Below w.heap.size w w' := by
  obtain ⟨a, b, c, d, l, m, t⟩ := h
  simp only at ht
  unfold shV fitsB
  simp only
  by_cases h1 : l ≤ v
  · by_cases h2 : v ≤ m
    · rw [decide_eq_true h1, decide_eq_true h2, Bool.true_and, Bool.true_and]
      rcases ht with rfl | rfl
      · go_enter Tryd.func46, Tryd.ntmps46
        go_wp2_with fail
        go_ret
        exact ⟨ret1b (by simp), below1 w _⟩
      · go_enter Tryd.func46, Tryd.ntmps46
        go_wp2_with fail
        go_ret
        exact ⟨rfl, below1 w _⟩
    · rw [decide_eq_true h1, decide_eq_false h2]
      go_enter Tryd.func46, Tryd.ntmps46
      go_wp2_with fail
      go_ret
      exact ⟨rfl, below1 w _⟩
  · rw [decide_eq_false h1]
    go_enter Tryd.func46, Tryd.ntmps46
    go_wp2_with fail
    go_ret
    exact ⟨rfl, below1 w _⟩

/-- a struct of seven cells in a call's own two new blocks -/
theorem filled_any (h : Sh) (n : Int) (w : World) (ht : h.t = 0 ∨ h.t = 1 ∨ h.t = 4) (hv : -9223372036854775808 ≤ n ∧ n ≤ 9223372036854775807) :
    Calls Tryd.prog 65 #[shV h, .int .i64 n] w fun e w' => e = .returned (.tuple #[fxV (fillF h n), .int .i64 (fillE h n)]) ∧ Below w.heap.size w w' := by
  have IF := Lib.hid (fun W => isFilled_any h W)
  have FT := Lib.hid (fun W (ht : h.t = 1 ∨ h.t = 4) => fits_any h n W ht hv)
  unfold fillF fillE
  have hT : filledB h = true → h.t = 1 ∨ h.t = 4 := by
    intro hf
    rcases ht with h0 | h1
    · simp [filledB, h0] at hf
    · exact h1
  generalize hfb : filledB h = b1 at *
  generalize fitsB h n = b2 at *
  clear hfb
  obtain ⟨x0, x1, x2, x3, x4, x5, x6⟩ := h
  unfold shV at *
  simp only at *
  cases b1 with
  | false =>
    simp only [Bool.false_eq_true, if_false]
    unfold fxV fx0
    clear FT hT ht
    go_enter Tryd.func65, Tryd.ntmps65
    go_wp2_with fail
    refine (IF.out _).mono ?_
    rintro e w1 ⟨rfl, hb1⟩
    obtain ⟨g1, g2, hbw, hz⟩ := kept2 hb1
    obtain ⟨f0, d0, d1, d2, d3, d4, d5, d6⟩ := seven g2
    have HB1 := Lib.hid hbw
    clear hb1 g1 g2 hbw hz
    go_wp2_with fail
    refine bodyPost_ret (by simp [results, Tryd.results65, go_sem, d0, d1, d2, d3, d4, d5, d6]; try rfl) rfl ?_
    refine ⟨rfl, ?_⟩
    have hw := HB1.out
    iterate 7 (refine Below.setCell ?_ (by dsimp only; omega) _)
    exact hw
  | true =>
    have FT := Lib.hid (fun W => FT.out W (hT rfl))
    clear hT ht
    cases b2 with
    | _ =>
      simp only [if_true, Bool.false_eq_true, if_false]
      unfold fxV
      try unfold fx0
      go_enter Tryd.func65, Tryd.ntmps65
      go_wp2_with fail
      refine (IF.out _).mono ?_
      rintro e w1 ⟨rfl, hb1⟩
      obtain ⟨g1, g2, hbw, hz⟩ := kept2 hb1
      obtain ⟨_, c0, c1, c2, c3, c4, c5, c6⟩ := seven g1
      have HB1 := Lib.hid hbw
      have HG2 := Lib.hid g2
      have HZ := Lib.hid hz
      clear hb1 g1 g2 hbw hz
      go_wp2_with fail
      refine (FT.out _).mono ?_
      rintro e w2 ⟨rfl, hb2⟩
      have g2 := (hb2.block (w.heap.size + 1) (heap_lt HG2.out)).trans HG2.out
      have HB2 := Lib.hid (Below.thn HB1.out HB1.out.size hb2)
      obtain ⟨f0, d0, d1, d2, d3, d4, d5, d6⟩ := seven g2
      clear hb2 g2
      go_wp2_with fail
      refine bodyPost_ret (by simp [results, Tryd.results65, go_sem, d0, d1, d2, d3, d4, d5, d6]; try rfl) rfl ?_
      refine ⟨rfl, ?_⟩
      have hw := HB2.out
      iterate 7 (refine Below.setCell ?_ (by dsimp only; omega) _)
      exact hw

theorem shR_t (k s : Int) : (shR k s).t = 0 ∨ (shR k s).t = 1 ∨ (shR k s).t = 4 := by
  unfold shR
  cases hh : holeOk k s with
  | false => exact .inl rfl
  | true =>
    rw [if_pos rfl]
    obtain ⟨x, hx, rfl, rfl⟩ := holes_all hh
    exact (show ∀ x ∈ holesL, (shOf (x.1 : Int) (x.2 : Int)).t = 0 ∨ (shOf (x.1 : Int) (x.2 : Int)).t = 1 ∨ (shOf (x.1 : Int) (x.2 : Int)).t = 4 by decide) x hx
def typE (k s : Int) (far : Bool) : Int := if holeOk k s = true then relE (shR k s) far else 1
def typI (k s : Int) (far : Bool) : Int := if holeOk k s = true then relI (shR k s) far else 0
set_option maxHeartbeats 1000000 in
theorem type_any (h : Hl) (far : Bool) (w : World) (hG : Gd w) :
    Calls Tryd.prog 12 #[hlV h, .bool far] w fun e w' => e = .returned (.tuple #[.int .i64 (typI h.k h.s far), .int .i64 (typE h.k h.s far)]) ∧ Below w.heap.size w w' := by
  have SO := Lib.hid (fun W (hb : Below w.heap.size w W) => shapeOf_any h W (hG.keep hb))
  have RL := Lib.hid (fun W => relocation_any (shR h.k h.s) far W)
  obtain ⟨k, s, a, p, m⟩ := h
  unfold hlV typI typE chkI at *
  simp only at *
  generalize shR k s = S at *
  obtain ⟨x0, x1, x2, x3, x4, x5, x6⟩ := S
  unfold shV at *
  simp only at *
  clear hG
  cases hok : holeOk k s with
  | false =>
    rw [hok] at SO
    simp only [Bool.false_eq_true, if_false] at *
    have HB0 := Lib.hid (below1 w (.cells #[.int .i64 k, .int .i64 s, .int .i64 a, .string p, .string m] 25))
    clear RL
    go_enter Tryd.func12, Tryd.ntmps12
    go_wp2_with fail
    refine (SO.out _ HB0.out).mono ?_
    rintro e w1 ⟨rfl, hb1⟩
    obtain ⟨g1, hbw, hz⟩ := kept1 hb1
    have HB1 := Lib.hid hbw
    clear hb1 g1 hbw hz
    go_wp2_with fail
    go_returns
    exact ⟨rfl, HB1.out.alloc HB1.out.size _⟩
  | true =>
    rw [hok] at SO
    simp only [if_true] at *
    have HB0 := Lib.hid (below1 w (.cells #[.int .i64 k, .int .i64 s, .int .i64 a, .string p, .string m] 25))
    generalize relI _ far = R1 at *
    generalize relE _ far = R2 at *
    go_enter Tryd.func12, Tryd.ntmps12
    go_wp2_with fail
    refine (SO.out _ HB0.out).mono ?_
    rintro e w1 ⟨rfl, hb1⟩
    obtain ⟨g1, hbw, hz⟩ := kept1 hb1
    have HB1 := Lib.hid hbw
    clear hb1 g1 hbw hz
    go_wp2_with fail
    refine (RL.out _).mono ?_
    rintro e w2 ⟨rfl, hb2⟩
    have HB2 := Lib.hid (Below.thn (HB1.out.alloc HB1.out.size _) (HB1.out.alloc HB1.out.size _).size hb2)
    clear hb2
    go_wp2_with fail
    go_returns
    exact ⟨rfl, HB2.out⟩
set_option maxHeartbeats 1000000 in
theorem width_any (h : Hl) (w : World) (hG : Gd w) :
    Calls Tryd.prog 17 #[hlV h] w fun e w' => e = .returned (.int .i64 (shR h.k h.s).w) ∧ Below w.heap.size w w' := by
  have SO := Lib.hid (fun W (hb : Below w.heap.size w W) => shapeOf_any h W (hG.keep hb))
  obtain ⟨k, s, a, p, m⟩ := h
  unfold hlV at *
  simp only at *
  generalize shR k s = S at *
  obtain ⟨x0, x1, x2, x3, x4, x5, x6⟩ := S
  unfold shV at *
  simp only at *
  have HB0 := Lib.hid (below1 w (.cells #[.int .i64 k, .int .i64 s, .int .i64 a, .string p, .string m] 25))
  clear hG
  go_enter Tryd.func17, Tryd.ntmps17
  go_wp2_with fail
  refine (SO.out _ HB0.out).mono ?_
  rintro e w1 ⟨rfl, hb1⟩
  obtain ⟨g1, hbw, hz⟩ := kept1 hb1
  have HB1 := Lib.hid hbw
  clear hb1 g1 hbw hz
  go_wp2_with fail
  go_ret
  exact ⟨rfl, HB1.out.alloc HB1.out.size _⟩
theorem seven_keep {W W' : World} (hb : Below W.heap.size W W') {B : Nat} {v0 v1 v2 v3 v4 v5 v6 : Value} (h : W.cell? ⟨B, 0, none⟩ = some v0 ∧ W.cell? ⟨B, 1, none⟩ = some v1 ∧ W.cell? ⟨B, 2, none⟩ = some v2 ∧ W.cell? ⟨B, 3, none⟩ = some v3 ∧ W.cell? ⟨B, 4, none⟩ = some v4 ∧ W.cell? ⟨B, 5, none⟩ = some v5 ∧ W.cell? ⟨B, 6, none⟩ = some v6) : W'.cell? ⟨B, 0, none⟩ = some v0 ∧ W'.cell? ⟨B, 1, none⟩ = some v1 ∧ W'.cell? ⟨B, 2, none⟩ = some v2 ∧ W'.cell? ⟨B, 3, none⟩ = some v3 ∧ W'.cell? ⟨B, 4, none⟩ = some v4 ∧ W'.cell? ⟨B, 5, none⟩ = some v5 ∧ W'.cell? ⟨B, 6, none⟩ = some v6 :=
  ⟨cell_kept hb h.1, cell_kept hb h.2.1, cell_kept hb h.2.2.1, cell_kept hb h.2.2.2.1, cell_kept hb h.2.2.2.2.1, cell_kept hb h.2.2.2.2.2.1, cell_kept hb h.2.2.2.2.2.2⟩
set_option maxHeartbeats 1000000 in
theorem reach_any (h : Hl) (w : World) (hG : Gd w) :
    Calls Tryd.prog 10 #[hlV h] w fun e w' => e = .returned (.tuple #[.int .i64 (shR h.k h.s).l, .int .i64 (shR h.k h.s).m, .int .i64 (shR h.k h.s).t, .bool (filledB (shR h.k h.s))]) ∧ Below w.heap.size w w' := by
  have SO := Lib.hid (fun W (hb : Below w.heap.size w W) => shapeOf_any h W (hG.keep hb))
  have IF := Lib.hid (fun W => isFilled_any (shR h.k h.s) W)
  obtain ⟨k, s, a, p, m⟩ := h
  unfold hlV at *
  simp only at *
  generalize shR k s = S at *
  generalize filledB S = FB at *
  obtain ⟨x0, x1, x2, x3, x4, x5, x6⟩ := S
  unfold shV at *
  simp only at *
  have HB0 := Lib.hid (below1 w (.cells #[.int .i64 k, .int .i64 s, .int .i64 a, .string p, .string m] 25))
  clear hG
  go_enter Tryd.func10, Tryd.ntmps10
  go_wp2_with fail
  refine (SO.out _ HB0.out).mono ?_
  rintro e w1 ⟨rfl, hb1⟩
  obtain ⟨g1, hbw, hz⟩ := kept1 hb1
  have HB1 := Lib.hid (hbw.alloc hbw.size (.cells #[.int .i64 x0, .int .i64 x1, .int .i64 x2, .int .i64 x3, .int .i64 x4, .int .i64 x5, .int .i64 x6] 71))
  clear hb1 g1 hbw hz
  go_wp2_with fail
  have hs7 := (seven (heap_alloc_new w1 (.cells #[.int .i64 x0, .int .i64 x1, .int .i64 x2, .int .i64 x3, .int .i64 x4, .int .i64 x5, .int .i64 x6] 71))).2
  generalize (w1.alloc (.cells #[.int .i64 x0, .int .i64 x1, .int .i64 x2, .int .i64 x3, .int .i64 x4, .int .i64 x5, .int .i64 x6] 71)) = W2 at *
  have S0 := hs7
  obtain ⟨c0, c1, c2, c3, c4, c5, c6⟩ := hs7
  go_region_held3 (fun w' => w'.cell? ⟨w1.heap.size, 0, none⟩ = some (.int .i64 x0) ∧ w'.cell? ⟨w1.heap.size, 1, none⟩ = some (.int .i64 x1) ∧ w'.cell? ⟨w1.heap.size, 2, none⟩ = some (.int .i64 x2) ∧ w'.cell? ⟨w1.heap.size, 3, none⟩ = some (.int .i64 x3) ∧ w'.cell? ⟨w1.heap.size, 4, none⟩ = some (.int .i64 x4) ∧ w'.cell? ⟨w1.heap.size, 5, none⟩ = some (.int .i64 x5) ∧ w'.cell? ⟨w1.heap.size, 6, none⟩ = some (.int .i64 x6)) (first | with_reducible exact S0 | with_reducible exact S1 | exact S0 | exact S1) ((go_at_call 33; (with_reducible refine (IF.out _).mono ?_); rintro e w3 ⟨rfl, hb3⟩; have S1 := seven_keep hb3 S0; have HB3 := Lib.hid (Below.thn HB1.out.drew HB1.out.size hb3); clear hb3))
  all_goals
    go_wp2_with fail
    go_returns
    exact ⟨rfl, HB3.out⟩
end Go.Proofs.YtjkhgljlipljdaaDoor
