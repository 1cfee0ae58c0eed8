/-
  What each call of the document's find and reloc returns. Conditions: how the symbols lie.
-/
import Derived.Test.YtjkhgljlipljdaaDoorFixF
namespace Go.Proofs.YtjkhgljlipljdaaDoor
open Go.RowKit
set_option linter.unusedVariables false
set_option linter.unusedSimpArgs false

def foundB (o : Option Pt) : Bool := o.isSome
set_option maxHeartbeats 4000000 in
theorem rfind_any (sec off : Int) (sv : Value) (L : List Sy) (nm : BA) (w : World) (hS : SymsO w sv L) :
    Calls Tryd.prog 41 #[.string nm, .int .i64 sec, .int .i64 off, sv] w fun e w' => e = .returned (.tuple #[teV (foundP (findP sec off L nm)), .bool (foundB (findP sec off L nm))]) ∧ Below w.heap.size w w' := by
  obtain ⟨sa, sc, rfl⟩ := hS.slice
  have hlm := hS.len
  unfold maxLen at hlm
  unfold findP
  by_cases h0 : nm = ⟨#[]⟩
  · subst h0
    rw [if_pos rfl]
    unfold foundP foundB teV pt0
    simp only [Option.getD_some, Option.isSome_some, if_true]
    clear hS
    go_enter Tryd.func41, Tryd.ntmps41
    go_wp2_with fail
    go_returns
    exact ⟨rfl, below1 w _⟩
  rw [if_neg h0]
  by_cases h1 : nm = dotB
  · subst h1
    rw [if_pos rfl]
    unfold foundP foundB teV
    simp only [Option.getD_some, Option.isSome_some, if_true]
    clear hS
    unfold dotB at *
    go_enter Tryd.func41, Tryd.ntmps41
    go_wp2_with fail
    go_returns
    exact ⟨rfl, below1 w _⟩
  rw [if_neg h1]
  have b0 : (nm.toList == []) = false := by have := str_no (t := ⟨#[]⟩) h0; rw [ByteArray.toList_eq ⟨#[]⟩] at this; exact this
  have b1 : (nm.toList == [46]) = false := by have := str_no (t := ⟨#[46]⟩) h1; rw [ByteArray.toList_eq ⟨#[46]⟩] at this; exact this
  obtain ⟨R, hR⟩ : ∃ R, hitP (lookF nm 0 L) = R := ⟨_, rfl⟩
  rw [hR]
  have HRR := Lib.hid hR
  clear hR
  have HS := Lib.hid (fun W (hb : Below w.heap.size w W) => hS.keep hb)
  clear h0 h1 hS
  go_enter Tryd.func41, Tryd.ntmps41
  go_wp2_with fail
  have hB0 := below1 w (.cells #[.bool false, .int .i64 0, .int .i64 0, .int .i64 0] 88)
  have g2 := heap_alloc_new w (.cells #[.bool false, .int .i64 0, .int .i64 0, .int .i64 0] 88)
  generalize (w.alloc (.cells #[.bool false, .int .i64 0, .int .i64 0, .int .i64 0] 88)) = W0 at *
  obtain ⟨f0, d0, d1, d2, d3⟩ := four g2
  have HB := Lib.hid hB0
  have hz := heap_lt g2
  clear hB0 g2
  go_wp2_with fail
  go_loopw [10] (fun iv wr => ∃ k : Nat, k ≤ L.length ∧ iv = .int .i64 (k : Int) ∧ wr = W0 ∧ Hid (lookF nm k (L.drop k) = lookF nm 0 L)) (fun iv _ => L.length - (intOf iv).toNat)
  case atStart => exact ⟨0, Nat.zero_le _, rfl, rfl, Lib.hid rfl⟩
  case round =>
    obtain ⟨k, hk, rfl, rfl, HK⟩ := hrel
    by_cases hlt : (k : Int) < (L.length : Int)
    · have hlt' : k < L.length := by omega
      obtain ⟨g, off2, cap, y, hy, hv, hg, x0, x1, x2, x3⟩ := (HS.out _ HB.out).at hlt'
      cases hv
      have w9 : IntKind.i64.wrap ((k : Int) + 1) = ((k + 1 : Nat) : Int) := by rw [IntWalk.i64_in _ (by omega)]; omega
      have q0 : (0 : Int) ≤ (k : Int) := by omega
      by_cases hn : y.name = nm
      · have e : (y.name.toList == nm.toList) = true := by rw [hn]; exact str_yes nm
        have HIT := Lib.hid (show R = some (Pt.mk true y.sec y.val (k : Int)) by rw [← HRR.out, lookF_hit hy hn HK.out]; rfl)
        clear hn hy
        obtain ⟨yn, ys, yv, yg⟩ := y
        simp only at x0 x1 x2 x3 e HIT
        go_wp2_with fail
        go_region
        all_goals
          go_wp2_with fail
          refine bodyPost_ret (by simp [results, Tryd.results41, go_sem, d0, d1, d2, d3]; try rfl) rfl ?_
          refine ⟨by rw [HIT.out]; rfl, ?_⟩
          have hw := HB.out
          refine Below.drew ?_
          iterate 4 (refine Below.setCell ?_ (by dsimp only; omega) _)
          exact hw
      · have e := str_no hn
        have HN := Lib.hid (lookF_step hy hn HK.out)
        obtain ⟨yn, ys, yv, yg⟩ := y
        simp only at x0 x1 x2 x3 e
        clear hn hy
        go_wp2_with fail
        go_roundw
        case rel => exact ⟨k + 1, by omega, by first | rfl | rw [← w9], by trivial, HN⟩
        case measure => simp [intOf]; omega
    · have hN := Lib.hid (show R = none by rw [← HRR.out, ← HK.out, List.drop_eq_nil_of_le (by omega)]; rfl)
      go_wp2_with fail
      refine bodyPost_ret (by simp [results, Tryd.results41, go_sem, d0, d1, d2, d3]; try rfl) rfl ?_
      refine ⟨by rw [hN.out]; rfl, ?_⟩
      have hw := HB.out
      iterate 4 (refine Below.setCell ?_ (by dsimp only; omega) _)
      exact hw

/-- a relocation -/
def relF (h : Sh) (far : Bool) (off : Int) (p : Pt) (n : Int) : Fx := if relI h far = 0 then fx0 else if p.num < 0 then fx0 else ⟨false, 0, true, off, relI h far, p.num, n⟩
def relG (h : Sh) (far : Bool) (p : Pt) : Int := if relI h far = 0 then 180 else if p.num < 0 then 180 else 0
theorem kept3 {w w1 : World} {X Y Z : Obj} (hb : Below (((w.alloc X).alloc Y).alloc Z).heap.size (((w.alloc X).alloc Y).alloc Z) w1) :
    w1.heap[w.heap.size]? = some X ∧ w1.heap[w.heap.size + 1]? = some Y ∧ w1.heap[w.heap.size + 2]? = some Z ∧ Below w.heap.size w w1 ∧ w.heap.size + 3 ≤ w1.heap.size := by
  have hz : (((w.alloc X).alloc Y).alloc Z).heap.size = w.heap.size + 3 := by simp
  have h2 : ((w.alloc X).alloc Y).heap.size = w.heap.size + 2 := by simp
  have k := below1 ((w.alloc X).alloc Y) Z
  refine ⟨(hb.block _ (by omega)).trans ((k.block _ (by omega)).trans (heap_new21 w X Y)), (hb.block _ (by omega)).trans ((k.block _ (by omega)).trans (heap_new2 w X Y)), (hb.block _ (by omega)).trans ?_, Below.thn ((below2 w X Y).alloc (by omega) Z) (by omega) hb, by have := hb.size; omega⟩
  have := heap_alloc_new ((w.alloc X).alloc Y) Z
  rwa [h2] at this
set_option maxHeartbeats 4000000 in
theorem rreloc_any (h : Hl) (far : Bool) (off : Int) (p : Pt) (n : Int) (w : World) (hok : holeOk h.k h.s = true) :
    Calls Tryd.prog 42 #[hlV h, .bool far, .int .i64 off, teV p, .int .i64 n] w fun e w' => e = .returned (.tuple #[fxV (relF (shR h.k h.s) far off p n), .int .i64 (relG (shR h.k h.s) far p)]) ∧ Below w.heap.size w w' := by
  have TY := Lib.hid (fun W => rtype_any h far W)
  unfold relF relG
  obtain ⟨k, s, a, pl, m⟩ := h
  unfold hlV typI typE relE at *
  simp only at *
  simp only [hok, if_true] at TY
  generalize relI (shR k s) far = K at *
  obtain ⟨pi, ps, pv, pn⟩ := p
  unfold teV at *
  simp only at *
  clear hok
  by_cases hK : K = 0
  · subst hK
    simp only [if_true] at *
    unfold fxV fx0
    go_enter Tryd.func42, Tryd.ntmps42
    go_wp2_with fail
    refine (TY.out _).mono ?_
    rintro e w1 ⟨rfl, hb1⟩
    obtain ⟨g1, g2, g3, hbw, hz⟩ := kept3 hb1
    obtain ⟨f0, d0, d1, d2, d3, d4, d5, d6⟩ := seven g3
    have HB1 := Lib.hid hbw
    clear hb1 g1 g2 g3 hbw hz
    go_wp2_with fail
    refine bodyPost_ret (by simp [results, Tryd.results42, go_sem, d0, d1, d2, d3, d4, d5, d6]; try rfl) rfl ?_
    refine ⟨rfl, ?_⟩
    have hw := HB1.out
    iterate 7 (refine Below.setCell ?_ (by dsimp only; omega) _)
    exact hw
  · simp only [if_neg hK] at *
    by_cases hn : pn < 0
    · simp only [if_pos hn] at *
      unfold fxV fx0
      go_enter Tryd.func42, Tryd.ntmps42
      go_wp2_with fail
      refine (TY.out _).mono ?_
      rintro e w1 ⟨rfl, hb1⟩
      obtain ⟨g1, g2, g3, hbw, hz⟩ := kept3 hb1
      obtain ⟨_, c0, c1, c2, c3⟩ := four g2
      obtain ⟨f0, d0, d1, d2, d3, d4, d5, d6⟩ := seven g3
      have HB1 := Lib.hid hbw
      clear hb1 g1 g2 g3 hbw hz
      go_wp2_with fail
      refine bodyPost_ret (by simp [results, Tryd.results42, go_sem, d0, d1, d2, d3, d4, d5, d6]; try rfl) rfl ?_
      refine ⟨rfl, ?_⟩
      have hw := HB1.out
      iterate 7 (refine Below.setCell ?_ (by dsimp only; omega) _)
      exact hw
    · simp only [if_neg hn] at *
      unfold fxV
      go_enter Tryd.func42, Tryd.ntmps42
      go_wp2_with fail
      refine (TY.out _).mono ?_
      rintro e w1 ⟨rfl, hb1⟩
      obtain ⟨g1, g2, g3, hbw, hz⟩ := kept3 hb1
      obtain ⟨_, c0, c1, c2, c3⟩ := four g2
      obtain ⟨f0, d0, d1, d2, d3, d4, d5, d6⟩ := seven g3
      have HB1 := Lib.hid hbw
      clear hb1 g1 g2 g3 hbw hz
      go_wp2_with fail
      refine bodyPost_ret (by simp [results, Tryd.results42, go_sem, d0, d1, d2, d3, d4, d5, d6]; try rfl) rfl ?_
      refine ⟨rfl, ?_⟩
      have hw := HB1.out
      iterate 7 (refine Below.setCell ?_ (by dsimp only; omega) _)
      exact hw
end Go.Proofs.YtjkhgljlipljdaaDoor
