/-
  What each call of systemText returns: the form of numbers of a system register. Conditions: what the package-level variables hold (Good), and a number of 15 bits.
-/
import Derived.Test.YtefglodkcddgiaaDoorNamesO
import Derived.StillTailTactics
import Derived.Laws.Rows
namespace Go.Proofs.YtefglodkcddgiaaDoor
open Go.RowKit Go.Shelf

def denC (k : Nat) : Nat := [1, 8, 128, 2048, 16384, 32768].getD k 1
/-- a piece of the form of numbers -/
def pieceB (j N : Nat) : ByteArray := ⟨(letterC j ++ dd (N / denC (4 - j) % 2 ^ bitsC j + leastC j)).toArray⟩
theorem pieces_text (N : Nat) (h : N < 32768) : joinU ([pieceB 0 N, pieceB 1 N, pieceB 2 N, pieceB 3 N, pieceB 4 N].map (·.data.toList)) = sysText N := by
  unfold sysText
  congr 1
  have e0 : N / 16384 % 2 = N / 16384 := by omega
  simp [pieceB, letterC, denC, bitsC, leastC, e0]
theorem join_us : ∀ l : List (List UInt8), Lib.join l [95] = joinU l
  | [] => rfl
  | [p] => by rw [Lib.join_one]; rfl
  | p :: q :: r => by
    have ih := join_us (q :: r)
    unfold Lib.join at ih ⊢
    rw [joinU, ← ih]
    simp [List.intercalate, List.intersperse]
theorem sysText_len {n : Nat} : (sysText n).length ≤ 40 := by
  have a := (dd_len (n / 16384 + 2)).2
  have b := (dd_len (n / 2048 % 8)).2
  have c := (dd_len (n / 128 % 16)).2
  have d := (dd_len (n / 8 % 16)).2
  have e := (dd_len (n % 8)).2
  unfold sysText
  simp only [joinU, List.length_append, List.length_cons]
  omega
theorem set_row {W : World} {H i : Nat} {q : List ByteArray} {t : TypeId} (x : ByteArray) (h : W.heap[H]? = some (.cells (q.map Value.string).toArray t (0, 0))) :
    (W.setCell ⟨H, i, none⟩ (.string x)).heap[H]? = some (.cells ((q.set i x).map Value.string).toArray t (0, 0)) := by
  rw [heap_setCell_same W H i _ t _ h]
  congr 2
  apply Array.ext'
  simp [List.map_set]
theorem five_of {q : List ByteArray} {N : Nat} (hl : q.length = 5) (h : ∀ j, 5 ≤ 5 + j → j < 5 → q[j]? = some (pieceB j N)) : q = [pieceB 0 N, pieceB 1 N, pieceB 2 N, pieceB 3 N, pieceB 4 N] := by
  match q, hl with
  | [a, b, c, d, e], _ =>
    have h0 := h 0 (by omega) (by omega)
    have h1 := h 1 (by omega) (by omega)
    have h2 := h 2 (by omega) (by omega)
    have h3 := h 3 (by omega) (by omega)
    have h4 := h 4 (by omega) (by omega)
    simp at h0 h1 h2 h3 h4
    rw [h0, h1, h2, h3, h4]
theorem fmt_small (v : Int) (w : World) (h0 : 0 ≤ v) (h1 : v < 100) :
    Calls Tryd.prog 37 #[.int .i64 v, .int .i64 10] w fun e w' => e = .returned (.string ⟨(dd v.toNat).toArray⟩) ∧ w' = w := by
  obtain ⟨n, rfl⟩ : ∃ n : Nat, v = (n : Int) := ⟨v.toNat, by omega⟩
  have F := Tryd.strconv_FormatInt_10_small n (by omega) w
  rw [dec_dd (by omega)] at F
  refine F.mono ?_
  rintro e w' ⟨rfl, rfl⟩
  exact ⟨by rw [Int.toNat_natCast], rfl⟩
theorem u_keep {w0 W W' : World} {B H i : Nat} {a u v x : Value} {row : Obj} (hb : Below W.heap.size W W') (hH : H < W.heap.size) (h : (W.cell? ⟨B, 0, none⟩ = some a ∧ W.cell? ⟨B, 1, none⟩ = some u ∧ W.cell? ⟨B, 2, none⟩ = some v ∧ W.cell? ⟨H, i, none⟩ = some x ∧ W.frozen? ⟨H, i, none⟩ = false) ∧ W.heap[H]? = some row ∧ B < W.heap.size ∧ Below H w0 W) :
    (W'.cell? ⟨B, 0, none⟩ = some a ∧ W'.cell? ⟨B, 1, none⟩ = some u ∧ W'.cell? ⟨B, 2, none⟩ = some v ∧ W'.cell? ⟨H, i, none⟩ = some x ∧ W'.frozen? ⟨H, i, none⟩ = false) ∧ W'.heap[H]? = some row ∧ B < W'.heap.size ∧ Below H w0 W' := by
  obtain ⟨⟨a0, a1, a2, a3, a4⟩, b, c, d⟩ := h
  obtain ⟨hc, hf⟩ := bcell hb
  exact ⟨⟨(hc B 0 c).trans a0, (hc B 1 c).trans a1, (hc B 2 c).trans a2, (hc H i hH).trans a3, (hf H i hH).trans a4⟩, (hb.block H hH).trans b, Nat.lt_of_lt_of_le c hb.size, d.trans (hb.mono (Nat.le_of_lt hH))⟩
theorem u_drew {w0 W : World} {B H i : Nat} {a u v x : Value} {row : Obj} (h : (W.cell? ⟨B, 0, none⟩ = some a ∧ W.cell? ⟨B, 1, none⟩ = some u ∧ W.cell? ⟨B, 2, none⟩ = some v ∧ W.cell? ⟨H, i, none⟩ = some x ∧ W.frozen? ⟨H, i, none⟩ = false) ∧ W.heap[H]? = some row ∧ B < W.heap.size ∧ Below H w0 W) :
    (W.drew.cell? ⟨B, 0, none⟩ = some a ∧ W.drew.cell? ⟨B, 1, none⟩ = some u ∧ W.drew.cell? ⟨B, 2, none⟩ = some v ∧ W.drew.cell? ⟨H, i, none⟩ = some x ∧ W.drew.frozen? ⟨H, i, none⟩ = false) ∧ W.drew.heap[H]? = some row ∧ B < W.drew.heap.size ∧ Below H w0 W.drew :=
  u_keep (Below.refl _ _).drew (Array.getElem?_eq_some_iff.1 h.2.1).1 h
theorem u_new {w0 wr : World} {H i : Nat} {x : Value} {row : Obj} (u0 u v : Value) (t : TypeId) (hb : Below H w0 wr) (hx : wr.cell? ⟨H, i, none⟩ = some x) (hf : wr.frozen? ⟨H, i, none⟩ = false) (hr : wr.heap[H]? = some row) :
    ((wr.alloc (.cells #[u0, u, v] t)).cell? ⟨wr.heap.size, 0, none⟩ = some u0 ∧ (wr.alloc (.cells #[u0, u, v] t)).cell? ⟨wr.heap.size, 1, none⟩ = some u ∧ (wr.alloc (.cells #[u0, u, v] t)).cell? ⟨wr.heap.size, 2, none⟩ = some v ∧ (wr.alloc (.cells #[u0, u, v] t)).cell? ⟨H, i, none⟩ = some x ∧ (wr.alloc (.cells #[u0, u, v] t)).frozen? ⟨H, i, none⟩ = false) ∧ (wr.alloc (.cells #[u0, u, v] t)).heap[H]? = some row ∧ wr.heap.size < (wr.alloc (.cells #[u0, u, v] t)).heap.size ∧ Below H w0 (wr.alloc (.cells #[u0, u, v] t)) := by
  have hlt := (Array.getElem?_eq_some_iff.1 hr).1
  have hb1 : Below wr.heap.size wr (wr.alloc (.cells #[u0, u, v] t)) := (Below.refl _ _).alloc (Nat.le_refl _) _
  have hh := World.alloc_heap_new wr (.cells #[u0, u, v] t)
  obtain ⟨hc, hff⟩ := bcell hb1
  refine ⟨⟨?_, ?_, ?_, (hc H i hlt).trans hx, (hff H i hlt).trans hf⟩, (hb1.block H hlt).trans hr, by simp, hb.trans (hb1.mono (Nat.le_of_lt hlt))⟩
  · unfold World.cell?; simp only [hh]; rfl
  · unfold World.cell?; simp only [hh]; rfl
  · unfold World.cell?; simp only [hh]; rfl
set_option maxRecDepth 100000 in
set_option maxHeartbeats 8000000 in
theorem sysText_any (N : Nat) (w : World) (hG : Good w) (h1 : N < 32768) :
    Calls Tryd.prog 35 #[.int .i64 (N : Int)] w fun e w' => e = .returned (.string ⟨(sysText N).toArray⟩) ∧ Below w.heap.size w w' := by
  have HG := Lib.hid hG
  have HN := Lib.hid h1
  clear hG h1
  go_enter Tryd.func35, Tryd.ntmps35
  go_wp2
  have hq0 := World.alloc_heap_new w (.cells #[.string ⟨#[]⟩, .string ⟨#[]⟩, .string ⟨#[]⟩, .string ⟨#[]⟩, .string ⟨#[]⟩] 69)
  have hB0 : Below w.heap.size w (w.alloc (.cells #[.string ⟨#[]⟩, .string ⟨#[]⟩, .string ⟨#[]⟩, .string ⟨#[]⟩, .string ⟨#[]⟩] 69)) := (Below.refl _ _).alloc (Nat.le_refl _) _
  generalize w.alloc (.cells #[.string ⟨#[]⟩, .string ⟨#[]⟩, .string ⟨#[]⟩, .string ⟨#[]⟩, .string ⟨#[]⟩] 69) = w1 at *
  generalize hH : w.heap.size = H at *
  have HH := Lib.hid hH
  clear hH
  have hHlt : H < w1.heap.size := (Array.getElem?_eq_some_iff.1 hq0).1
  go_loopw [0, 4] (fun nv iv wr => ∃ (k : Nat) (m : Int) (q : List ByteArray), k ≤ 5 ∧ iv = .int .i64 (4 - (k : Int)) ∧ nv = .int .i64 m ∧ Hid (m = (N : Int) / (denC k : Nat)) ∧ q.length = 5 ∧ wr.heap[H]? = some (.cells (q.map Value.string).toArray 69 (0, 0)) ∧ Hid (∀ j, 5 ≤ k + j → j < 5 → q[j]? = some (pieceB j N)) ∧ Below H w wr) (fun _ iv _ => (intOf iv + 1).toNat)
  case atStart => exact ⟨0, (N : Int), [⟨#[]⟩, ⟨#[]⟩, ⟨#[]⟩, ⟨#[]⟩, ⟨#[]⟩], by decide, rfl, rfl, Lib.hid (by show (N : Int) = (N : Int) / ((1 : Nat) : Int); omega), rfl, hq0, Lib.hid (fun j h1 h2 => by omega), hB0⟩
  case round =>
    obtain ⟨k, m, q, hk, rfl, rfl, hm, hql, hqr, hqp, hbr⟩ := hrel
    by_cases hlt : k < 5
    · rcases (show k = 0 ∨ k = 1 ∨ k = 2 ∨ k = 3 ∨ k = 4 by omega) with rfl | rfl | rfl | rfl | rfl
      · have hGr := HG.out.keep (B := H) (by rw [← HH.out]; exact HG.out.size) hbr
        have P0 := hGr.parts 12 _ rfl
        have P1 := hGr.parts 13 _ rfl
        have P2 := hGr.parts 14 _ rfl
        have hz := hGr.size
        have hmv : m = (N : Int) / 1 := hm.out
        have hm0 : 0 ≤ m := by omega
        have hmm : 0 ≤ m % 8 := Int.emod_nonneg m (by decide)
        have hmm2 : m % 8 < 8 := Int.emod_lt_of_pos m (by decide)
        have HNX := Lib.hid (show m / 8 = (N : Int) / ((8 : Nat) : Int) by omega)
        have HPV := Lib.hid (show (m % 8).toNat = N / 1 % 8 + 0 by omega)
        obtain ⟨old, hold⟩ : ∃ old, q[4]? = some old := ⟨_, List.getElem?_eq_getElem (by omega)⟩
        have c4 : wr.cell? ⟨H, 4, none⟩ = some (.string old) := by unfold World.cell?; simp only [hqr]; simp [hold]
        have f4 : wr.frozen? ⟨H, 4, none⟩ = false := by unfold World.frozen?; simp only [hqr]; rfl
        obtain ⟨D, hD⟩ : ∃ D, (⟨(dd (m % 8).toNat).toArray⟩ : ByteArray) = D := ⟨_, rfl⟩
        have hDz : ¬ 9223372036854775807 < D.size := by have h2 := (dd_len (m % 8).toNat).2; have h3 : D.size = (dd (m % 8).toNat).length := (by rw [← hD]; rfl); omega
        have FI := Lib.hid (fun w => fmt_small (m % 8) w (by omega) (by omega))
        rw [hD] at FI
        have HD := Lib.hid hD
        clear hD
        have e0 : IntKind.i64.wrap (m % 8) = m % 8 := IntWalk.i64_in _ (by omega)
        have e2 : IntKind.i64.wrap 8 = 8 := by decide
        have e1 : Int.tmod m 8 = m % 8 := Int.tmod_eq_emod_of_nonneg hm0
        have hHr : H < wr.heap.size := (Array.getElem?_eq_some_iff.1 hqr).1
        clear hmv hold
        go_wp2
        have hS0 := u_new (w0 := w) (H := H) (i := 4) (.string ⟨#[]⟩) (.int .i64 0) (.int .i64 3) 65 hbr c4 f4 hqr
        generalize hX : wr.alloc (.cells #[.string ⟨#[]⟩, .int .i64 0, .int .i64 3] 65) = X at *
        generalize hB : wr.heap.size = B at *
        obtain ⟨⟨s0, s1, s2, s3, s4⟩, s5, s6, s7⟩ := hS0
        have S5 := Lib.hid s5
        clear s5
        refine wp_region_still_tail 14 (by kernel_rfl) (by kernel_rfl) ?_
        simp only [List.take_succ_cons, List.take_zero, List.drop_succ_cons, List.drop_zero]
        repeat still_step
        still_call (FI.out _)
        repeat still_step
        refine wpStill_nil ?_
        go_wp2
        go_roundw
        case rel =>
          refine ⟨1, m / 8, q.set 4 ((⟨#[]⟩ : ByteArray) ++ D), by decide, rfl, rfl, HNX, by rw [List.length_set]; exact hql, (show (X.setCell ⟨H, 4, none⟩ (.string ((⟨#[]⟩ : ByteArray) ++ D))).drew.heap[H]? = _ from set_row _ S5.out), Lib.hid (fun j h1 h2 => ?_), (s7.setCell (p := ⟨H, 4, none⟩) (Nat.le_refl H) _).drew⟩
          by_cases hj : j = 4
          · subst hj
            rw [List.getElem?_set_self (by omega)]
            refine congrArg some (bytes_eq ?_)
            rw [app_data, ← HD.out]
            show [] ++ dd (m % 8).toNat = _
            rw [HPV.out]; rfl
          · rw [List.getElem?_set_ne (by omega)]
            exact hqp.out j (by omega) h2
        case measure => simp [intOf]
      · have hGr := HG.out.keep (B := H) (by rw [← HH.out]; exact HG.out.size) hbr
        have P0 := hGr.parts 9 _ rfl
        have P1 := hGr.parts 10 _ rfl
        have P2 := hGr.parts 11 _ rfl
        have hz := hGr.size
        have hmv : m = (N : Int) / 8 := hm.out
        have hm0 : 0 ≤ m := by omega
        have hmm : 0 ≤ m % 16 := Int.emod_nonneg m (by decide)
        have hmm2 : m % 16 < 16 := Int.emod_lt_of_pos m (by decide)
        have HNX := Lib.hid (show m / 16 = (N : Int) / ((128 : Nat) : Int) by omega)
        have HPV := Lib.hid (show (m % 16).toNat = N / 8 % 16 + 0 by omega)
        obtain ⟨old, hold⟩ : ∃ old, q[3]? = some old := ⟨_, List.getElem?_eq_getElem (by omega)⟩
        have c4 : wr.cell? ⟨H, 3, none⟩ = some (.string old) := by unfold World.cell?; simp only [hqr]; simp [hold]
        have f4 : wr.frozen? ⟨H, 3, none⟩ = false := by unfold World.frozen?; simp only [hqr]; rfl
        obtain ⟨D, hD⟩ : ∃ D, (⟨(dd (m % 16).toNat).toArray⟩ : ByteArray) = D := ⟨_, rfl⟩
        have hDz : ¬ 9223372036854775807 < 1 + D.size := by have h2 := (dd_len (m % 16).toNat).2; have h3 : D.size = (dd (m % 16).toNat).length := (by rw [← hD]; rfl); omega
        have FI := Lib.hid (fun w => fmt_small (m % 16) w (by omega) (by omega))
        rw [hD] at FI
        have HD := Lib.hid hD
        clear hD
        have e0 : IntKind.i64.wrap (m % 16) = m % 16 := IntWalk.i64_in _ (by omega)
        have e2 : IntKind.i64.wrap 16 = 16 := by decide
        have e1 : Int.tmod m 16 = m % 16 := Int.tmod_eq_emod_of_nonneg hm0
        have hHr : H < wr.heap.size := (Array.getElem?_eq_some_iff.1 hqr).1
        clear hmv hold
        go_wp2
        have hS0 := u_new (w0 := w) (H := H) (i := 3) (.string ⟨#[99]⟩) (.int .i64 0) (.int .i64 4) 65 hbr c4 f4 hqr
        generalize hX : wr.alloc (.cells #[.string ⟨#[99]⟩, .int .i64 0, .int .i64 4] 65) = X at *
        generalize hB : wr.heap.size = B at *
        obtain ⟨⟨s0, s1, s2, s3, s4⟩, s5, s6, s7⟩ := hS0
        have S5 := Lib.hid s5
        clear s5
        refine wp_region_still_tail 14 (by kernel_rfl) (by kernel_rfl) ?_
        simp only [List.take_succ_cons, List.take_zero, List.drop_succ_cons, List.drop_zero]
        repeat still_step
        still_call (FI.out _)
        repeat still_step
        refine wpStill_nil ?_
        go_wp2
        go_roundw
        case rel =>
          refine ⟨2, m / 16, q.set 3 ((⟨#[99]⟩ : ByteArray) ++ D), by decide, rfl, rfl, HNX, by rw [List.length_set]; exact hql, (show (X.setCell ⟨H, 3, none⟩ (.string ((⟨#[99]⟩ : ByteArray) ++ D))).drew.heap[H]? = _ from set_row _ S5.out), Lib.hid (fun j h1 h2 => ?_), (s7.setCell (p := ⟨H, 3, none⟩) (Nat.le_refl H) _).drew⟩
          by_cases hj : j = 3
          · subst hj
            rw [List.getElem?_set_self (by omega)]
            refine congrArg some (bytes_eq ?_)
            rw [app_data, ← HD.out]
            show [99] ++ dd (m % 16).toNat = _
            rw [HPV.out]; rfl
          · rw [List.getElem?_set_ne (by omega)]
            exact hqp.out j (by omega) h2
        case measure => simp [intOf]
      · have hGr := HG.out.keep (B := H) (by rw [← HH.out]; exact HG.out.size) hbr
        have P0 := hGr.parts 6 _ rfl
        have P1 := hGr.parts 7 _ rfl
        have P2 := hGr.parts 8 _ rfl
        have hz := hGr.size
        have hmv : m = (N : Int) / 128 := hm.out
        have hm0 : 0 ≤ m := by omega
        have hmm : 0 ≤ m % 16 := Int.emod_nonneg m (by decide)
        have hmm2 : m % 16 < 16 := Int.emod_lt_of_pos m (by decide)
        have HNX := Lib.hid (show m / 16 = (N : Int) / ((2048 : Nat) : Int) by omega)
        have HPV := Lib.hid (show (m % 16).toNat = N / 128 % 16 + 0 by omega)
        obtain ⟨old, hold⟩ : ∃ old, q[2]? = some old := ⟨_, List.getElem?_eq_getElem (by omega)⟩
        have c4 : wr.cell? ⟨H, 2, none⟩ = some (.string old) := by unfold World.cell?; simp only [hqr]; simp [hold]
        have f4 : wr.frozen? ⟨H, 2, none⟩ = false := by unfold World.frozen?; simp only [hqr]; rfl
        obtain ⟨D, hD⟩ : ∃ D, (⟨(dd (m % 16).toNat).toArray⟩ : ByteArray) = D := ⟨_, rfl⟩
        have hDz : ¬ 9223372036854775807 < 1 + D.size := by have h2 := (dd_len (m % 16).toNat).2; have h3 : D.size = (dd (m % 16).toNat).length := (by rw [← hD]; rfl); omega
        have FI := Lib.hid (fun w => fmt_small (m % 16) w (by omega) (by omega))
        rw [hD] at FI
        have HD := Lib.hid hD
        clear hD
        have e0 : IntKind.i64.wrap (m % 16) = m % 16 := IntWalk.i64_in _ (by omega)
        have e2 : IntKind.i64.wrap 16 = 16 := by decide
        have e1 : Int.tmod m 16 = m % 16 := Int.tmod_eq_emod_of_nonneg hm0
        have hHr : H < wr.heap.size := (Array.getElem?_eq_some_iff.1 hqr).1
        clear hmv hold
        go_wp2
        have hS0 := u_new (w0 := w) (H := H) (i := 2) (.string ⟨#[99]⟩) (.int .i64 0) (.int .i64 4) 65 hbr c4 f4 hqr
        generalize hX : wr.alloc (.cells #[.string ⟨#[99]⟩, .int .i64 0, .int .i64 4] 65) = X at *
        generalize hB : wr.heap.size = B at *
        obtain ⟨⟨s0, s1, s2, s3, s4⟩, s5, s6, s7⟩ := hS0
        have S5 := Lib.hid s5
        clear s5
        refine wp_region_still_tail 14 (by kernel_rfl) (by kernel_rfl) ?_
        simp only [List.take_succ_cons, List.take_zero, List.drop_succ_cons, List.drop_zero]
        repeat still_step
        still_call (FI.out _)
        repeat still_step
        refine wpStill_nil ?_
        go_wp2
        go_roundw
        case rel =>
          refine ⟨3, m / 16, q.set 2 ((⟨#[99]⟩ : ByteArray) ++ D), by decide, rfl, rfl, HNX, by rw [List.length_set]; exact hql, (show (X.setCell ⟨H, 2, none⟩ (.string ((⟨#[99]⟩ : ByteArray) ++ D))).drew.heap[H]? = _ from set_row _ S5.out), Lib.hid (fun j h1 h2 => ?_), (s7.setCell (p := ⟨H, 2, none⟩) (Nat.le_refl H) _).drew⟩
          by_cases hj : j = 2
          · subst hj
            rw [List.getElem?_set_self (by omega)]
            refine congrArg some (bytes_eq ?_)
            rw [app_data, ← HD.out]
            show [99] ++ dd (m % 16).toNat = _
            rw [HPV.out]; rfl
          · rw [List.getElem?_set_ne (by omega)]
            exact hqp.out j (by omega) h2
        case measure => simp [intOf]
      · have hGr := HG.out.keep (B := H) (by rw [← HH.out]; exact HG.out.size) hbr
        have P0 := hGr.parts 3 _ rfl
        have P1 := hGr.parts 4 _ rfl
        have P2 := hGr.parts 5 _ rfl
        have hz := hGr.size
        have hmv : m = (N : Int) / 2048 := hm.out
        have hm0 : 0 ≤ m := by omega
        have hmm : 0 ≤ m % 8 := Int.emod_nonneg m (by decide)
        have hmm2 : m % 8 < 8 := Int.emod_lt_of_pos m (by decide)
        have HNX := Lib.hid (show m / 8 = (N : Int) / ((16384 : Nat) : Int) by omega)
        have HPV := Lib.hid (show (m % 8).toNat = N / 2048 % 8 + 0 by omega)
        obtain ⟨old, hold⟩ : ∃ old, q[1]? = some old := ⟨_, List.getElem?_eq_getElem (by omega)⟩
        have c4 : wr.cell? ⟨H, 1, none⟩ = some (.string old) := by unfold World.cell?; simp only [hqr]; simp [hold]
        have f4 : wr.frozen? ⟨H, 1, none⟩ = false := by unfold World.frozen?; simp only [hqr]; rfl
        obtain ⟨D, hD⟩ : ∃ D, (⟨(dd (m % 8).toNat).toArray⟩ : ByteArray) = D := ⟨_, rfl⟩
        have hDz : ¬ 9223372036854775807 < D.size := by have h2 := (dd_len (m % 8).toNat).2; have h3 : D.size = (dd (m % 8).toNat).length := (by rw [← hD]; rfl); omega
        have FI := Lib.hid (fun w => fmt_small (m % 8) w (by omega) (by omega))
        rw [hD] at FI
        have HD := Lib.hid hD
        clear hD
        have e0 : IntKind.i64.wrap (m % 8) = m % 8 := IntWalk.i64_in _ (by omega)
        have e2 : IntKind.i64.wrap 8 = 8 := by decide
        have e1 : Int.tmod m 8 = m % 8 := Int.tmod_eq_emod_of_nonneg hm0
        have hHr : H < wr.heap.size := (Array.getElem?_eq_some_iff.1 hqr).1
        clear hmv hold
        go_wp2
        have hS0 := u_new (w0 := w) (H := H) (i := 1) (.string ⟨#[]⟩) (.int .i64 0) (.int .i64 3) 65 hbr c4 f4 hqr
        generalize hX : wr.alloc (.cells #[.string ⟨#[]⟩, .int .i64 0, .int .i64 3] 65) = X at *
        generalize hB : wr.heap.size = B at *
        obtain ⟨⟨s0, s1, s2, s3, s4⟩, s5, s6, s7⟩ := hS0
        have S5 := Lib.hid s5
        clear s5
        refine wp_region_still_tail 14 (by kernel_rfl) (by kernel_rfl) ?_
        simp only [List.take_succ_cons, List.take_zero, List.drop_succ_cons, List.drop_zero]
        repeat still_step
        still_call (FI.out _)
        repeat still_step
        refine wpStill_nil ?_
        go_wp2
        go_roundw
        case rel =>
          refine ⟨4, m / 8, q.set 1 ((⟨#[]⟩ : ByteArray) ++ D), by decide, rfl, rfl, HNX, by rw [List.length_set]; exact hql, (show (X.setCell ⟨H, 1, none⟩ (.string ((⟨#[]⟩ : ByteArray) ++ D))).drew.heap[H]? = _ from set_row _ S5.out), Lib.hid (fun j h1 h2 => ?_), (s7.setCell (p := ⟨H, 1, none⟩) (Nat.le_refl H) _).drew⟩
          by_cases hj : j = 1
          · subst hj
            rw [List.getElem?_set_self (by omega)]
            refine congrArg some (bytes_eq ?_)
            rw [app_data, ← HD.out]
            show [] ++ dd (m % 8).toNat = _
            rw [HPV.out]; rfl
          · rw [List.getElem?_set_ne (by omega)]
            exact hqp.out j (by omega) h2
        case measure => simp [intOf]
      · have hGr := HG.out.keep (B := H) (by rw [← HH.out]; exact HG.out.size) hbr
        have P0 := hGr.parts 0 _ rfl
        have P1 := hGr.parts 1 _ rfl
        have P2 := hGr.parts 2 _ rfl
        have hz := hGr.size
        have hmv : m = (N : Int) / 16384 := hm.out
        have hm0 : 0 ≤ m := by omega
        have hmm : 0 ≤ m % 2 := Int.emod_nonneg m (by decide)
        have hmm2 : m % 2 < 2 := Int.emod_lt_of_pos m (by decide)
        have HNX := Lib.hid (show m / 2 = (N : Int) / ((32768 : Nat) : Int) by omega)
        have HPV := Lib.hid (show (m % 2 + 2).toNat = N / 16384 % 2 + 2 by omega)
        obtain ⟨old, hold⟩ : ∃ old, q[0]? = some old := ⟨_, List.getElem?_eq_getElem (by omega)⟩
        have c4 : wr.cell? ⟨H, 0, none⟩ = some (.string old) := by unfold World.cell?; simp only [hqr]; simp [hold]
        have f4 : wr.frozen? ⟨H, 0, none⟩ = false := by unfold World.frozen?; simp only [hqr]; rfl
        obtain ⟨D, hD⟩ : ∃ D, (⟨(dd (m % 2 + 2).toNat).toArray⟩ : ByteArray) = D := ⟨_, rfl⟩
        have hDz : ¬ 9223372036854775807 < 1 + D.size := by have h2 := (dd_len (m % 2 + 2).toNat).2; have h3 : D.size = (dd (m % 2 + 2).toNat).length := (by rw [← hD]; rfl); omega
        have FI := Lib.hid (fun w => fmt_small (m % 2 + 2) w (by omega) (by omega))
        rw [hD] at FI
        have HD := Lib.hid hD
        clear hD
        have e0 : IntKind.i64.wrap (m % 2) = m % 2 := IntWalk.i64_in _ (by omega)
        have e3 : IntKind.i64.wrap (m % 2 + 2) = m % 2 + 2 := IntWalk.i64_in _ (by omega)
        have e2 : IntKind.i64.wrap 2 = 2 := by decide
        have e1 : Int.tmod m 2 = m % 2 := Int.tmod_eq_emod_of_nonneg hm0
        have hHr : H < wr.heap.size := (Array.getElem?_eq_some_iff.1 hqr).1
        clear hmv hold
        go_wp2
        have hS0 := u_new (w0 := w) (H := H) (i := 0) (.string ⟨#[115]⟩) (.int .i64 2) (.int .i64 1) 65 hbr c4 f4 hqr
        generalize hX : wr.alloc (.cells #[.string ⟨#[115]⟩, .int .i64 2, .int .i64 1] 65) = X at *
        generalize hB : wr.heap.size = B at *
        obtain ⟨⟨s0, s1, s2, s3, s4⟩, s5, s6, s7⟩ := hS0
        have S5 := Lib.hid s5
        clear s5
        refine wp_region_still_tail 14 (by kernel_rfl) (by kernel_rfl) ?_
        simp only [List.take_succ_cons, List.take_zero, List.drop_succ_cons, List.drop_zero]
        repeat still_step
        still_call (FI.out _)
        repeat still_step
        refine wpStill_nil ?_
        go_wp2
        go_roundw
        case rel =>
          refine ⟨5, m / 2, q.set 0 ((⟨#[115]⟩ : ByteArray) ++ D), by decide, rfl, rfl, HNX, by rw [List.length_set]; exact hql, (show (X.setCell ⟨H, 0, none⟩ (.string ((⟨#[115]⟩ : ByteArray) ++ D))).drew.heap[H]? = _ from set_row _ S5.out), Lib.hid (fun j h1 h2 => ?_), (s7.setCell (p := ⟨H, 0, none⟩) (Nat.le_refl H) _).drew⟩
          by_cases hj : j = 0
          · subst hj
            rw [List.getElem?_set_self (by omega)]
            refine congrArg some (bytes_eq ?_)
            rw [app_data, ← HD.out]
            show [115] ++ dd (m % 2 + 2).toNat = _
            rw [HPV.out]; rfl
          · rw [List.getElem?_set_ne (by omega)]
            exact hqp.out j (by omega) h2
        case measure => simp [intOf]
    · have hk5 : k = 5 := by omega
      subst hk5
      have h5 := five_of hql hqp.out
      have hHr : H < wr.heap.size := (Array.getElem?_eq_some_iff.1 hqr).1
      have J := Tryd.strings_Join H 0 5 q ⟨#[95]⟩ wr (fun j x hj => by unfold World.cell?; simp only [hqr]; simp [hj]) hHr (by omega) (by omega) (by
        rw [show (⟨#[95]⟩ : ByteArray).data.toList = [95] from rfl, join_us, h5, pieces_text N HN.out]; have := @sysText_len N; omega)
      rw [show (⟨#[95]⟩ : ByteArray).data.toList = [95] from rfl, join_us, hql] at J
      rw [h5, pieces_text N HN.out] at J
      have JH := Lib.hid J
      clear J h5 hqr hql
      go_wp2_with fail
      refine JH.out.mono ?_
      rintro e w3 ⟨rfl, hb⟩
      go_wp2_with fail
      go_ret
      exact ⟨rfl, by rw [HH.out]; exact hbr.trans (hb.mono (Nat.le_of_lt hHr))⟩
end Go.Proofs.YtefglodkcddgiaaDoor
