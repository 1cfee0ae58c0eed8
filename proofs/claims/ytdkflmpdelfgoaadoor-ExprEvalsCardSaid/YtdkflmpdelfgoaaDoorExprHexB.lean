/-
  FormatUint at base 16: what each call returns. Conditions: a number of 16 digits, the cell of the table that is read.
-/
import Derived.Test.YtdkflmpdelfgoaaDoorExprHexA
import Derived.Test.YtdkflmpdelfgoaaDoorExprP
namespace Go.Proofs.YtdkflmpdelfgoaaDoor
open Go.RowKit Go.Shelf
set_option linter.unusedVariables false
set_option linter.unusedSimpArgs false
attribute [local go_sem] Oper.semAt_some

def byV (b : UInt8) : Value := .int .u8 (b.toNat : Int)
def fbC (u i : Nat) : Array Value := ((List.replicate (65 - i) (0 : UInt8) ++ hexL u i).map byV).toArray
theorem fb_zero (u : Nat) : Tryd.zeroCells136 = fbC u 0 := by rfl
theorem fb_set (u i : Nat) (hi : i < 65) : (fbC u i).setIfInBounds (64 - i) (byV (hexC (u / 16 ^ i % 16))) = fbC u (i + 1) := by
  unfold fbC
  rw [List.setIfInBounds_toArray]
  congr 1
  rw [show 65 - i = (64 - i) + 1 by omega, show 65 - (i + 1) = 64 - i by omega, List.replicate_succ', List.append_assoc, List.map_append, List.map_append, List.set_append_right _ _ (by simp)]
  simp [hexL]
theorem and15 (m : Nat) (h : m < 18446744073709551616) : bits BinOp.and IntKind.u64 (m : Int) 15 = ((m % 16 : Nat) : Int) := by
  rw [show (15 : Int) = ((15 : Nat) : Int) from rfl, bits_and_u64_nat m 15 h (by decide)]
  congr 1
  exact Nat.and_two_pow_sub_one_eq_mod m 4
theorem sxt_ge (u i : Nat) (h : 1152921504606846976 ≤ u) (hi : i < 15) : 16 ≤ sxt u i := by
  unfold sxt
  rw [Nat.le_div_iff_mul_le (Nat.pow_pos (by decide)), Nat.mul_comm, ← Nat.pow_succ]
  exact Nat.le_trans (Nat.pow_le_pow_right (by decide) (show i + 1 ≤ 15 by omega)) h
theorem sxt_15 (u : Nat) (h : u < 18446744073709551616) : sxt u 15 < 16 := by
  unfold sxt
  rw [Nat.div_lt_iff_lt_mul (Nat.pow_pos (by decide))]
  exact h
theorem fb_cell {W : World} {B u i : Nat} (h : W.heap[B]? = some (.cells (fbC u i) 136 (0, 0))) (j : Nat) (hj : j < 65) (hi : i ≤ 65) : ∃ v, W.cell? ⟨B, j, none⟩ = some v := by
  rw [Lib.cell_of_heap h]
  have hs : (fbC u i).size = 65 := by unfold fbC; simp [hexL_len]; omega
  exact ⟨(fbC u i)[j]'(by omega), by simp [hs, hj]⟩
theorem digit36 : ∀ (r : Fin 16) (h : r.val < (⟨#[48, 49, 50, 51, 52, 53, 54, 55, 56, 57, 97, 98, 99, 100, 101, 102, 103, 104, 105, 106, 107, 108, 109, 110, 111, 112, 113, 114, 115, 116, 117, 118, 119, 120, 121, 122]⟩ : ByteArray).size), (⟨#[48, 49, 50, 51, 52, 53, 54, 55, 56, 57, 97, 98, 99, 100, 101, 102, 103, 104, 105, 106, 107, 108, 109, 110, 111, 112, 113, 114, 115, 116, 117, 118, 119, 120, 121, 122]⟩ : ByteArray)[r.val]'h = hexC r.val := by decide
set_option maxRecDepth 100000 in
set_option maxHeartbeats 4000000 in
theorem fb16_any (u : Nat) (h1 : 1152921504606846976 ≤ u) (h2 : u < 18446744073709551616) (w : World) (hb : BruAt w) :
    Calls Tryd.prog 86 #[.slice none 0 0, .int .u64 (u : Int), .int .i64 16, .bool false, .bool false] w fun e w' => e = .returned (.tuple #[.slice none 0 0, .string (hexN u)]) ∧ Below w.heap.size w w' := by
  have P2 := Lib.hid (fun V => pow2_16 V)
  have TZ := Lib.hid (fun V (h : Below w.heap.size w V) => tz_16 V (cell_kept h hb))
  have HU1 := Lib.hid h1
  have HU2 := Lib.hid h2
  have HC0 := Lib.hid (show (w.alloc (.cells Tryd.zeroCells136 136)).heap[w.heap.size]? = some (.cells (fbC u 0) 136 (0, 0)) by rw [heap_alloc_new, fb_zero u])
  have HB0 := Lib.hid (below1 w (.cells Tryd.zeroCells136 136))
  clear h1 h2 hb
  go_enter Tryd.func86, Tryd.ntmps86
  go_upto_region 4 with fail
  generalize w.alloc (.cells Tryd.zeroCells136 136) = W0 at *
  go_wp2_with fail
  refine (P2.out _).mono ?_
  rintro e w1 ⟨rfl, rfl⟩
  go_wp2_with fail
  refine (TZ.out _ HB0.out).mono ?_
  rintro e w1 ⟨rfl, rfl⟩
  go_wp2_with fail
  go_loopw [1, 13] (fun uv iv wr => ∃ i : Nat, i ≤ 15 ∧ uv = .int .u64 (sxt u i : Int) ∧ iv = .int .i64 ((65 - i : Nat) : Int) ∧ Hid (wr.heap[w.heap.size]? = some (.cells (fbC u i) 136 (0, 0))) ∧ Hid (Below w.heap.size w wr)) (fun uv iv _ => (intOf iv).toNat)
  case atStart => exact ⟨0, Nat.zero_le _, by first | rfl | (unfold sxt; simp), rfl, HC0, HB0⟩
  case round =>
    obtain ⟨i, hi, rfl, rfl, hc, hbl⟩ := hrel
    obtain ⟨p, hp⟩ : ∃ p, 65 - i = p + 1 := ⟨64 - i, by omega⟩
    obtain ⟨c0, hc0⟩ := fb_cell hc.out p (by omega) (by omega)
    have fz := fz_of hc.out
    have p0 : (0 : Int) ≤ (p : Int) := by omega
    have p1 : (p : Int) < 65 := by omega
    have wp : IntKind.i64.wrap (p : Int) = (p : Int) := by rw [IntWalk.i64_in _ (by omega)]
    have wp1 : IntKind.i64.wrap ((p : Int) + 1 - 1) = (p : Int) := by rw [IntWalk.i64_in _ (by omega)]; omega
    have HNX := Lib.hid (fb_set u i (by omega))
    rw [show 64 - i = p by omega, show u / 16 ^ i = sxt u i from rfl] at HNX
    have hlt := sxt_lt u i HU2.out
    have hq := sxt_succ u i
    obtain ⟨m, hm⟩ : ∃ m, sxt u i = m := ⟨_, rfl⟩
    have HM := Lib.hid hm
    obtain ⟨r, hr⟩ : ∃ r, m % 16 = r := ⟨_, rfl⟩
    rw [hm, hr] at HNX
    rw [hm] at hlt hq ⊢
    rw [hp]
    have ha := and15 m hlt
    rw [hr] at ha
    have hr16 : r < 16 := by omega
    by_cases h15 : i < 15
    · have hge : (16 : Int) ≤ (m : Int) := by have := sxt_ge u i HU1.out h15; omega
      obtain ⟨q, hqq⟩ : ∃ q, sxt u (i + 1) = q := ⟨_, rfl⟩
      rw [hqq] at hq
      have e3 : (m : Int) / 16 = (q : Int) := by omega
      have e4 : IntKind.u64.wrap (q : Int) = (q : Int) := by rw [IntKind.wrap_u64]; omega
      have HQ := Lib.hid hqq
      clear hq hqq hm
      have HDG := Lib.hid (fun h => digit36 ⟨r, hr16⟩ h)
      go_wp2_with fail
      go_roundw
      case rel =>
        refine ⟨i + 1, by omega, by rw [HQ.out], by (congr 1; omega), Lib.hid ?_, Lib.hid (hbl.out.setCell (p := ⟨w.heap.size, p, none⟩) (Nat.le_refl _) _)⟩
        have hh := heap_setCell_same wr w.heap.size p (fbC u i) 136 (byV (hexC r)) hc.out
        rw [HNX.out] at hh
        rw [HDG.out]
        exact hh
      case measure => simp [intOf]
    · obtain rfl : i = 15 := by omega
      have hm15 := sxt_15 u HU2.out
      rw [HM.out] at hm15
      obtain rfl : m = r := by omega
      have hge : ¬ ((16 : Int) ≤ (m : Int)) := by omega
      have HDG := Lib.hid (fun h => digit36 ⟨m, hr16⟩ h)
      obtain rfl : p = 49 := by omega
      have hm36 : (m : Int) < 36 := by omega
      have hm0 : (0 : Int) ≤ (m : Int) := by omega
      clear hr hlt hq ha HM hp hi h15 hm15 hm
      go_upto_region 30 with fail
      have hh := heap_setCell_same wr w.heap.size 49 (fbC u 15) 136 (byV (hexC m)) hc.out
      rw [HNX.out] at hh
      have HBL := Lib.hid (hbl.out.setCell (p := ⟨w.heap.size, 49, none⟩) (Nat.le_refl _) (byV (hexC m)))
      simp only [HDG.out]
      unfold byV at hh HBL
      generalize wr.setCell ⟨w.heap.size, 49, none⟩ (.int .u8 ((hexC m).toNat : Int)) = V at *
      have hcv : (convert 70 9 (.slice (some ⟨w.heap.size, 49, none⟩) 16 16)).run Tryd.prog V = .ok (.string (hexN u)) V := by
        have h := run_convert_bytes_back (P := Tryd.prog) V 70 9 5 ⟨w.heap.size, 49, none⟩ 16 (hexL u 16) Tryd.underlying70 Tryd.underlying5 Tryd.underlying9 (fun j hj => by
          rw [hexL_len] at hj
          rw [Lib.add_plain, Lib.cell_of_heap hh]
          unfold fbC
          rw [List.getElem?_toArray, List.getElem?_map, List.getElem?_append_right (by simp)]
          simp [List.length_replicate, byV, hexL_len, hj])
        rw [hexL_len] at h
        exact h
      clear hh
      go_wp2_with fail
      go_ret2
      exact ⟨rfl, HBL.out⟩
end Go.Proofs.YtdkflmpdelfgoaaDoor
namespace Go.Proofs.YtdkflmpdelfgoaaDoor
open Go.RowKit Go.Shelf
set_option linter.unusedVariables false
set_option linter.unusedSimpArgs false
attribute [local go_sem] Oper.semAt_some

set_option maxRecDepth 100000 in
set_option maxHeartbeats 2000000 in
theorem ifmt16_any (u : Nat) (h1 : 1152921504606846976 ≤ u) (h2 : u < 18446744073709551616) (w : World) (hb : BruAt w) :
    Calls Tryd.prog 82 #[.int .u64 (u : Int), .int .i64 16] w fun e w' => e = .returned (.string (hexN u)) ∧ Below w.heap.size w w' := by
  have FB := Lib.hid (fb16_any u h1 h2 w hb)
  clear h1 h2 hb
  go_enter Tryd.func82, Tryd.ntmps82
  go_wp2_with fail
  refine FB.out.mono ?_
  rintro e w1 ⟨rfl, hbw⟩
  have HB := Lib.hid hbw
  clear hbw
  go_wp2_with fail
  go_ret
  exact ⟨rfl, HB.out⟩
set_option maxRecDepth 100000 in
set_option maxHeartbeats 2000000 in
theorem fmt16_any (u : Nat) (h1 : 1152921504606846976 ≤ u) (h2 : u < 18446744073709551616) (w : World) (hb : BruAt w) :
    Calls Tryd.prog 76 #[.int .u64 (u : Int), .int .i64 16] w fun e w' => e = .returned (.string (hexN u)) ∧ Below w.heap.size w w' := by
  have FB := Lib.hid (ifmt16_any u h1 h2 w hb)
  clear h1 h2 hb
  go_enter Tryd.func76, Tryd.ntmps76
  go_wp2_with fail
  refine FB.out.mono ?_
  rintro e w1 ⟨rfl, hbw⟩
  have HB := Lib.hid hbw
  clear hbw
  go_wp2_with fail
  go_ret
  exact ⟨rfl, HB.out⟩
/-- a leaf's text -/
def leafB (x : Tm) : BA := if x.k = 2 then x.s else saidB x.n
set_option maxRecDepth 100000 in
set_option maxHeartbeats 4000000 in
theorem lftext_any (x : Tm) (w : World) (hG : GoodE w) (hb : BruAt w) (hn : -9223372036854775808 ≤ x.n ∧ x.n ≤ 9223372036854775807) :
    Calls Tryd.prog 60 #[tmV x] w fun e w' => e = .returned (.string (leafB x)) ∧ Below w.heap.size w w' := by
  obtain ⟨k, n, s⟩ := x
  unfold tmV leafB
  simp only at hn ⊢
  have HB0 := Lib.hid (below1 w (.cells #[.int .i64 k, .int .i64 n, .string s] 57))
  have GD := Lib.hid (fun V (h : Below w.heap.size w V) => hG.thn h)
  have BD := Lib.hid (fun V (h : Below w.heap.size w V) => (cell_kept h hb : BruAt V))
  clear hG hb
  by_cases h2 : k = 2
  · subst h2
    rw [if_pos rfl]
    go_enter Tryd.func60, Tryd.ntmps60
    go_wp2_with fail
    go_ret
    exact ⟨rfl, HB0.out⟩
  · rw [if_neg h2]
    have h2' : (k == 2) = false := by rw [beq_eq_false_iff_ne]; exact h2
    by_cases h0 : n < 0
    · obtain ⟨u, hu⟩ : ∃ u : Nat, n % 18446744073709551616 = (u : Int) := ⟨(n % 18446744073709551616).toNat, by omega⟩
      have FM := Lib.hid (fun V hV => fmt16_any u (by omega) (by omega) V (BD.out V hV))
      have HR := Lib.hid (show (⟨#[48, 120]⟩ ++ hexN u : BA) = saidB n by unfold saidB; rw [if_neg (by omega), hu]; rfl)
      have hcv : IntKind.u64.wrap n = (u : Int) := by rw [IntKind.wrap_u64]; omega
      have hsz : (hexN u).size = 16 := by rw [size_list]; exact hexL_len u 16
      clear hu
      go_enter Tryd.func60, Tryd.ntmps60
      go_wp2_with fail
      refine (FM.out _ HB0.out).mono ?_
      rintro e w1 ⟨rfl, hbw⟩
      have HB := Lib.hid (Below.thn HB0.out HB0.out.size hbw)
      clear hbw
      go_wp2_with fail
      go_ret
      exact ⟨ret1s HR.out, HB.out⟩
    · have FM := Lib.hid (fun V (hV : Below w.heap.size w V) => fmtI_any n (by omega) (by omega) V (GD.out V hV))
      have HR := Lib.hid (show (⟨(Lib.itoa n).toArray⟩ : BA) = saidB n by
        obtain ⟨m, rfl⟩ : ∃ m : Nat, n = (m : Int) := ⟨n.toNat, by omega⟩
        unfold saidB; rw [if_pos (by omega)]; rfl)
      go_enter Tryd.func60, Tryd.ntmps60
      go_wp2_with fail
      refine (FM.out _ HB0.out).mono ?_
      rintro e w1 ⟨rfl, hbw⟩
      have HB := Lib.hid (Below.thn HB0.out HB0.out.size hbw)
      clear hbw
      go_wp2_with fail
      go_ret
      exact ⟨ret1s HR.out, HB.out⟩
end Go.Proofs.YtdkflmpdelfgoaaDoor
namespace Go.Proofs.YtdkflmpdelfgoaaDoor
open Go.RowKit Go.Shelf
set_option linter.unusedVariables false
set_option linter.unusedSimpArgs false
attribute [local go_sem] Oper.semAt_some

set_option maxRecDepth 100000 in
set_option maxHeartbeats 2000000 in
theorem symbols_any (a : Option Addr) (n c : Nat) (w : World) :
    Calls Tryd.prog 39 #[.slice a n c] w fun e w' => e = .returned (.func (.func 61) #[] #[.pointer (some ⟨w.heap.size, 0, none⟩)]) ∧ w' = w.alloc (.cells #[.slice a n c] 22) := by
  go_enter Tryd.func39, Tryd.ntmps39
  go_wp2_with fail
  go_ret
  exact ⟨rfl, rfl⟩
set_option maxRecDepth 100000 in
set_option maxHeartbeats 2000000 in
theorem values_any (a : Option Addr) (n c : Nat) (w : World) :
    Calls Tryd.prog 41 #[.slice a n c] w fun e w' => e = .returned (.func (.func 63) #[] #[.pointer (some ⟨w.heap.size, 0, none⟩)]) ∧ w' = w.alloc (.cells #[.slice a n c] 40) := by
  go_enter Tryd.func41, Tryd.ntmps41
  go_wp2_with fail
  go_ret
  exact ⟨rfl, rfl⟩
end Go.Proofs.YtdkflmpdelfgoaaDoor
