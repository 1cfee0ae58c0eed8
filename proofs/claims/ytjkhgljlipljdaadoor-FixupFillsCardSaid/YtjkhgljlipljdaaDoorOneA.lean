/-
  FixupOne: the law's walk.
-/
import Derived.Test.YtjkhgljlipljdaaDoorOneM
namespace Go.Proofs.YtjkhgljlipljdaaDoor
open Go.RowKit
set_option linter.unusedVariables false
set_option linter.unusedSimpArgs false
theorem make_zero (n : Nat) (hn : n ≤ 281474976710656) : ∃ M : Array Value, M.size = n ∧ (∀ j, j < n → M[j]? = some (.int .u8 0)) ∧ ∀ W : World, (Instr.makeSlice 53 (.int .i64 (n : Int)) (.int .i64 (n : Int))).run Tryd.prog W = .ok (.slice (some ⟨W.heap.size, 0, none⟩) n n) (W.alloc (.cells M 5)) := by
  obtain ⟨i0, hi, h0, h1, h2⟩ := info_parts infoByte
  refine ⟨madeCells (Value.int .u8 0).cells (((n : Nat) : Int).toNat * i0.size), by rw [size_madeCells, h1]; simp, fun j hj => ?_, fun W => ?_⟩
  · simp [madeCells, Value.cells, h1, hj, Nat.mod_one]
  · have := run_make (P := Tryd.prog) W 53 5 i0 (.int .u8 0) Tryd.underlying53 hi h0 .i64 .i64 (n : Int) (n : Int) (by omega) (by omega) (by rw [h2]; omega) (by omega)
    simpa using this
theorem wid_pos {k s : Int} (hok : holeOk k s = true) (hf : filledB (shR k s) = true) : 0 ≤ (shR k s).w := by
  obtain ⟨⟨K, S⟩, hx, rfl, rfl⟩ := holes_all hok
  simp only [holesL, List.mem_cons, Prod.mk.injEq, List.not_mem_nil, or_false] at hx
  rcases hx with ⟨rfl, rfl⟩ | ⟨rfl, rfl⟩ | ⟨rfl, rfl⟩ | ⟨rfl, rfl⟩ | ⟨rfl, rfl⟩ | ⟨rfl, rfl⟩ | ⟨rfl, rfl⟩ | ⟨rfl, rfl⟩ | ⟨rfl, rfl⟩ | ⟨rfl, rfl⟩ | ⟨rfl, rfl⟩ | ⟨rfl, rfl⟩ | ⟨rfl, rfl⟩ | ⟨rfl, rfl⟩ | ⟨rfl, rfl⟩
  all_goals decide
theorem made_bys {W : World} {M : Array Value} {n : Nat} {T : TypeId} (hM : M.size = n) (h0 : ∀ j, j < n → M[j]? = some (.int .u8 0)) : BysO (W.alloc (.cells M T)) (some ⟨W.heap.size, 0, none⟩) n :=
  ⟨W.heap.size, 0, .inr rfl, fun j hj => ⟨0, by decide, by decide, by rw [Nat.zero_add, Lib.cell_of_heap (heap_alloc_new W (.cells M T)) j]; exact h0 j hj⟩⟩
set_option maxRecDepth 20000 in
set_option maxHeartbeats 4000000 in
theorem one_err (h : Hl) (sec off : Int) (sv : Value) (L : List Sy) (a : Option Addr) (len cap : Nat) (w : World) (hG : Gd w) (hS : SymsO w sv L) (ha : in64 h.a) (hr : (resO h sec off L).2 ≠ 0) (hf : (resO h sec off L).1 = fx0) :
    Calls Tryd.prog 8 #[csV h sec off sv, .slice a len cap] w fun e w' => e = .returned (.bool true) ∧ Below w.heap.size w w' := by
  have LV := Lib.hid (fun W (hb : Below w.heap.size w W) => live_any W (hG.keep hb))
  have R1 := Lib.hid (fun W (hb : Below w.heap.size w W) => resolve_any h sec off sv L W (hG.keep hb) (hS.keep hb) ha)
  rw [hf] at R1
  generalize (resO h sec off L).2 = ee at *
  have he : (ee != 0) = true := by rw [bne_iff_ne]; exact hr
  have he' : (ee == 0) = false := by rw [beq_eq_false_iff_ne]; exact hr
  clear hf
  unfold fx0 at *
  obtain ⟨sa, sc, rfl⟩ := hS.slice
  obtain ⟨k, s, ad, p, m⟩ := h
  unfold csV hlV fxV at *
  simp only at *
  clear hG hS ha
  have HB0 := Lib.hid (below1 w (.cells #[.int .i64 k, .int .i64 s, .int .i64 ad, .string p, .string m, .int .i64 sec, .int .i64 off, .slice sa L.length sc] 44))
  go_enter Tryd.func8, Tryd.ntmps8
  go_wp2_with fail
  refine (LV.out _ HB0.out).mono ?_
  rintro e w1 ⟨rfl, hb1⟩
  obtain ⟨g1, hbw, hz⟩ := kept1 hb1
  obtain ⟨c0, c1, c2, c3, c4, c5, c6, c7⟩ := eight g1
  have G1 := Lib.hid g1
  have HB1 := Lib.hid hbw
  clear hb1 g1 hbw hz LV
  by_cases hl : (200 : Int) < (L.length : Int)
  · go_wp2_with fail
    go_ret
    exact ⟨rfl, HB1.out⟩
  · go_wp2_with fail
    refine (R1.out _ HB1.out).mono ?_
    rintro e w2 ⟨rfl, hb2⟩
    have k1 := below1 w2 (.cells #[.bool false, .int .i64 0, .bool false, .int .i64 0, .int .i64 0, .int .i64 0, .int .i64 0] 48)
    have G1 := Lib.hid (kept_v k1 (kept_v hb2 G1.out))
    have G2 := Lib.hid (heap_alloc_new w2 (.cells #[.bool false, .int .i64 0, .bool false, .int .i64 0, .int .i64 0, .int .i64 0, .int .i64 0] 48))
    have HB2 := Lib.hid (Below.thn (Below.thn HB1.out HB1.out.size hb2) (Below.thn HB1.out HB1.out.size hb2).size k1)
    go_upto_region 6 with fail
    generalize (w2.alloc (.cells #[.bool false, .int .i64 0, .bool false, .int .i64 0, .int .i64 0, .int .i64 0, .int .i64 0] 48)) = V2 at *
    clear hb2 k1 c0 c1 c2 c3 c4 c5 c6 c7 HB1 R1
    obtain ⟨c0, c1, c2, c3, c4, c5, c6, c7⟩ := eight G1.out
    obtain ⟨_, d0, d1, d2, d3, d4, d5, d6⟩ := seven G2.out
    go_wp2_with fail
    go_ret
    exact ⟨rfl, HB2.out⟩
set_option maxRecDepth 20000 in
set_option maxHeartbeats 4000000 in
theorem one_reloc (h : Hl) (sec off : Int) (sv : Value) (L : List Sy) (a : Option Addr) (len cap : Nat) (w : World) (hG : Gd w) (hS : SymsO w sv L) (ha : in64 h.a) (hr : (resO h sec off L).2 = 0) (h0 : (resO h sec off L).1.pt = false) (h1 : (resO h sec off L).1.rl = true) (h2 : (resO h sec off L).1.v = 0) :
    Calls Tryd.prog 8 #[csV h sec off sv, .slice a len cap] w fun e w' => e = .returned (.bool true) ∧ Below w.heap.size w w' := by
  have LV := Lib.hid (fun W (hb : Below w.heap.size w W) => live_any W (hG.keep hb))
  have R1 := Lib.hid (fun W (hb : Below w.heap.size w W) => resolve_any h sec off sv L W (hG.keep hb) (hS.keep hb) ha)
  rw [hr] at R1
  generalize (resO h sec off L).1 = fx at *
  clear hr
  obtain ⟨x0, x1, x2, x3, x4, x5, x6⟩ := fx
  simp only at h0 h1 h2
  subst h0 h1 h2
  obtain ⟨sa, sc, rfl⟩ := hS.slice
  obtain ⟨k, s, ad, p, m⟩ := h
  unfold csV hlV fxV at *
  simp only at *
  clear hG hS ha
  have HB0 := Lib.hid (below1 w (.cells #[.int .i64 k, .int .i64 s, .int .i64 ad, .string p, .string m, .int .i64 sec, .int .i64 off, .slice sa L.length sc] 44))
  go_enter Tryd.func8, Tryd.ntmps8
  go_wp2_with fail
  refine (LV.out _ HB0.out).mono ?_
  rintro e w1 ⟨rfl, hb1⟩
  obtain ⟨g1, hbw, hz⟩ := kept1 hb1
  obtain ⟨c0, c1, c2, c3, c4, c5, c6, c7⟩ := eight g1
  have G1 := Lib.hid g1
  have HB1 := Lib.hid hbw
  clear hb1 g1 hbw hz LV
  by_cases hl : (200 : Int) < (L.length : Int)
  · go_wp2_with fail
    go_ret
    exact ⟨rfl, HB1.out⟩
  · go_wp2_with fail
    refine (R1.out _ HB1.out).mono ?_
    rintro e w2 ⟨rfl, hb2⟩
    have k1 := below1 w2 (.cells #[.bool false, .int .i64 0, .bool true, .int .i64 x3, .int .i64 x4, .int .i64 x5, .int .i64 x6] 48)
    have G1 := Lib.hid (kept_v k1 (kept_v hb2 G1.out))
    have G2 := Lib.hid (heap_alloc_new w2 (.cells #[.bool false, .int .i64 0, .bool true, .int .i64 x3, .int .i64 x4, .int .i64 x5, .int .i64 x6] 48))
    have HB2 := Lib.hid (Below.thn (Below.thn HB1.out HB1.out.size hb2) (Below.thn HB1.out HB1.out.size hb2).size k1)
    go_upto_region 6 with fail
    generalize (w2.alloc (.cells #[.bool false, .int .i64 0, .bool true, .int .i64 x3, .int .i64 x4, .int .i64 x5, .int .i64 x6] 48)) = V2 at *
    clear hb2 k1 c0 c1 c2 c3 c4 c5 c6 c7 HB1 R1
    obtain ⟨c0, c1, c2, c3, c4, c5, c6, c7⟩ := eight G1.out
    obtain ⟨_, d0, d1, d2, d3, d4, d5, d6⟩ := seven G2.out
    go_wp2_with fail
    go_ret
    exact ⟨rfl, HB2.out⟩
set_option maxRecDepth 20000 in
set_option maxHeartbeats 4000000 in
theorem one_patch (h : Hl) (sec off : Int) (sv : Value) (L : List Sy) (a : Option Addr) (len cap : Nat) (w : World) (hG : Gd w) (hS : SymsO w sv L) (ha : in64 h.a) (hI : GI w) (hB : BysO w a len) (v : Int) (hr : (resO h sec off L).2 = 0) (h0 : (resO h sec off L).1 = ⟨true, v, false, 0, 0, 0, 0⟩) (hok : holeOk h.k h.s = true) (hfl : filledB (shR h.k h.s) = true) (hft : fitsB (shR h.k h.s) v = true) (hv : in64 v) :
    Calls Tryd.prog 8 #[csV h sec off sv, .slice a len cap] w fun e w' => e = .returned (.bool true) ∧ Below w.heap.size w w' := by
  have LV := Lib.hid (fun W (hb : Below w.heap.size w W) => live_any W (hG.keep hb))
  have R1 := Lib.hid (fun W (hb : Below w.heap.size w W) => resolve_any h sec off sv L W (hG.keep hb) (hS.keep hb) ha)
  have WI := Lib.hid (fun W (hb : Below w.heap.size w W) => width_any h W (hG.keep hb))
  have FO := Lib.hid (fun W b (ln : Nat) cp (hb : Below w.heap.size w W) hby (hl : (ln : Int) = (shR h.k h.s).w) => fill_ok h v hv b ln cp W (hG.keep hb) (hI.keep hb) hby hok hl hfl hft)
  have HBY := Lib.hid hB
  obtain ⟨n, hn⟩ : ∃ n : Nat, (shR h.k h.s).w = (n : Int) := ⟨(shR h.k h.s).w.toNat, by have := wid_pos hok hfl; omega⟩
  have hn8 : n ≤ 8 := by have := (far_t hok hfl).2; omega
  rw [hr, h0] at R1
  rw [hn] at WI FO
  clear hr h0 hok hfl hft hv hI hB hn
  obtain ⟨sa, sc, rfl⟩ := hS.slice
  obtain ⟨k, s, ad, p, m⟩ := h
  unfold csV hlV fxV at *
  simp only at *
  clear hG hS ha
  have HB0 := Lib.hid (below1 w (.cells #[.int .i64 k, .int .i64 s, .int .i64 ad, .string p, .string m, .int .i64 sec, .int .i64 off, .slice sa L.length sc] 44))
  go_enter Tryd.func8, Tryd.ntmps8
  go_wp2_with fail
  refine (LV.out _ HB0.out).mono ?_
  rintro e w1 ⟨rfl, hb1⟩
  obtain ⟨g1, hbw, hz⟩ := kept1 hb1
  obtain ⟨c0, c1, c2, c3, c4, c5, c6, c7⟩ := eight g1
  have G1 := Lib.hid g1
  have HB1 := Lib.hid hbw
  clear hb1 g1 hbw hz LV
  by_cases hl : (200 : Int) < (L.length : Int)
  · go_wp2_with fail
    go_ret
    exact ⟨rfl, HB1.out⟩
  · go_wp2_with fail
    refine (R1.out _ HB1.out).mono ?_
    rintro e w2 ⟨rfl, hb2⟩
    have k1 := below1 w2 (.cells #[.bool true, .int .i64 v, .bool false, .int .i64 0, .int .i64 0, .int .i64 0, .int .i64 0] 48)
    have G1 := Lib.hid (kept_v k1 (kept_v hb2 G1.out))
    have G2 := Lib.hid (heap_alloc_new w2 (.cells #[.bool true, .int .i64 v, .bool false, .int .i64 0, .int .i64 0, .int .i64 0, .int .i64 0] 48))
    have HB2 := Lib.hid (Below.thn (Below.thn HB1.out HB1.out.size hb2) (Below.thn HB1.out HB1.out.size hb2).size k1)
    go_upto_region 6 with fail
    generalize (w2.alloc (.cells #[.bool true, .int .i64 v, .bool false, .int .i64 0, .int .i64 0, .int .i64 0, .int .i64 0] 48)) = V2 at *
    clear hb2 k1 c0 c1 c2 c3 c4 c5 c6 c7 HB1 R1
    obtain ⟨c0, c1, c2, c3, c4, c5, c6, c7⟩ := eight G1.out
    obtain ⟨_, d0, d1, d2, d3, d4, d5, d6⟩ := seven G2.out
    go_wp2_with fail
    refine (WI.out _ HB2.out).mono ?_
    rintro e w3 ⟨rfl, hb3⟩
    have G1 := Lib.hid (kept_v hb3 G1.out)
    have G2 := Lib.hid (kept_v hb3 G2.out)
    have HB3 := Lib.hid (Below.thn HB2.out HB2.out.size hb3)
    clear hb3 c0 c1 c2 c3 c4 c5 c6 c7 d0 d1 d2 d3 d4 d5 d6
    obtain ⟨c0, c1, c2, c3, c4, c5, c6, c7⟩ := eight G1.out
    obtain ⟨_, d0, d1, d2, d3, d4, d5, d6⟩ := seven G2.out
    by_cases hln : len = n
    · subst hln
      have FO := Lib.hid (fun W b cp hb hby => FO.out W b len cp hb hby rfl)
      go_wp2_with fail
      refine (FO.out _ a cap HB3.out (HBY.out.keep HB3.out)).mono ?_
      rintro e w4 ⟨⟨u, rfl⟩, hb4⟩
      have G2 := Lib.hid (kept_v hb4 G2.out)
      have HB4 := Lib.hid (Below.thn HB3.out HB3.out.size hb4)
      clear hb4 c0 c1 c2 c3 c4 c5 c6 c7 d0 d1 d2 d3 d4 d5 d6
      obtain ⟨_, d0, d1, d2, d3, d4, d5, d6⟩ := seven G2.out
      go_wp2_with fail
      go_ret
      exact ⟨rfl, HB4.out⟩
    · have hne : ((len : Int) != (n : Int)) = true := by rw [bne_iff_ne]; omega
      obtain ⟨M, hM, hM0, hmk⟩ := make_zero n (by omega)
      go_wp2_with fail
      refine (WI.out _ HB3.out).mono ?_
      rintro e w4 ⟨rfl, hb4⟩
      have G1 := Lib.hid (kept_v hb4 G1.out)
      have G2 := Lib.hid (kept_v hb4 G2.out)
      have HB4 := Lib.hid (Below.thn HB3.out HB3.out.size hb4)
      clear hb4 c0 c1 c2 c3 c4 c5 c6 c7 d0 d1 d2 d3 d4 d5 d6
      have k4 := below1 w4 (.cells M 5)
      have HBM := Lib.hid (made_bys (W := w4) (T := 5) hM hM0)
      have G1 := Lib.hid (kept_v k4 G1.out)
      have G2 := Lib.hid (kept_v k4 G2.out)
      have HB5 := Lib.hid (HB4.out.alloc HB4.out.size (.cells M 5))
      have FO := Lib.hid (fun W b cp hb hby => FO.out W b n cp hb hby rfl)
      obtain ⟨c0, c1, c2, c3, c4, c5, c6, c7⟩ := eight G1.out
      obtain ⟨_, d0, d1, d2, d3, d4, d5, d6⟩ := seven G2.out
      clear k4 hM hM0
      go_wp2_with fail
      refine (FO.out _ _ _ HB5.out HBM.out).mono ?_
      rintro e w5 ⟨⟨u, rfl⟩, hb5⟩
      have G2 := Lib.hid (kept_v hb5 G2.out)
      have HB6 := Lib.hid (Below.thn HB5.out HB5.out.size hb5)
      clear hb5 c0 c1 c2 c3 c4 c5 c6 c7 d0 d1 d2 d3 d4 d5 d6
      obtain ⟨_, d0, d1, d2, d3, d4, d5, d6⟩ := seven G2.out
      go_wp2_with fail
      go_ret
      exact ⟨rfl, HB6.out⟩
theorem one_law (h : Hl) (sec off : Int) (sv : Value) (L : List Sy) (a : Option Addr) (len cap : Nat) (w : World) (hG : Gd w) (hI : GI w) (hS : SymsO w sv L) (ha : in64 h.a) (hB : BysO w a len) :
    Calls Tryd.prog 8 #[csV h sec off sv, .slice a len cap] w fun e w' => e = .returned (.bool true) ∧ Below w.heap.size w w' := by
  rcases one_math h sec off L ha with ⟨a1, a2⟩ | ⟨a1, a2, a3, a4⟩ | ⟨a1, v, a2, a3, a4, a5, a6⟩
  · exact one_err h sec off sv L a len cap w hG hS ha a1 a2
  · exact one_reloc h sec off sv L a len cap w hG hS ha a1 a2 a3 a4
  · exact one_patch h sec off sv L a len cap w hG hS ha hI hB v a1 a2 a3 a4 a5 a6
end Go.Proofs.YtjkhgljlipljdaaDoor
