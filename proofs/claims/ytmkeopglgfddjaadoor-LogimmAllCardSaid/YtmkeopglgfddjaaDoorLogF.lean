/-
  What Pattern, Encode and Field of the program return. Where the table of math/bits lies as its text lays it.
-/
import Derived.Test.YtmkeopglgfddjaaDoorLogQ
namespace Go.Proofs.YtmkeopglgfddjaaDoor
open Go.RowKit Go.Shelf BM

set_option maxRecDepth 100000 in
set_option maxHeartbeats 1000000 in
theorem pattern_out {v W s n t e : Int} (h : PatOut v W s n t e) (b1 : 0 ≤ v) (b2 : v < 18446744073709551616) (w : World) (hT : Tab w) (hTB : 0 < w.heap.size) :
    Calls Tryd.prog 17 #[.int .u64 v, .int .i64 W] w fun e' w' => e' = .returned (.tuple #[.int .i64 s, .int .i64 n, .int .i64 t, .int .i64 e]) ∧ Below w.heap.size w w' := by
  have OV := Lib.hid (ofValue_out h b1 b2 w hT hTB)
  clear h b1 b2 hT
  go_enter Tryd.func17, Tryd.ntmps17
  go_wp2_with (go_at_call 27; refine OV.out.mono ?_; rintro e1 w1 ⟨rfl, hb⟩)
  go_quiet (fail)
  go_wp2
  have hz := hb.size
  refine ⟨rfl, .tuple #[.int .i64 s, .int .i64 n, .int .i64 t, .int .i64 e], ?_, rfl, below_drewN (hb.alloc hz _) _⟩
  simp [results, Tryd.f17, go_sem]

/-- the parts that stand for a pattern -/
def encA (s e : Int) : Int := if e = 0 then (bitN s.toNat : Int) else 0
def encC (s n e : Int) : Int := if e = 0 then (topN s.toNat : Int) + n - 1 else 0
theorem found_range {v W a b c : Nat} (h : FoundP v W a b c) : IsSize a ∧ 1 ≤ b ∧ b < a ∧ c < a ∧ a ≤ W := ⟨h.1.1, h.1.2.2.1, h.1.2.2.2.1, h.1.2.2.2.2, h.1.2.1⟩
set_option maxRecDepth 100000 in
set_option maxHeartbeats 1000000 in
theorem encode_out {v W s n t e : Int} (h : PatOut v W s n t e) (b1 : 0 ≤ v) (b2 : v < 18446744073709551616) (w : World) (hT : Tab w) (hTB : 0 < w.heap.size) :
    Calls Tryd.prog 13 #[.int .u64 v, .int .i64 W] w fun e' w' => e' = .returned (.tuple #[.int .i64 (encA s e), .int .i64 t, .int .i64 (encC s n e), .int .i64 e]) ∧ Below w.heap.size w w' := by
  have OV := Lib.hid (ofValue_out h b1 b2 w hT hTB)
  by_cases he : e = 0
  · subst he
    have hr : ∃ a b c : Nat, s = (a : Int) ∧ n = (b : Int) ∧ t = (c : Int) ∧ IsSize a ∧ 1 ≤ b ∧ b < a := by
      rcases h with ⟨_, ⟨a, b, c, hf, rfl, rfl, rfl⟩, _⟩ | ⟨_, _, _, _, _, h0⟩ | ⟨_, _, _, _, h0⟩
      · exact ⟨a, b, c, rfl, rfl, rfl, (found_range hf).1, (found_range hf).2.1, (found_range hf).2.2.1⟩
      · exact absurd h0 (by decide)
      · exact absurd h0 (by decide)
    obtain ⟨a, b, c, rfl, rfl, rfl, ha, hb1, hb2⟩ := hr
    have hsz := size_bd ha
    have htop : topN a ≤ 60 := by unfold topN; omega
    have ea : encA (a : Int) 0 = (bitN a : Int) := by unfold encA; rw [if_pos rfl, Int.toNat_natCast]
    have ec : encC (a : Int) (b : Int) 0 = (topN a : Int) + (b : Int) - 1 := by unfold encC; rw [if_pos rfl, Int.toNat_natCast]
    have w1 : IntKind.i64.wrap ((topN a : Int) + (b : Int)) = (topN a : Int) + (b : Int) := IntWalk.i64_in _ (by omega)
    have w2 : IntKind.i64.wrap ((topN a : Int) + (b : Int) - 1) = (topN a : Int) + (b : Int) - 1 := IntWalk.i64_in _ (by omega)
    have TB := fun w => topBit_any a w
    have MK := fun w => mark_any a w ha
    rw [ea, ec]
    clear h b1 b2 hT ea ec
    go_enter Tryd.func13, Tryd.ntmps13
    go_wp2_with (go_at_call 27; refine OV.out.mono ?_; rintro e1 w1 ⟨rfl, hb⟩)
    go_quiet (first | (go_at_call 28; exact quiet_eq (TB _)) | (go_at_call 29; exact quiet_eq (MK _)))
    go_wp2
    have hz := hb.size
    refine ⟨rfl, .tuple #[.int .i64 (bitN a : Int), .int .i64 (c : Int), .int .i64 ((topN a : Int) + (b : Int) - 1), .int .i64 0], ?_, rfl, below_drewN (hb.alloc hz _) _⟩
    simp [results, Tryd.f13, go_sem]
  · have he' : (e != 0) = true := by simp [he]
    have ht : t = 0 := by
      rcases h with ⟨_, _, h0⟩ | ⟨_, _, _, _, h0, _⟩ | ⟨_, _, _, h0, _⟩
      · exact absurd h0 he
      · exact h0
      · exact h0
    have ea : encA s e = 0 := by unfold encA; rw [if_neg he]
    have ec : encC s n e = 0 := by unfold encC; rw [if_neg he]
    rw [ea, ec]
    subst ht
    clear h b1 b2 hT ea ec he
    go_enter Tryd.func13, Tryd.ntmps13
    go_wp2_with (go_at_call 27; refine OV.out.mono ?_; rintro e1 w1 ⟨rfl, hb⟩)
    have hz := hb.size
    refine ⟨rfl, .tuple #[.int .i64 0, .int .i64 0, .int .i64 0, .int .i64 e], ?_, rfl, hb.alloc hz _⟩
    simp [results, Tryd.f13, go_sem]

theorem i64_or_nat (a b : Nat) (ha : a < 4611686018427387904) (hb : b < 4611686018427387904) : bits .or .i64 (a : Int) (b : Int) = ((a ||| b : Nat) : Int) := by
  have h1 : (BitVec.ofInt 64 (a : Int)).toNat = a := by rw [BitVec.ofInt_natCast, BitVec.toNat_ofNat]; exact Nat.mod_eq_of_lt (by omega)
  have h2 : (BitVec.ofInt 64 (b : Int)).toNat = b := by rw [BitVec.ofInt_natCast, BitVec.toNat_ofNat]; exact Nat.mod_eq_of_lt (by omega)
  show IntKind.i64.wrap ((BitVec.ofInt 64 (a : Int) ||| BitVec.ofInt 64 (b : Int)).toNat : Int) = _
  have e : 2 ^ 62 = 4611686018427387904 := by decide
  have := Nat.or_lt_two_pow (x := a) (y := b) (n := 62) (by rw [e]; exact ha) (by rw [e]; exact hb)
  rw [e] at this
  rw [BitVec.toNat_or, h1, h2, IntWalk.i64_in _ (by omega)]
theorem or3 {n r m : Nat} (hn : n ≤ 1) (hr : r < 64) (hm : m < 64) : bits .or .i64 (bits .or .i64 ((n : Int) * 4096) ((r : Int) * 64)) (m : Int) = (n : Int) * 4096 + (r : Int) * 64 + (m : Int) := by
  have e1 : (n : Int) * 4096 = ((n * 4096 : Nat) : Int) := by omega
  have e2 : (r : Int) * 64 = ((r * 64 : Nat) : Int) := by omega
  have o1 : n * 4096 ||| r * 64 = n * 4096 + r * 64 := by
    have := Nat.two_pow_add_eq_or_of_lt (i := 12) (b := r * 64) (by omega) n
    rw [show 2 ^ 12 * n = n * 4096 by omega] at this; exact this.symm
  have o2 : (n * 64 + r) * 64 ||| m = (n * 64 + r) * 64 + m := by
    have := Nat.two_pow_add_eq_or_of_lt (i := 6) (b := m) (by omega) (n * 64 + r)
    rw [show 2 ^ 6 * (n * 64 + r) = (n * 64 + r) * 64 by omega] at this; exact this.symm
  rw [e1, e2, i64_or_nat _ _ (by omega) (by omega), o1, show n * 4096 + r * 64 = (n * 64 + r) * 64 by omega, i64_or_nat _ _ (by omega) (by omega), o2]
  omega
/-- the parts of a pattern lie in their ranges -/
theorem enc_range {v W s n t e : Int} (h : PatOut v W s n t e) : ∃ a b c : Nat, encA s e = (a : Int) ∧ t = (b : Int) ∧ encC s n e = (c : Int) ∧ a ≤ 1 ∧ b < 64 ∧ c < 64 := by
  rcases h with ⟨_, ⟨a, b, c, hf, rfl, rfl, rfl⟩, rfl⟩ | ⟨_, _, rfl, rfl, rfl, rfl⟩ | ⟨_, rfl, rfl, rfl, rfl⟩
  · obtain ⟨h1, h2, h3, h4, _⟩ := found_range hf
    have hs := size_bd h1
    have hk := size_mark h1
    refine ⟨bitN a, c, topN a + b - 1, by unfold encA; rw [if_pos rfl, Int.toNat_natCast], rfl, by unfold encC; rw [if_pos rfl, Int.toNat_natCast]; omega, by omega, by omega, by omega⟩
  · exact ⟨0, 0, 0, rfl, rfl, rfl, by decide, by decide, by decide⟩
  · exact ⟨0, 0, 0, rfl, rfl, rfl, by decide, by decide, by decide⟩
/-- the field that stands for a pattern -/
def encF (s n t e : Int) : Int := encA s e * 4096 + t * 64 + encC s n e
set_option maxRecDepth 100000 in
set_option maxHeartbeats 1000000 in
theorem field_out {v W s n t e : Int} (h : PatOut v W s n t e) (b1 : 0 ≤ v) (b2 : v < 18446744073709551616) (w : World) (hT : Tab w) (hTB : 0 < w.heap.size) :
    Calls Tryd.prog 15 #[.int .u64 v, .int .i64 W] w fun e' w' => e' = .returned (.tuple #[.int .i64 (encF s n t e), .int .i64 e]) ∧ Below w.heap.size w w' := by
  have EO := encode_out h b1 b2 w hT hTB
  obtain ⟨a, b, c, e1, e2, e3, ha, hb, hc⟩ := enc_range h
  have O3 := or3 ha hb hc
  have ef : encF s n t e = (a : Int) * 4096 + (b : Int) * 64 + (c : Int) := by unfold encF; rw [e1, e2, e3]
  rw [e1, e2, e3] at EO
  rw [ef, ← O3]
  have EO2 := Lib.hid EO
  clear h b1 b2 hT EO e1 e2 e3 O3 ef
  go_enter Tryd.func15, Tryd.ntmps15
  go_wp2_with (go_at_call 13; refine EO2.out.mono ?_; rintro e1 w1 ⟨rfl, hb⟩)
  go_ret2
  exact ⟨rfl, by assumption⟩
end Go.Proofs.YtmkeopglgfddjaaDoor
