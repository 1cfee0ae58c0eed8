/-
  For every value and both widths LogimmOver returns true: a value turned over is a pattern just if the value is one, of the same size, with as many ones as the value had zeros; 0 and all ones are none; a value of 32 places is one just if it is one of 64, twice. No conditions.
-/
import Derived.Test.YtmkeopglgfddjaaDoorLogB
import Derived.Test.YtmkeopglgfddjaaDoorLogU
import Derived.Test.YtmkeopglgfddjaaDoorTie
import Derived.Test.YtmkeopglgfddjaaDoorCards
import Derived.SevenTiedAt
namespace Go.Proofs.YtmkeopglgfddjaaDoor.logimmOver
open Go.ChangeShapes Go.WideShapes Go.ChangeAt Go.RowKit BM
set_option linter.unusedVariables false

theorem u64_wf {v : Int} (h : (Lit.int .u64 v).wf = true) : 0 ≤ v ∧ v < 18446744073709551616 := by
  simp [Lit.wf, IntKind.min, IntKind.max, IntKind.bits, IntKind.signed] at h; omega
/-- the value turned over: the same error, the same size, the other places -/
theorem over_pat {X W : Nat} {s n t e : Int} (hW : IsW W) (hX : X < 2 ^ W) (h : PatOut (X : Int) (W : Int) s n t e) :
    (e = 0 ∧ 0 ≤ n ∧ n ≤ s ∧ s ≤ 64 ∧ ∃ t2, PatOut ((2 ^ W - 1 - X : Nat) : Int) (W : Int) s (s - n) t2 0) ∨ (e = 20 ∧ s = 0 ∧ n = 0 ∧ PatOut ((2 ^ W - 1 - X : Nat) : Int) (W : Int) 0 0 0 20) := by
  rcases h with ⟨hI, ⟨a, b, c, hf, rfl, rfl, rfl⟩, rfl⟩ | ⟨hI, hno, rfl, rfl, rfl, rfl⟩ | ⟨hn, _⟩
  · rw [Int.toNat_natCast, Int.toNat_natCast] at hf
    obtain ⟨h1, h2, h3, h4, h5⟩ := found_range hf
    have hb := size_bd h1
    refine .inl ⟨rfl, by omega, by omega, by omega, (((c + (a - b)) % a : Nat) : Int), .inl ⟨hI, ⟨a, a - b, (c + (a - b)) % a, ?_, rfl, by omega, rfl⟩, rfl⟩⟩
    rw [Int.toNat_natCast, Int.toNat_natCast]
    exact over_found hf
  · rw [Int.toNat_natCast, Int.toNat_natCast] at hno
    refine .inr ⟨rfl, rfl, rfl, .inr (.inl ⟨hI, ?_, rfl, rfl, rfl, rfl⟩)⟩
    rw [Int.toNat_natCast, Int.toNat_natCast]
    intro a b c hf
    have := over_found hf
    rw [over_back hX] at this
    exact hno _ _ _ this
  · exact absurd (by rcases hW with rfl | rfl; exact .inl rfl; exact .inr rfl) hn
theorem zero_pat {W : Nat} (hW : IsW W) : PatOut 0 (W : Int) 0 0 0 20 := by
  refine .inr (.inl ⟨by rcases hW with rfl | rfl; exact .inl rfl; exact .inr rfl, ?_, rfl, rfl, rfl, rfl⟩)
  intro a b c
  exact zero_none
theorem ones_pat {W : Nat} (hW : IsW W) : PatOut ((2 ^ W - 1 : Nat) : Int) (W : Int) 0 0 0 20 := by
  refine .inr (.inl ⟨by rcases hW with rfl | rfl; exact .inl rfl; exact .inr rfl, ?_, rfl, rfl, rfl, rfl⟩)
  rw [Int.toNat_natCast, Int.toNat_natCast]
  intro a b c
  exact ones_none
/-- a value of 32 places, and the same twice -/
theorem twice_pat {L : Nat} (hL : L < 2 ^ 32) : ∃ s n t s2 n2 t2 i, PatOut (L : Int) 32 s n t i ∧ PatOut ((L * 2 ^ 32 + L : Nat) : Int) 64 s2 n2 t2 i := by
  by_cases h : ∃ a b c, FoundP L 32 a b c
  · obtain ⟨a, b, c, hf⟩ := h
    refine ⟨_, _, _, _, _, _, _, .inl ⟨.inl rfl, ⟨a, b, c, by rw [Int.toNat_natCast]; exact hf, rfl, rfl, rfl⟩, rfl⟩, .inl ⟨.inr rfl, ⟨a, b, c, ?_, rfl, rfl, rfl⟩, rfl⟩⟩
    rw [Int.toNat_natCast]; exact (twice_found hL).1 hf
  · refine ⟨0, 0, 0, 0, 0, 0, 20, .inr (.inl ⟨.inl rfl, ?_, rfl, rfl, rfl, rfl⟩), .inr (.inl ⟨.inr rfl, ?_, rfl, rfl, rfl, rfl⟩)⟩
    · intro a b c hf; rw [Int.toNat_natCast] at hf; exact h ⟨a, b, c, hf⟩
    · intro a b c hf; rw [Int.toNat_natCast] at hf; exact h ⟨a, b, c, (twice_found hL).2 hf⟩
theorem and_ones {v : Nat} {O W : Nat} (hv : v < 18446744073709551616) (hO : O = 2 ^ W - 1) (h64 : W ≤ 64) : bits .and .u64 (v : Int) (O : Int) = ((v % 2 ^ W : Nat) : Int) := by
  have := elem_code (s := W) hv h64
  unfold onesI at this
  rw [Int.toNat_natCast] at this
  rw [hO]; exact this
theorem or_twice {L : Nat} (hL : L < 4294967296) : bits .or .u64 (IntKind.u64.wrap ((L : Int) * 4294967296)) (L : Int) = ((L * 2 ^ 32 + L : Nat) : Int) := by
  have e : (2 : Nat) ^ 32 = 4294967296 := by decide
  have c : IntKind.u64.wrap ((L : Int) * 4294967296) = ((L * 4294967296 : Nat) : Int) := by rw [wrap_u64]; omega
  rw [c, u64_or _ _ (Int.natCast_nonneg _) (by omega) (Int.natCast_nonneg _) (by omega), Int.toNat_natCast, Int.toNat_natCast]
  have := Nat.two_pow_add_eq_or_of_lt (i := 32) (b := L) (by rw [e]; exact hL) L
  rw [Nat.mul_comm, e] at this
  rw [e, ← this]

set_option maxRecDepth 100000 in
set_option maxHeartbeats 4000000 in
theorem walk32 (v : Nat) (w : World) (hv : v < 18446744073709551616) (hT : Tab w) (hTB : 0 < w.heap.size) :
    Calls Tryd.prog 7 #[.int .u64 (v : Int), .bool false] w fun e w' => e = .returned (.bool true) ∧ Below w.heap.size w w' := by
  have hW : IsW 32 := .inl rfl
  have hp : (2 : Nat) ^ 32 = 4294967296 := by decide
  obtain ⟨X, hX⟩ : ∃ X, v % 2 ^ 32 = X := ⟨_, rfl⟩
  have hXl : X < 2 ^ 32 := by rw [← hX]; exact Nat.mod_lt _ (Nat.two_pow_pos _)
  have A1 : bits .and .u64 (v : Int) 4294967295 = (X : Int) := by
    have h := and_ones (O := 4294967295) (W := 32) hv (by decide) (by decide)
    rw [hX] at h
    exact h
  obtain ⟨Y, hY⟩ : ∃ Y, 2 ^ 32 - 1 - X = Y := ⟨_, rfl⟩
  have A2 : bits .xor .u64 (X : Int) 4294967295 = (Y : Int) := by
    have h := u64_xor_nat X 4294967295 (by omega) (by decide)
    have h2 := xor_ones hXl
    rw [show (2 : Nat) ^ 32 - 1 = 4294967295 by decide] at h2 hY
    rw [h2, hY] at h
    exact h
  obtain ⟨L, hL⟩ : ∃ L, X % 2 ^ 32 = L := ⟨_, rfl⟩
  have hLl : L < 2 ^ 32 := by rw [← hL]; exact Nat.mod_lt _ (Nat.two_pow_pos _)
  have A3 : bits .and .u64 (X : Int) 4294967295 = (L : Int) := by
    have h := and_ones (v := X) (O := 4294967295) (W := 32) (by omega) (by decide) (by decide)
    rw [hL] at h
    exact h
  have A4 := or_twice (L := L) (by rw [show (2 : Nat) ^ 32 = 4294967296 by decide] at hLl; exact hLl)
  obtain ⟨M, hM⟩ : ∃ M, L * 2 ^ 32 + L = M := ⟨_, rfl⟩
  rw [hM] at A4
  obtain ⟨s3, n3, t3, s4, n4, t4, i, q3, q4⟩ := twice_pat hLl
  rw [hM] at q4
  obtain ⟨s, n, t, e, q1⟩ := patOut_ex (X : Int) 32
  have x1 : (0 : Int) ≤ X ∧ (X : Int) < 18446744073709551616 := by omega
  have x2 : (0 : Int) ≤ Y ∧ (Y : Int) < 18446744073709551616 := by omega
  have x3 : (0 : Int) ≤ L ∧ (L : Int) < 18446744073709551616 := by rw [show (2 : Nat) ^ 32 = 4294967296 by decide] at hLl; omega
  have x4 : (0 : Int) ≤ M ∧ (M : Int) < 18446744073709551616 := by rw [show (2 : Nat) ^ 32 = 4294967296 by decide] at hLl hM; omega
  have P1 := Lib.hid (fun w hT hB => pattern_out q1 x1.1 x1.2 w hT hB)
  have qz : PatOut 0 32 0 0 0 20 := zero_pat hW
  have qo : PatOut 4294967295 32 0 0 0 20 := by
    have h := ones_pat hW
    rw [show (2 : Nat) ^ 32 - 1 = 4294967295 by decide] at h
    exact h
  have FZ := Lib.hid (fun w hT hB => field_out qz (by decide) (by decide) w hT hB)
  have FO := Lib.hid (fun w hT hB => field_out qo (by decide) (by decide) w hT hB)
  have F3 := Lib.hid (fun w hT hB => field_out q3 x3.1 x3.2 w hT hB)
  have F4 := Lib.hid (fun w hT hB => field_out q4 x4.1 x4.2 w hT hB)
  have BG := Lib.hid (fun w hT hTB => begun_any w hT hTB)
  have HT := Lib.hid hT
  have HB := Lib.hid hTB
  have bb := Below.refl w.heap.size w
  have op := over_pat hW hXl q1
  rw [hY] at op
  have X2 := Lib.hid x2
  clear q1 q3 q4 qz qo hT hTB hp hX hXl hY hL hLl hM hv x1 x2 x3 x4
  rcases op with ⟨rfl, y1, y2, y3, t2, q2⟩ | ⟨rfl, rfl, rfl, q2⟩
  · have P2 := Lib.hid (fun w hT hB => pattern_out q2 X2.out.1 X2.out.2 w hT hB)
    clear q2
    have s1 : IntKind.i64.wrap (n + (s - n)) = s := by rw [show n + (s - n) = s by omega]; exact IntWalk.i64_in _ (by omega)
    go_enter Tryd.func7, Tryd.ntmps7
    go_wp2_with fail
    refine (P1.out _ (HT.out.keep HB.out bb) (by have := HB.out; have := bb.size; omega)).mono ?_
    rintro e1 w1 ⟨rfl, bn⟩
    replace bb := Below.thn bb bb.size bn
    clear bn
    go_wp2_with fail
    refine (P2.out _ (HT.out.keep HB.out bb) (by have := HB.out; have := bb.size; omega)).mono ?_
    rintro e1 w1 ⟨rfl, bn⟩
    replace bb := Below.thn bb bb.size bn
    clear bn
    go_wp2_with fail
    refine (FZ.out _ (HT.out.keep HB.out bb) (by have := HB.out; have := bb.size; omega)).mono ?_
    rintro e1 w1 ⟨rfl, bn⟩
    replace bb := Below.thn bb bb.size bn
    clear bn
    go_wp2_with fail
    refine (FO.out _ (HT.out.keep HB.out bb) (by have := HB.out; have := bb.size; omega)).mono ?_
    rintro e1 w1 ⟨rfl, bn⟩
    replace bb := Below.thn bb bb.size bn
    clear bn
    go_wp2_with fail
    refine (BG.out _ (HT.out.keep HB.out bb) (by have := HB.out; have := bb.size; omega)).mono ?_
    rintro e1 w1 ⟨rfl, bn⟩
    replace bb := Below.thn bb bb.size bn
    clear bn
    go_wp2_with fail
    refine (F3.out _ (HT.out.keep HB.out bb) (by have := HB.out; have := bb.size; omega)).mono ?_
    rintro e1 w1 ⟨rfl, bn⟩
    replace bb := Below.thn bb bb.size bn
    clear bn
    go_wp2_with fail
    refine (F4.out _ (HT.out.keep HB.out bb) (by have := HB.out; have := bb.size; omega)).mono ?_
    rintro e1 w1 ⟨rfl, bn⟩
    replace bb := Below.thn bb bb.size bn
    clear bn
    go_wp2
    go_ret
    exact ⟨rfl, bb⟩
  · have P2 := Lib.hid (fun w hT hB => pattern_out q2 X2.out.1 X2.out.2 w hT hB)
    clear q2
    go_enter Tryd.func7, Tryd.ntmps7
    go_wp2_with fail
    refine (P1.out _ (HT.out.keep HB.out bb) (by have := HB.out; have := bb.size; omega)).mono ?_
    rintro e1 w1 ⟨rfl, bn⟩
    replace bb := Below.thn bb bb.size bn
    clear bn
    go_wp2_with fail
    refine (P2.out _ (HT.out.keep HB.out bb) (by have := HB.out; have := bb.size; omega)).mono ?_
    rintro e1 w1 ⟨rfl, bn⟩
    replace bb := Below.thn bb bb.size bn
    clear bn
    go_wp2_with fail
    refine (FZ.out _ (HT.out.keep HB.out bb) (by have := HB.out; have := bb.size; omega)).mono ?_
    rintro e1 w1 ⟨rfl, bn⟩
    replace bb := Below.thn bb bb.size bn
    clear bn
    go_wp2_with fail
    refine (FO.out _ (HT.out.keep HB.out bb) (by have := HB.out; have := bb.size; omega)).mono ?_
    rintro e1 w1 ⟨rfl, bn⟩
    replace bb := Below.thn bb bb.size bn
    clear bn
    go_wp2_with fail
    refine (BG.out _ (HT.out.keep HB.out bb) (by have := HB.out; have := bb.size; omega)).mono ?_
    rintro e1 w1 ⟨rfl, bn⟩
    replace bb := Below.thn bb bb.size bn
    clear bn
    go_wp2_with fail
    refine (F3.out _ (HT.out.keep HB.out bb) (by have := HB.out; have := bb.size; omega)).mono ?_
    rintro e1 w1 ⟨rfl, bn⟩
    replace bb := Below.thn bb bb.size bn
    clear bn
    go_wp2_with fail
    refine (F4.out _ (HT.out.keep HB.out bb) (by have := HB.out; have := bb.size; omega)).mono ?_
    rintro e1 w1 ⟨rfl, bn⟩
    replace bb := Below.thn bb bb.size bn
    clear bn
    go_wp2
    go_ret
    exact ⟨rfl, bb⟩
set_option maxRecDepth 100000 in
set_option maxHeartbeats 4000000 in
theorem walk64 (v : Nat) (w : World) (hv : v < 18446744073709551616) (hT : Tab w) (hTB : 0 < w.heap.size) :
    Calls Tryd.prog 7 #[.int .u64 (v : Int), .bool true] w fun e w' => e = .returned (.bool true) ∧ Below w.heap.size w w' := by
  have hW : IsW 64 := .inr rfl
  have hp : (2 : Nat) ^ 64 = 18446744073709551616 := by decide
  obtain ⟨X, hX⟩ : ∃ X, v % 2 ^ 64 = X := ⟨_, rfl⟩
  have hXl : X < 2 ^ 64 := by rw [← hX]; exact Nat.mod_lt _ (Nat.two_pow_pos _)
  have A1 : bits .and .u64 (v : Int) 18446744073709551615 = (X : Int) := by
    have h := and_ones (O := 18446744073709551615) (W := 64) hv (by decide) (by decide)
    rw [hX] at h
    exact h
  obtain ⟨Y, hY⟩ : ∃ Y, 2 ^ 64 - 1 - X = Y := ⟨_, rfl⟩
  have A2 : bits .xor .u64 (X : Int) 18446744073709551615 = (Y : Int) := by
    have h := u64_xor_nat X 18446744073709551615 (by omega) (by decide)
    have h2 := xor_ones hXl
    rw [show (2 : Nat) ^ 64 - 1 = 18446744073709551615 by decide] at h2 hY
    rw [h2, hY] at h
    exact h
  obtain ⟨L, hL⟩ : ∃ L, X % 2 ^ 32 = L := ⟨_, rfl⟩
  have hLl : L < 2 ^ 32 := by rw [← hL]; exact Nat.mod_lt _ (Nat.two_pow_pos _)
  have A3 : bits .and .u64 (X : Int) 4294967295 = (L : Int) := by
    have h := and_ones (v := X) (O := 4294967295) (W := 32) (by omega) (by decide) (by decide)
    rw [hL] at h
    exact h
  have A4 := or_twice (L := L) (by rw [show (2 : Nat) ^ 32 = 4294967296 by decide] at hLl; exact hLl)
  obtain ⟨M, hM⟩ : ∃ M, L * 2 ^ 32 + L = M := ⟨_, rfl⟩
  rw [hM] at A4
  obtain ⟨s3, n3, t3, s4, n4, t4, i, q3, q4⟩ := twice_pat hLl
  rw [hM] at q4
  obtain ⟨s, n, t, e, q1⟩ := patOut_ex (X : Int) 64
  have x1 : (0 : Int) ≤ X ∧ (X : Int) < 18446744073709551616 := by omega
  have x2 : (0 : Int) ≤ Y ∧ (Y : Int) < 18446744073709551616 := by omega
  have x3 : (0 : Int) ≤ L ∧ (L : Int) < 18446744073709551616 := by rw [show (2 : Nat) ^ 32 = 4294967296 by decide] at hLl; omega
  have x4 : (0 : Int) ≤ M ∧ (M : Int) < 18446744073709551616 := by rw [show (2 : Nat) ^ 32 = 4294967296 by decide] at hLl hM; omega
  have P1 := Lib.hid (fun w hT hB => pattern_out q1 x1.1 x1.2 w hT hB)
  have qz : PatOut 0 64 0 0 0 20 := zero_pat hW
  have qo : PatOut 18446744073709551615 64 0 0 0 20 := by
    have h := ones_pat hW
    rw [show (2 : Nat) ^ 64 - 1 = 18446744073709551615 by decide] at h
    exact h
  have FZ := Lib.hid (fun w hT hB => field_out qz (by decide) (by decide) w hT hB)
  have FO := Lib.hid (fun w hT hB => field_out qo (by decide) (by decide) w hT hB)
  have F3 := Lib.hid (fun w hT hB => field_out q3 x3.1 x3.2 w hT hB)
  have F4 := Lib.hid (fun w hT hB => field_out q4 x4.1 x4.2 w hT hB)
  have BG := Lib.hid (fun w hT hTB => begun_any w hT hTB)
  have HT := Lib.hid hT
  have HB := Lib.hid hTB
  have bb := Below.refl w.heap.size w
  have op := over_pat hW hXl q1
  rw [hY] at op
  have X2 := Lib.hid x2
  clear q1 q3 q4 qz qo hT hTB hp hX hXl hY hL hLl hM hv x1 x2 x3 x4
  rcases op with ⟨rfl, y1, y2, y3, t2, q2⟩ | ⟨rfl, rfl, rfl, q2⟩
  · have P2 := Lib.hid (fun w hT hB => pattern_out q2 X2.out.1 X2.out.2 w hT hB)
    clear q2
    have s1 : IntKind.i64.wrap (n + (s - n)) = s := by rw [show n + (s - n) = s by omega]; exact IntWalk.i64_in _ (by omega)
    go_enter Tryd.func7, Tryd.ntmps7
    go_wp2_with fail
    refine (P1.out _ (HT.out.keep HB.out bb) (by have := HB.out; have := bb.size; omega)).mono ?_
    rintro e1 w1 ⟨rfl, bn⟩
    replace bb := Below.thn bb bb.size bn
    clear bn
    go_wp2_with fail
    refine (P2.out _ (HT.out.keep HB.out bb) (by have := HB.out; have := bb.size; omega)).mono ?_
    rintro e1 w1 ⟨rfl, bn⟩
    replace bb := Below.thn bb bb.size bn
    clear bn
    go_wp2_with fail
    refine (FZ.out _ (HT.out.keep HB.out bb) (by have := HB.out; have := bb.size; omega)).mono ?_
    rintro e1 w1 ⟨rfl, bn⟩
    replace bb := Below.thn bb bb.size bn
    clear bn
    go_wp2_with fail
    refine (FO.out _ (HT.out.keep HB.out bb) (by have := HB.out; have := bb.size; omega)).mono ?_
    rintro e1 w1 ⟨rfl, bn⟩
    replace bb := Below.thn bb bb.size bn
    clear bn
    go_wp2_with fail
    refine (BG.out _ (HT.out.keep HB.out bb) (by have := HB.out; have := bb.size; omega)).mono ?_
    rintro e1 w1 ⟨rfl, bn⟩
    replace bb := Below.thn bb bb.size bn
    clear bn
    go_wp2_with fail
    refine (F3.out _ (HT.out.keep HB.out bb) (by have := HB.out; have := bb.size; omega)).mono ?_
    rintro e1 w1 ⟨rfl, bn⟩
    replace bb := Below.thn bb bb.size bn
    clear bn
    go_wp2_with fail
    refine (F4.out _ (HT.out.keep HB.out bb) (by have := HB.out; have := bb.size; omega)).mono ?_
    rintro e1 w1 ⟨rfl, bn⟩
    replace bb := Below.thn bb bb.size bn
    clear bn
    go_wp2
    go_ret
    exact ⟨rfl, bb⟩
  · have P2 := Lib.hid (fun w hT hB => pattern_out q2 X2.out.1 X2.out.2 w hT hB)
    clear q2
    go_enter Tryd.func7, Tryd.ntmps7
    go_wp2_with fail
    refine (P1.out _ (HT.out.keep HB.out bb) (by have := HB.out; have := bb.size; omega)).mono ?_
    rintro e1 w1 ⟨rfl, bn⟩
    replace bb := Below.thn bb bb.size bn
    clear bn
    go_wp2_with fail
    refine (P2.out _ (HT.out.keep HB.out bb) (by have := HB.out; have := bb.size; omega)).mono ?_
    rintro e1 w1 ⟨rfl, bn⟩
    replace bb := Below.thn bb bb.size bn
    clear bn
    go_wp2_with fail
    refine (FZ.out _ (HT.out.keep HB.out bb) (by have := HB.out; have := bb.size; omega)).mono ?_
    rintro e1 w1 ⟨rfl, bn⟩
    replace bb := Below.thn bb bb.size bn
    clear bn
    go_wp2_with fail
    refine (FO.out _ (HT.out.keep HB.out bb) (by have := HB.out; have := bb.size; omega)).mono ?_
    rintro e1 w1 ⟨rfl, bn⟩
    replace bb := Below.thn bb bb.size bn
    clear bn
    go_wp2_with fail
    refine (BG.out _ (HT.out.keep HB.out bb) (by have := HB.out; have := bb.size; omega)).mono ?_
    rintro e1 w1 ⟨rfl, bn⟩
    replace bb := Below.thn bb bb.size bn
    clear bn
    go_wp2_with fail
    refine (F3.out _ (HT.out.keep HB.out bb) (by have := HB.out; have := bb.size; omega)).mono ?_
    rintro e1 w1 ⟨rfl, bn⟩
    replace bb := Below.thn bb bb.size bn
    clear bn
    go_wp2_with fail
    refine (F4.out _ (HT.out.keep HB.out bb) (by have := HB.out; have := bb.size; omega)).mono ?_
    rintro e1 w1 ⟨rfl, bn⟩
    replace bb := Below.thn bb bb.size bn
    clear bn
    go_wp2
    go_ret
    exact ⟨rfl, bb⟩
theorem walk (v : Int) (wide : Bool) (w : World) (wv : (Lit.int .u64 v).wf = true) (hT : Tab w) (hTB : 0 < w.heap.size) :
    Calls Tryd.prog 7 #[.int .u64 v, .bool wide] w fun e w' => e = .returned (.bool true) ∧ Below w.heap.size w w' := by
  obtain ⟨b1, b2⟩ := u64_wf wv
  obtain ⟨V, rfl⟩ := Int.eq_ofNat_of_zero_le b1
  cases wide
  · exact walk32 V w (by omega) hT hTB
  · exact walk64 V w (by omega) hT hTB

theorem laidOut : laidOutB Tryd.prog = true := by kernel_rfl
set_option maxRecDepth 100000 in
theorem lifted (os : Os) (started : os.Started) (H : Type) (enc : TypeId × Value → H) :
    ReturnsInHanded {} Tryd.checked os 7 .any (fun w args => (Rows.logimmOverSpec.pre enc Tryd.prog Tryd.f7 [] false w args ∧ laidMetH Tryd.prog lay1 w) ∧ sizedMet enc Tryd.prog Tryd.f7 (OpenSpec.ofChange Rows.logimmOverSpec) false w args)
      (Rows.logimmOverSpec.post enc Tryd.prog Tryd.f7 false true false false) := by
  refine returnsInHanded_of_change_and (C := Tryd.checked) (X := fun w _ => laidMetH Tryd.prog lay1 w) (fun _ _ _ hh h => h.of_heap hh) own started (by kernel_rfl) Tryd.func7
    (ChangeSpec.witness_shaped (enc := enc) (C := Tryd.checked) (os := os) (X := fun w _ => laidMetH Tryd.prog lay1 w) false (World.doorLaid Tryd.prog 400 os) #[.int .u64 0, .bool false] 8 rfl (World.shaped_of_RefB (by kernel_rfl) (by kernel_rfl)) (by kernel_rfl) (by kernel_rfl) (by kernel_rfl) (door_met os _)) ?_
  intro W base args ds gs before hval0 hW _ _ hL _
  have hval : ∀ (j : Nat) t v, Tryd.f7.params[j]? = some t → args[j]? = some v → Value.okWide Tryd.prog W .any base t v := hval0
  have hW' := hW
  obtain ⟨p, q, hA0, hV, rfl, hfz, hnd⟩ := hW
  have hA : DataW.TrodAll enc Tryd.prog W 0 (fun _ => true) true Tryd.f7.params.toList args.toList ds p := hA0
  rw [Tryd.params7] at hA hval
  obtain ⟨v0, vs0, d0, ds0, p0, q0, hargs, rfl, rfl, h0, r0⟩ := trodAll_cons hA
  obtain ⟨v1, vs1, d1, ds1, p1, q1, rfl, rfl, rfl, h1, r1⟩ := trodAll_cons r0
  obtain ⟨rfl, rfl, rfl⟩ := trodAll_nil r1
  obtain rfl : args = #[v0, v1] := by cases args; simp_all
  obtain ⟨rfl, rfl⟩ := trodVars_none hV
  have k0 := h0
  have lt0 : ∀ x ∈ p0, x.block < W.heap.size := by obtain ⟨m, hm⟩ := k0; exact DataW.trod_lt m _ _ _ hm
  have k1 := h1
  have lt1 : ∀ x ∈ p1, x.block < W.heap.size := by obtain ⟨m, hm⟩ := k1; exact DataW.trod_lt m _ _ _ hm
  obtain ⟨a0, rfl, _, _, w0⟩ := open_int Tryd.underlying22 (hval 0 22 v0 rfl rfl) h0
  obtain ⟨a1, rfl, _, _⟩ := open_bool Tryd.underlying4 (hval 1 4 v1 rfl rfl) h1
  obtain ⟨hT, hTB⟩ := of_laid hL
  clear hA0 hval0
  refine (walk a0 a1 W w0 hT hTB).mono fun e W' ⟨he, bel⟩ => ?_
  subst he
  exact ⟨_, rfl, _, _, _, [], _, [], hW', trodAll_mk1 (shut_bool Tryd.underlying4 _), (trodAll_cons_mk (Below.trod laidOut (by kernel_rfl) (of_decide_eq_true (by kernel_rfl)) k0 bel lt0) (trodAll_cons_mk (Below.trod laidOut (by kernel_rfl) (of_decide_eq_true (by kernel_rfl)) k1 bel lt1) trodAll_mk0)), rfl, bel.frame _, fun h => by cases h⟩

theorem over : Rows.LogimmOverSaid :=
  OpenClaim.holds_of_wide 7 Tryd.f7 rfl rfl rfl rfl rfl rfl rfl ⟨rfl, rfl, rfl, rfl, rfl⟩ rfl rfl rfl rfl rfl (by kernel_rfl) Tryd.func7 (by kernel_rfl)
    (of_decide_eq_true (by kernel_rfl)) (by unfold Func.isWrapper; first | (rw [if_pos (by decide +kernel)]; kernel_rfl) | (rw [if_neg (by decide +kernel)]; exact ⟨rfl, rfl⟩))
    (fun os started H enc _ => lifted os started H enc)

/-- the given statement -/
theorem proved : Rows.LogimmOverCardSaid :=
  Claim7.holds_tied_plain_at .later [] [.data] true (true, "1710e428d98e2f2aae7cfdc6f48eb6bf3c29e586721ca67a7612e70795cc61d4") false
    over (fun _ h => by cases h) (by kernel_rfl) (fun _ h => by cases h) logimmOver_row_tie rfl ⟨rfl, rfl⟩ (by kernel_rfl) rfl
    (fun f fn hf hfn => by
      obtain rfl : f = 7 := Option.some.inj ((show Tryd.prog.funcNamed "cooper/cooperlaw02.LogimmOver" = some 7 by kernel_rfl).symm.trans hf) |>.symm
      obtain rfl : fn = Tryd.f7 := (Option.some.inj (Tryd.func7.symm.trans hfn)).symm
      exact ⟨by kernel_rfl, fun j t ht => by
        rw [Tryd.params7] at ht
        have hm : t ∈ Tryd.f7.params.toList := by
          have := Array.mem_of_getElem? ht
          simpa [Tryd.f7] using this
        have hall : (Tryd.f7.params.toList.all fun u => !Tryd.prog.wantsStandIn u) = true := by kernel_rfl
        exact (show Tryd.prog.wantsStandIn t = false by simpa using List.all_eq_true.1 hall t hm)⟩)
    (by kernel_rfl)
end Go.Proofs.YtmkeopglgfddjaaDoor.logimmOver
