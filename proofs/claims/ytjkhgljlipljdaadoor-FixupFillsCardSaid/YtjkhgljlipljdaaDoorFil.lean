/-
  What each call of the document's op returns, and of its Word, Bytes. Conditions: a near hole; four bytes.
-/
import Derived.Test.YtjkhgljlipljdaaDoorBak
import Derived.Test.YtjkhgljlipljdaaDoorBitsF
import Derived.Deep.AppendLies
import Derived.OwnWalk
import Derived.WalkSmall
namespace Go.Proofs.YtjkhgljlipljdaaDoor
open Go.RowKit
set_option linter.unusedVariables false
set_option linter.unusedSimpArgs false
theorem near_cases {k s : Int} (hok : holeOk k s = true) (hn : nearB (shR k s) = true) : s = 0 ∧ (k = 1 ∨ k = 2 ∨ k = 3 ∨ k = 4 ∨ k = 5 ∨ k = 6) := by
  have hk := near_k hok
  rw [hn] at hk
  have hk6 := of_decide_eq_true hk.symm
  simp only [holeOk, Bool.and_eq_true, Bool.or_eq_true, decide_eq_true_eq] at hok
  omega
theorem op_any (h : Hl) (w : World) (hok : holeOk h.k h.s = true) (hn : nearB (shR h.k h.s) = true) :
    Calls Tryd.prog 53 #[hlV h] w fun e w' => e = .returned (.tuple #[.int .i64 (shR h.k h.s).o, .int .i64 (shR h.k h.s).t]) ∧ Below w.heap.size w w' := by
  have hc := near_cases hok hn
  obtain ⟨k, s, a, p, m⟩ := h
  unfold hlV
  simp only at *
  have HB := Lib.hid (below1 w (.cells #[.int .i64 k, .int .i64 s, .int .i64 a, .string p, .string m] 25))
  clear hok hn
  obtain ⟨rfl, hc⟩ := hc
  rcases hc with rfl | rfl | rfl | rfl | rfl | rfl
  · rw [show (shR 1 0).o = 8 by decide, show (shR 1 0).t = 4 by decide]
    go_enter Tryd.func53, Tryd.ntmps53
    go_wp2
    go_ret2
    exact ⟨rfl, HB.out⟩
  · rw [show (shR 2 0).o = 8 by decide, show (shR 2 0).t = 4 by decide]
    go_enter Tryd.func53, Tryd.ntmps53
    go_wp2
    go_ret2
    exact ⟨rfl, HB.out⟩
  · rw [show (shR 3 0).o = 7 by decide, show (shR 3 0).t = 4 by decide]
    go_enter Tryd.func53, Tryd.ntmps53
    go_wp2
    go_ret2
    exact ⟨rfl, HB.out⟩
  · rw [show (shR 4 0).o = 10 by decide, show (shR 4 0).t = 4 by decide]
    go_enter Tryd.func53, Tryd.ntmps53
    go_wp2
    go_ret2
    exact ⟨rfl, HB.out⟩
  · rw [show (shR 5 0).o = 18 by decide, show (shR 5 0).t = 4 by decide]
    go_enter Tryd.func53, Tryd.ntmps53
    go_wp2
    go_ret2
    exact ⟨rfl, HB.out⟩
  · rw [show (shR 6 0).o = 1 by decide, show (shR 6 0).t = 1 by decide]
    go_enter Tryd.func53, Tryd.ntmps53
    go_wp2
    go_ret2
    exact ⟨rfl, HB.out⟩
set_option maxHeartbeats 400000 in
theorem rbytes_any (x : Int) (w : World) (b1 : 0 ≤ x) (b2 : x < 4294967296) :
    Calls Tryd.prog 55 #[.int .u32 x] w fun e w' => e = .returned (.slice (some ⟨w.heap.size, 0, none⟩) 4 4) ∧
      w.alloc (.cells #[.int .u8 (x % 256), .int .u8 (x / 256 % 256), .int .u8 (x / 65536 % 256), .int .u8 (x / 16777216)] 5) = w' := by
  go_enter Tryd.func55, Tryd.ntmps55
  go_wp2
  go_ret
  exact ⟨rfl, rfl⟩
set_option maxHeartbeats 1000000 in
theorem rword_any (x0 x1 x2 x3 : Int) (b off cap : Nat) (w : World) (a0 : 0 ≤ x0) (b0 : x0 < 256) (a1 : 0 ≤ x1) (b1 : x1 < 256) (a2 : 0 ≤ x2) (b2 : x2 < 256) (a3 : 0 ≤ x3) (b3 : x3 < 256)
    (c0 : w.cell? ⟨b, off, none⟩ = some (.int .u8 x0)) (c1 : w.cell? ⟨b, off + 1, none⟩ = some (.int .u8 x1)) (c2 : w.cell? ⟨b, off + 2, none⟩ = some (.int .u8 x2)) (c3 : w.cell? ⟨b, off + 3, none⟩ = some (.int .u8 x3)) :
    Calls Tryd.prog 52 #[.slice (some ⟨b, off, none⟩) 4 cap] w fun e w' => e = .returned (.tuple #[.int .u32 (w4I x0 x1 x2 x3), .int .i64 0]) ∧ Below w.heap.size w w' := by
  have hw : x0 + 256 * x1 + 65536 * x2 + 16777216 * x3 = w4I x0 x1 x2 x3 := rfl
  go_enter Tryd.func52, Tryd.ntmps52
  go_wp2_with fail
  go_quiet (fail)
  go_wp2
  go_ret2
  exact ⟨rfl, below_drewN (Below.refl _ _) _⟩
end Go.Proofs.YtjkhgljlipljdaaDoor
namespace Go.Proofs.YtjkhgljlipljdaaDoor
open Go.RowKit
set_option linter.unusedVariables false
set_option linter.unusedSimpArgs false
theorem mix_put {x wd mk l n : Nat} (hx : x < 2 ^ 32) (hm : mk < 2 ^ 32) (hb : ∀ i, mk.testBit i = decide (l ≤ i ∧ i < l + n)) : mixN x wd mk = BM.putN x l n (wd / 2 ^ l % 2 ^ n) := by
  have h1 := BM.split3 x l n
  have h2 := BM.split3 (mixN x wd mk) l n
  have e1 : BM.getN (mixN x wd mk) l n = wd / 2 ^ l % 2 ^ n := mix_fld hx hm (fun i a b => by rw [hb]; exact decide_eq_true ⟨a, b⟩)
  have e2 : mixN x wd mk % 2 ^ l = x % 2 ^ l := by
    have := @fld_eq (mixN x wd mk) x 0 l (fun j hj => by unfold mixN; rw [mix_bit x wd mk _ hx hm, hb, if_neg (by simp <;> omega)])
    simpa using this
  have e3 : mixN x wd mk / 2 ^ (l + n) = x / 2 ^ (l + n) := by
    have := @fld_eq (mixN x wd mk) x (l + n) 32 (fun j hj => by unfold mixN; rw [mix_bit x wd mk _ hx hm, hb, if_neg (by simp <;> omega)])
    rw [Nat.mod_eq_of_lt (Nat.lt_of_le_of_lt (Nat.div_le_self _ _) (mix_lt hx hm)), Nat.mod_eq_of_lt (Nat.lt_of_le_of_lt (Nat.div_le_self _ _) hx)] at this
    exact this
  rw [e1, e2, e3] at h2
  unfold BM.putN
  have h3 : BM.getN x l n * 2 ^ l ≤ x := by rw [Nat.mul_comm]; omega
  rw [Nat.mul_comm (BM.getN x l n), Nat.mul_comm (wd / 2 ^ l % 2 ^ n)] at *
  omega
theorem mix_two {x wd mk m1 m2 : Nat} (hx : x < 2 ^ 32) (hm : mk < 2 ^ 32) (h1 : m1 < 2 ^ 32) (h2 : m2 < 2 ^ 32) (hb : ∀ i, mk.testBit i = (m2.testBit i || m1.testBit i)) : mixN x wd mk = mixN (mixN x wd m1) wd m2 := by
  apply Nat.eq_of_testBit_eq
  intro i
  have e1 := mix_bit (mixN x wd m1) wd m2 i (mix_lt hx h1) h2
  have e2 := mix_bit x wd m1 i hx h1
  have e3 := mix_bit x wd mk i hx hm
  unfold mixN at *
  rw [e1, e2, e3, hb]
  cases m1.testBit i <;> cases m2.testBit i <;> rfl
theorem mask29 (i : Nat) : (1610612736 : Nat).testBit i = decide (29 ≤ i ∧ i < 31) := mk_bits _ (by decide) (fun i => decide (29 ≤ i ∧ i < 31)) (by decide) (fun i hi => decide_eq_false (by omega)) i
theorem put_eq (x l n v : Nat) : Bit.putI (x : Int) (l : Int) (n : Int) (v : Int) = ((BM.putN x l n v : Nat) : Int) := by
  unfold Bit.putI
  simp
theorem low_of (a : Int) (n : Nat) (hn : n < 64) (w : World) :
    Calls Tryd.prog 29 #[.int .u64 (IntKind.u64.wrap a), .int .i64 (n : Int)] w fun e w' => e = .returned (.int .u64 (((a % 2 ^ n).toNat : Nat) : Int)) ∧ w = w' := by
  have hw : IntKind.u64.wrap a = a % 18446744073709551616 := IntKind.wrap_u64 a
  have := Bit.low_any (IntKind.u64.wrap a) (n : Int) w (by rw [hw]; omega) (by omega) (by omega)
  rw [show IntKind.u64.wrap a % Bit.powI (n : Int) = (((a % 2 ^ n).toNat : Nat) : Int) from ?_] at this
  · exact this
  · rw [hw, Bit.powI_sub, Int.toNat_natCast, Int.toNat_of_nonneg (Int.emod_nonneg _ (Int.ne_of_gt (Int.pow_pos (by decide))))]
    refine Int.emod_emod_of_dvd a ?_
    exact ⟨2 ^ (64 - n), by rw [← Int.pow_add, show n + (64 - n) = 64 by omega]; rfl⟩
theorem set_8 (x : Nat) (a : Int) (hx : x < 4294967296) : BM.putN x 0 26 (a % 2 ^ 26).toNat = setM x 8 a := by
  have h := @mix_put x (wdN 8 a) 67108863 0 26 (by omega) (by decide) (fun i => (mask8 i).trans (by first | rfl | (congr 1; apply propext; omega)))
  have e : wdN 8 a / 2 ^ 0 % 2 ^ 26 = (a % 2 ^ 26).toNat := by
    show (335544320 + (a % 67108864).toNat) / 2 ^ 0 % 2 ^ 26 = (a % 67108864).toNat
    have : (a % 67108864).toNat < 67108864 := by omega
    omega
  rw [e] at h
  exact h.symm
set_option maxHeartbeats 1000000 in
theorem rsets_8 (x : Nat) (a : Int) (w : World) (hx : x < 4294967296) (ha : -9223372036854775808 ≤ a ∧ a ≤ 9223372036854775807) (hf : sfitB a 26 = true) :
    Calls Tryd.prog 54 #[.int .u32 (x : Int), .int .i64 8, .int .i64 a] w fun e w' => e = .returned (.tuple #[.int .u32 ((setM x 8 a : Nat) : Int), .int .i64 0]) ∧ Below w.heap.size w w' := by
  have FI := Lib.hid (fun W => Bit.rfits_s a 26 W ha.1 ha.2 (by decide) (by decide))
  rw [← Bit.fits_sv (by decide), show (a / 2 ^ ((26 : Int).toNat - 1) == 0 || a / 2 ^ ((26 : Int).toNat - 1) == -1) = true from hf] at FI
  have LO := Lib.hid (fun W => low_of a 26 (by decide) W)
  have hv : (a % 2 ^ 26).toNat < 67108864 := by
    have : (2 : Int) ^ 26 = 67108864 := by decide
    rw [this]; omega
  have hs := set_8 x a hx
  generalize (a % 2 ^ 26).toNat = V at *
  have PU := Lib.hid (fun W => Bit.rput_yes (x : Int) 0 26 (V : Int) W (by omega) (by omega) (by omega) (by omega) (by decide) (by decide) (by decide) (by decide) (by decide) (by show (V : Int) < ((2 ^ 26 : Nat) : Int); omega))
  rw [show Bit.putI (x : Int) 0 26 (V : Int) = ((BM.putN x 0 26 V : Nat) : Int) from put_eq x 0 26 V, hs] at PU
  generalize setM x 8 a = R at *
  clear hs hf ha
  go_enter Tryd.func54, Tryd.ntmps54
  go_wp2_with fail
  refine (FI.out _).mono ?_
  rintro e w1 ⟨rfl, rfl⟩
  go_wp2_with fail
  refine (LO.out _).mono ?_
  rintro e w2 ⟨rfl, rfl⟩
  go_wp2_with fail
  refine (PU.out _).mono ?_
  rintro e w3 ⟨rfl, hb⟩
  go_wp2_with fail
  go_ret2
  exact ⟨rfl, hb⟩
theorem set_7 (x : Nat) (a : Int) (hx : x < 4294967296) : BM.putN x 5 19 (a % 2 ^ 19).toNat = setM x 7 a := by
  have h := @mix_put x (wdN 7 a) 16777184 5 19 (by omega) (by decide) (fun i => (mask7 i).trans (by first | rfl | (congr 1; apply propext; omega)))
  have e : wdN 7 a / 2 ^ 5 % 2 ^ 19 = (a % 2 ^ 19).toNat := by
    show (1409286144 + (a % 524288).toNat * 32) / 2 ^ 5 % 2 ^ 19 = (a % 524288).toNat
    have : (a % 524288).toNat < 524288 := by omega
    omega
  rw [e] at h
  exact h.symm
set_option maxHeartbeats 1000000 in
theorem rsets_7 (x : Nat) (a : Int) (w : World) (hx : x < 4294967296) (ha : -9223372036854775808 ≤ a ∧ a ≤ 9223372036854775807) (hf : sfitB a 19 = true) :
    Calls Tryd.prog 54 #[.int .u32 (x : Int), .int .i64 7, .int .i64 a] w fun e w' => e = .returned (.tuple #[.int .u32 ((setM x 7 a : Nat) : Int), .int .i64 0]) ∧ Below w.heap.size w w' := by
  have FI := Lib.hid (fun W => Bit.rfits_s a 19 W ha.1 ha.2 (by decide) (by decide))
  rw [← Bit.fits_sv (by decide), show (a / 2 ^ ((19 : Int).toNat - 1) == 0 || a / 2 ^ ((19 : Int).toNat - 1) == -1) = true from hf] at FI
  have LO := Lib.hid (fun W => low_of a 19 (by decide) W)
  have hv : (a % 2 ^ 19).toNat < 524288 := by
    have : (2 : Int) ^ 19 = 524288 := by decide
    rw [this]; omega
  have hs := set_7 x a hx
  generalize (a % 2 ^ 19).toNat = V at *
  have PU := Lib.hid (fun W => Bit.rput_yes (x : Int) 5 19 (V : Int) W (by omega) (by omega) (by omega) (by omega) (by decide) (by decide) (by decide) (by decide) (by decide) (by show (V : Int) < ((2 ^ 19 : Nat) : Int); omega))
  rw [show Bit.putI (x : Int) 5 19 (V : Int) = ((BM.putN x 5 19 V : Nat) : Int) from put_eq x 5 19 V, hs] at PU
  generalize setM x 7 a = R at *
  clear hs hf ha
  go_enter Tryd.func54, Tryd.ntmps54
  go_wp2_with fail
  refine (FI.out _).mono ?_
  rintro e w1 ⟨rfl, rfl⟩
  go_wp2_with fail
  refine (LO.out _).mono ?_
  rintro e w2 ⟨rfl, rfl⟩
  go_wp2_with fail
  refine (PU.out _).mono ?_
  rintro e w3 ⟨rfl, hb⟩
  go_wp2_with fail
  go_ret2
  exact ⟨rfl, hb⟩
theorem set_10 (x : Nat) (a : Int) (hx : x < 4294967296) : BM.putN x 5 14 (a % 2 ^ 14).toNat = setM x 10 a := by
  have h := @mix_put x (wdN 10 a) 524256 5 14 (by omega) (by decide) (fun i => (mask10 i).trans (by first | rfl | (congr 1; apply propext; omega)))
  have e : wdN 10 a / 2 ^ 5 % 2 ^ 14 = (a % 2 ^ 14).toNat := by
    show (905969664 + (a % 16384).toNat * 32) / 2 ^ 5 % 2 ^ 14 = (a % 16384).toNat
    have : (a % 16384).toNat < 16384 := by omega
    omega
  rw [e] at h
  exact h.symm
set_option maxHeartbeats 1000000 in
theorem rsets_10 (x : Nat) (a : Int) (w : World) (hx : x < 4294967296) (ha : -9223372036854775808 ≤ a ∧ a ≤ 9223372036854775807) (hf : sfitB a 14 = true) :
    Calls Tryd.prog 54 #[.int .u32 (x : Int), .int .i64 10, .int .i64 a] w fun e w' => e = .returned (.tuple #[.int .u32 ((setM x 10 a : Nat) : Int), .int .i64 0]) ∧ Below w.heap.size w w' := by
  have FI := Lib.hid (fun W => Bit.rfits_s a 14 W ha.1 ha.2 (by decide) (by decide))
  rw [← Bit.fits_sv (by decide), show (a / 2 ^ ((14 : Int).toNat - 1) == 0 || a / 2 ^ ((14 : Int).toNat - 1) == -1) = true from hf] at FI
  have LO := Lib.hid (fun W => low_of a 14 (by decide) W)
  have hv : (a % 2 ^ 14).toNat < 16384 := by
    have : (2 : Int) ^ 14 = 16384 := by decide
    rw [this]; omega
  have hs := set_10 x a hx
  generalize (a % 2 ^ 14).toNat = V at *
  have PU := Lib.hid (fun W => Bit.rput_yes (x : Int) 5 14 (V : Int) W (by omega) (by omega) (by omega) (by omega) (by decide) (by decide) (by decide) (by decide) (by decide) (by show (V : Int) < ((2 ^ 14 : Nat) : Int); omega))
  rw [show Bit.putI (x : Int) 5 14 (V : Int) = ((BM.putN x 5 14 V : Nat) : Int) from put_eq x 5 14 V, hs] at PU
  generalize setM x 10 a = R at *
  clear hs hf ha
  go_enter Tryd.func54, Tryd.ntmps54
  go_wp2_with fail
  refine (FI.out _).mono ?_
  rintro e w1 ⟨rfl, rfl⟩
  go_wp2_with fail
  refine (LO.out _).mono ?_
  rintro e w2 ⟨rfl, rfl⟩
  go_wp2_with fail
  refine (PU.out _).mono ?_
  rintro e w3 ⟨rfl, hb⟩
  go_wp2_with fail
  go_ret2
  exact ⟨rfl, hb⟩
theorem set_18 (x : Nat) (a : Int) (hx : x < 4294967296) : BM.putN x 5 19 (a % 2 ^ 19).toNat = setM x 18 a := by
  have h := @mix_put x (wdN 18 a) 16777184 5 19 (by omega) (by decide) (fun i => (mask7 i).trans (by first | rfl | (congr 1; apply propext; omega)))
  have e : wdN 18 a / 2 ^ 5 % 2 ^ 19 = (a % 2 ^ 19).toNat := by
    show (402653184 + (a % 524288).toNat * 32) / 2 ^ 5 % 2 ^ 19 = (a % 524288).toNat
    have : (a % 524288).toNat < 524288 := by omega
    omega
  rw [e] at h
  exact h.symm
set_option maxHeartbeats 1000000 in
theorem rsets_18 (x : Nat) (a : Int) (w : World) (hx : x < 4294967296) (ha : -9223372036854775808 ≤ a ∧ a ≤ 9223372036854775807) (hf : sfitB a 19 = true) :
    Calls Tryd.prog 54 #[.int .u32 (x : Int), .int .i64 18, .int .i64 a] w fun e w' => e = .returned (.tuple #[.int .u32 ((setM x 18 a : Nat) : Int), .int .i64 0]) ∧ Below w.heap.size w w' := by
  have FI := Lib.hid (fun W => Bit.rfits_s a 19 W ha.1 ha.2 (by decide) (by decide))
  rw [← Bit.fits_sv (by decide), show (a / 2 ^ ((19 : Int).toNat - 1) == 0 || a / 2 ^ ((19 : Int).toNat - 1) == -1) = true from hf] at FI
  have LO := Lib.hid (fun W => low_of a 19 (by decide) W)
  have hv : (a % 2 ^ 19).toNat < 524288 := by
    have : (2 : Int) ^ 19 = 524288 := by decide
    rw [this]; omega
  have hs := set_18 x a hx
  generalize (a % 2 ^ 19).toNat = V at *
  have PU := Lib.hid (fun W => Bit.rput_yes (x : Int) 5 19 (V : Int) W (by omega) (by omega) (by omega) (by omega) (by decide) (by decide) (by decide) (by decide) (by decide) (by show (V : Int) < ((2 ^ 19 : Nat) : Int); omega))
  rw [show Bit.putI (x : Int) 5 19 (V : Int) = ((BM.putN x 5 19 V : Nat) : Int) from put_eq x 5 19 V, hs] at PU
  generalize setM x 18 a = R at *
  clear hs hf ha
  go_enter Tryd.func54, Tryd.ntmps54
  go_wp2_with fail
  refine (FI.out _).mono ?_
  rintro e w1 ⟨rfl, rfl⟩
  go_wp2_with fail
  refine (LO.out _).mono ?_
  rintro e w2 ⟨rfl, rfl⟩
  go_wp2_with fail
  refine (PU.out _).mono ?_
  rintro e w3 ⟨rfl, hb⟩
  go_wp2_with fail
  go_ret2
  exact ⟨rfl, hb⟩
theorem set_1 (x : Nat) (a : Int) (hx : x < 4294967296) : BM.putN (BM.putN x 29 2 ((a % 2 ^ 21).toNat % 4)) 5 19 ((a % 2 ^ 21).toNat / 4) = setM x 1 a := by
  have l1 : (a % 4).toNat < 4 := by omega
  have l2 : (a / 4 % 524288).toNat < 524288 := by omega
  have l3 : (a % 2097152).toNat = (a % 4).toNat + 4 * (a / 4 % 524288).toNat := by omega
  have ev : (a % 2 ^ 21).toNat = (a % 4).toNat + 4 * (a / 4 % 524288).toNat := l3
  have ew : wdN 1 a = 268435456 + (a % 4).toNat * 536870912 + (a / 4 % 524288).toNat * 32 := rfl
  have h0 : setM x 1 a = mixN x (wdN 1 a) 1627389920 := rfl
  rw [h0, mix_two (m1 := 1610612736) (m2 := 16777184) (by omega) (by decide) (by decide) (by decide) (fun i => by rw [mask1, mask29, mask7, Bool.decide_or])]
  rw [mix_put (l := 5) (n := 19) (mix_lt (by omega) (by decide)) (by decide) (fun i => mask7 i), mix_put (l := 29) (n := 2) (by omega) (by decide) (fun i => mask29 i)]
  rw [ev, ew, two_A _ _ l1 l2, two_B _ _ l1 l2]
  generalize (a % 4).toNat = A at *
  generalize (a / 4 % 524288).toNat = B at *
  rw [show (A + 4 * B) % 4 = A by omega, show (A + 4 * B) / 4 = B by omega]
theorem put_lt (x v : Nat) (hx : x < 4294967296) (hv : v < 4) : BM.putN x 29 2 v < 4294967296 := by
  unfold BM.putN BM.getN
  have : x / 2 ^ 29 % 2 ^ 2 = x / 536870912 % 4 := rfl
  rw [this, show (2 : Nat) ^ 29 = 536870912 from rfl]
  omega
set_option maxHeartbeats 1000000 in
theorem rsets_1 (x : Nat) (a : Int) (w : World) (hx : x < 4294967296) (ha : -9223372036854775808 ≤ a ∧ a ≤ 9223372036854775807) (hf : sfitB a 21 = true) :
    Calls Tryd.prog 54 #[.int .u32 (x : Int), .int .i64 1, .int .i64 a] w fun e w' => e = .returned (.tuple #[.int .u32 ((setM x 1 a : Nat) : Int), .int .i64 0]) ∧ Below w.heap.size w w' := by
  have FI := Lib.hid (fun W => Bit.rfits_s a 21 W ha.1 ha.2 (by decide) (by decide))
  rw [← Bit.fits_sv (by decide), show (a / 2 ^ ((21 : Int).toNat - 1) == 0 || a / 2 ^ ((21 : Int).toNat - 1) == -1) = true from hf] at FI
  have LO := Lib.hid (fun W => low_of a 21 (by decide) W)
  have hv : (a % 2 ^ 21).toNat < 2097152 := by
    have : (2 : Int) ^ 21 = 2097152 := by decide
    rw [this]; omega
  have hs := set_1 x a hx
  generalize (a % 2 ^ 21).toNat = V at *
  have PU := Lib.hid (fun W => Bit.rput_yes (x : Int) 29 2 ((V % 4 : Nat) : Int) W (by omega) (by omega) (by omega) (by omega) (by decide) (by decide) (by decide) (by decide) (by decide) (by show ((V % 4 : Nat) : Int) < ((2 ^ 2 : Nat) : Int); omega))
  rw [show Bit.putI (x : Int) 29 2 ((V % 4 : Nat) : Int) = ((BM.putN x 29 2 (V % 4) : Nat) : Int) from put_eq x 29 2 _] at PU
  have hy := put_lt x (V % 4) hx (by omega)
  generalize BM.putN x 29 2 (V % 4) = Y at *
  have PV := Lib.hid (fun W => Bit.rput_yes (Y : Int) 5 19 ((V / 4 : Nat) : Int) W (by omega) (by omega) (by omega) (by omega) (by decide) (by decide) (by decide) (by decide) (by decide) (by show ((V / 4 : Nat) : Int) < ((2 ^ 19 : Nat) : Int); omega))
  rw [show Bit.putI (Y : Int) 5 19 ((V / 4 : Nat) : Int) = ((BM.putN Y 5 19 (V / 4) : Nat) : Int) from put_eq Y 5 19 _, hs] at PV
  generalize setM x 1 a = R at *
  rw [Int.natCast_emod] at PU
  rw [Int.natCast_ediv] at PV
  clear hs hf ha
  go_enter Tryd.func54, Tryd.ntmps54
  go_wp2_with fail
  refine (FI.out _).mono ?_
  rintro e w1 ⟨rfl, rfl⟩
  go_wp2_with fail
  refine (LO.out _).mono ?_
  rintro e w2 ⟨rfl, rfl⟩
  go_wp2_with fail
  refine (PU.out _).mono ?_
  rintro e w3 ⟨rfl, hb⟩
  go_wp2_with fail
  refine (PV.out _).mono ?_
  rintro e w4 ⟨rfl, hb4⟩
  go_wp2_with fail
  go_ret2
  exact ⟨rfl, hb.trans (hb4.mono hb.size)⟩
theorem rsets_any {op : Int} (hb : brOp op) (x : Nat) (a : Int) (w : World) (hx : x < 4294967296) (ha : -9223372036854775808 ≤ a ∧ a ≤ 9223372036854775807) (hf : sfitB a (wiN op) = true) :
    Calls Tryd.prog 54 #[.int .u32 (x : Int), .int .i64 op, .int .i64 a] w fun e w' => e = .returned (.tuple #[.int .u32 ((setM x op a : Nat) : Int), .int .i64 0]) ∧ Below w.heap.size w w' := by
  rcases hb with rfl | rfl | rfl | rfl | rfl
  · exact rsets_8 x a w hx ha hf
  · exact rsets_7 x a w hx ha hf
  · exact rsets_10 x a w hx ha hf
  · exact rsets_18 x a w hx ha hf
  · exact rsets_1 x a w hx ha hf
end Go.Proofs.YtjkhgljlipljdaaDoor
namespace Go.Proofs.YtjkhgljlipljdaaDoor
open Go.RowKit
set_option linter.unusedVariables false
set_option linter.unusedSimpArgs false
theorem fill_k {k s : Int} (hok : holeOk k s = true) : filledB (shR k s) = (decide (k ≤ 6) || decide (10 ≤ k)) := by
  obtain ⟨⟨K, S⟩, hx, rfl, rfl⟩ := holes_all hok
  simp only [holesL, List.mem_cons, Prod.mk.injEq, List.not_mem_nil, or_false] at hx
  rcases hx with ⟨rfl, rfl⟩ | ⟨rfl, rfl⟩ | ⟨rfl, rfl⟩ | ⟨rfl, rfl⟩ | ⟨rfl, rfl⟩ | ⟨rfl, rfl⟩ | ⟨rfl, rfl⟩ | ⟨rfl, rfl⟩ | ⟨rfl, rfl⟩ | ⟨rfl, rfl⟩ | ⟨rfl, rfl⟩ | ⟨rfl, rfl⟩ | ⟨rfl, rfl⟩ | ⟨rfl, rfl⟩ | ⟨rfl, rfl⟩
  all_goals decide
theorem kept_cell {w w1 : World} {g o : Nat} {v : Value} (hb : Below w.heap.size w w1) (h : w.cell? ⟨g, o, none⟩ = some v) : w1.cell? ⟨g, o, none⟩ = some v := cell_kept hb h
set_option maxHeartbeats 2000000 in
theorem rfill_e0 (h : Hl) (v : Int) (a : Option Addr) (len cap : Nat) (w : World) (hok : holeOk h.k h.s = false) :
    Calls Tryd.prog 25 #[.slice a len cap, hlV h, .int .i64 v] w fun e w' => e = .returned (.tuple #[.slice none 0 0, .int .i64 1]) ∧ Below w.heap.size w w' := by
  have CK := Lib.hid (fun W => rcheck_any h W)
  have HB0 := Lib.hid (below1 w (.cells #[.int .i64 h.k, .int .i64 h.s, .int .i64 h.a, .string h.p, .string h.m] 25))
  have G0 := Lib.hid (heap_alloc_new w (.cells #[.int .i64 h.k, .int .i64 h.s, .int .i64 h.a, .string h.p, .string h.m] 25))
  rw [show chkI h.k h.s = 1 by simp [chkI, hok]] at CK
  clear hok
  obtain ⟨k, s, ad, p, m⟩ := h
  unfold hlV at *
  simp only at *
  go_enter Tryd.func25, Tryd.ntmps25
  go_wp2_with fail
  refine (CK.out _).mono ?_
  rintro e w1 ⟨rfl, hb⟩
  have G1 := Lib.hid (kept_v hb G0.out)
  have HB1 := Lib.hid (HB0.out.trans (hb.mono HB0.out.size))
  clear hb
  obtain ⟨f0, c0, c1, c2, c3, c4⟩ := fiveH G1.out
  go_wp2_with fail
  go_ret2
  exact ⟨rfl, HB1.out⟩
set_option maxHeartbeats 2000000 in
theorem rfill_e1 (h : Hl) (v : Int) (a : Option Addr) (len cap : Nat) (w : World) (hok : holeOk h.k h.s = true) (hl : ((len : Int) != (shR h.k h.s).w) = true) :
    Calls Tryd.prog 25 #[.slice a len cap, hlV h, .int .i64 v] w fun e w' => e = .returned (.tuple #[.slice none 0 0, .int .i64 1]) ∧ Below w.heap.size w w' := by
  have CK := Lib.hid (fun W => rcheck_any h W)
  have WI := Lib.hid (fun W => rwidth_any h W)
  have HB0 := Lib.hid (below1 w (.cells #[.int .i64 h.k, .int .i64 h.s, .int .i64 h.a, .string h.p, .string h.m] 25))
  have G0 := Lib.hid (heap_alloc_new w (.cells #[.int .i64 h.k, .int .i64 h.s, .int .i64 h.a, .string h.p, .string h.m] 25))
  rw [show chkI h.k h.s = 0 by simp [chkI, hok]] at CK
  generalize (shR h.k h.s).w = y at *
  clear hok
  obtain ⟨k, s, ad, p, m⟩ := h
  unfold hlV at *
  simp only at *
  go_enter Tryd.func25, Tryd.ntmps25
  go_wp2_with fail
  refine (CK.out _).mono ?_
  rintro e w1 ⟨rfl, hb⟩
  have G1 := Lib.hid (kept_v hb G0.out)
  have HB1 := Lib.hid (HB0.out.trans (hb.mono HB0.out.size))
  clear hb
  obtain ⟨f0, c0, c1, c2, c3, c4⟩ := fiveH G1.out
  go_wp2_with fail
  refine (WI.out _).mono ?_
  rintro e w2 ⟨rfl, hb⟩
  have G2 := Lib.hid (kept_v hb G1.out)
  have HB2 := Lib.hid (HB1.out.trans (hb.mono HB1.out.size))
  clear f0 c0 c1 c2 c3 c4
  clear hb
  obtain ⟨f0, c0, c1, c2, c3, c4⟩ := fiveH G2.out
  go_wp2_with fail
  go_ret2
  exact ⟨rfl, HB2.out⟩
set_option maxHeartbeats 2000000 in
theorem rfill_e2 (h : Hl) (v : Int) (a : Option Addr) (len cap : Nat) (w : World) (hok : holeOk h.k h.s = true) (hl : (len : Int) = (shR h.k h.s).w) (h1 : decide (h.k ≤ 6) = false) (h2 : decide (10 ≤ h.k) = false) :
    Calls Tryd.prog 25 #[.slice a len cap, hlV h, .int .i64 v] w fun e w' => e = .returned (.tuple #[.slice none 0 0, .int .i64 180]) ∧ Below w.heap.size w w' := by
  have CK := Lib.hid (fun W => rcheck_any h W)
  have WI := Lib.hid (fun W => rwidth_any h W)
  have NE := Lib.hid (fun W => near_any h W)
  have DA := Lib.hid (fun W => data_any h W)
  have HB0 := Lib.hid (below1 w (.cells #[.int .i64 h.k, .int .i64 h.s, .int .i64 h.a, .string h.p, .string h.m] 25))
  have G0 := Lib.hid (heap_alloc_new w (.cells #[.int .i64 h.k, .int .i64 h.s, .int .i64 h.a, .string h.p, .string h.m] 25))
  rw [show chkI h.k h.s = 0 by simp [chkI, hok]] at CK
  rw [← hl] at WI
  rw [h1] at NE
  rw [h2] at DA
  clear hok hl h1 h2
  obtain ⟨k, s, ad, p, m⟩ := h
  unfold hlV at *
  simp only at *
  go_enter Tryd.func25, Tryd.ntmps25
  go_wp2_with fail
  refine (CK.out _).mono ?_
  rintro e w1 ⟨rfl, hb⟩
  have G1 := Lib.hid (kept_v hb G0.out)
  have HB1 := Lib.hid (HB0.out.trans (hb.mono HB0.out.size))
  clear hb
  obtain ⟨f0, c0, c1, c2, c3, c4⟩ := fiveH G1.out
  go_wp2_with fail
  refine (WI.out _).mono ?_
  rintro e w2 ⟨rfl, hb⟩
  have G2 := Lib.hid (kept_v hb G1.out)
  have HB2 := Lib.hid (HB1.out.trans (hb.mono HB1.out.size))
  clear f0 c0 c1 c2 c3 c4
  clear hb
  obtain ⟨f0, c0, c1, c2, c3, c4⟩ := fiveH G2.out
  go_wp2_with fail
  refine (NE.out _).mono ?_
  rintro e w3 ⟨rfl, hb⟩
  have G3 := Lib.hid (kept_v hb G2.out)
  have HB3 := Lib.hid (HB2.out.trans (hb.mono HB2.out.size))
  clear f0 c0 c1 c2 c3 c4
  clear hb
  obtain ⟨f0, c0, c1, c2, c3, c4⟩ := fiveH G3.out
  go_wp2_with fail
  refine (DA.out _).mono ?_
  rintro e w4 ⟨rfl, hb⟩
  have G4 := Lib.hid (kept_v hb G3.out)
  have HB4 := Lib.hid (HB3.out.trans (hb.mono HB3.out.size))
  clear f0 c0 c1 c2 c3 c4
  clear hb
  obtain ⟨f0, c0, c1, c2, c3, c4⟩ := fiveH G4.out
  go_wp2_with fail
  go_ret2
  exact ⟨rfl, HB4.out⟩
set_option maxHeartbeats 2000000 in
theorem rread_e0 (h : Hl) (a : Option Addr) (len cap : Nat) (w : World) (hok : holeOk h.k h.s = false) :
    Calls Tryd.prog 27 #[.slice a len cap, hlV h] w fun e w' => e = .returned (.tuple #[.int .i64 0, .int .i64 1]) ∧ Below w.heap.size w w' := by
  have CK := Lib.hid (fun W => rcheck_any h W)
  have HB0 := Lib.hid (below1 w (.cells #[.int .i64 h.k, .int .i64 h.s, .int .i64 h.a, .string h.p, .string h.m] 25))
  have G0 := Lib.hid (heap_alloc_new w (.cells #[.int .i64 h.k, .int .i64 h.s, .int .i64 h.a, .string h.p, .string h.m] 25))
  rw [show chkI h.k h.s = 1 by simp [chkI, hok]] at CK
  clear hok
  obtain ⟨k, s, ad, p, m⟩ := h
  unfold hlV at *
  simp only at *
  go_enter Tryd.func27, Tryd.ntmps27
  go_wp2_with fail
  refine (CK.out _).mono ?_
  rintro e w1 ⟨rfl, hb⟩
  have G1 := Lib.hid (kept_v hb G0.out)
  have HB1 := Lib.hid (HB0.out.trans (hb.mono HB0.out.size))
  clear hb
  obtain ⟨f0, c0, c1, c2, c3, c4⟩ := fiveH G1.out
  go_wp2_with fail
  go_ret2
  exact ⟨rfl, HB1.out⟩
set_option maxHeartbeats 2000000 in
theorem rread_e1 (h : Hl) (a : Option Addr) (len cap : Nat) (w : World) (hok : holeOk h.k h.s = true) (hl : ((len : Int) != (shR h.k h.s).w) = true) :
    Calls Tryd.prog 27 #[.slice a len cap, hlV h] w fun e w' => e = .returned (.tuple #[.int .i64 0, .int .i64 1]) ∧ Below w.heap.size w w' := by
  have CK := Lib.hid (fun W => rcheck_any h W)
  have WI := Lib.hid (fun W => rwidth_any h W)
  have HB0 := Lib.hid (below1 w (.cells #[.int .i64 h.k, .int .i64 h.s, .int .i64 h.a, .string h.p, .string h.m] 25))
  have G0 := Lib.hid (heap_alloc_new w (.cells #[.int .i64 h.k, .int .i64 h.s, .int .i64 h.a, .string h.p, .string h.m] 25))
  rw [show chkI h.k h.s = 0 by simp [chkI, hok]] at CK
  generalize (shR h.k h.s).w = y at *
  clear hok
  obtain ⟨k, s, ad, p, m⟩ := h
  unfold hlV at *
  simp only at *
  go_enter Tryd.func27, Tryd.ntmps27
  go_wp2_with fail
  refine (CK.out _).mono ?_
  rintro e w1 ⟨rfl, hb⟩
  have G1 := Lib.hid (kept_v hb G0.out)
  have HB1 := Lib.hid (HB0.out.trans (hb.mono HB0.out.size))
  clear hb
  obtain ⟨f0, c0, c1, c2, c3, c4⟩ := fiveH G1.out
  go_wp2_with fail
  refine (WI.out _).mono ?_
  rintro e w2 ⟨rfl, hb⟩
  have G2 := Lib.hid (kept_v hb G1.out)
  have HB2 := Lib.hid (HB1.out.trans (hb.mono HB1.out.size))
  clear f0 c0 c1 c2 c3 c4
  clear hb
  obtain ⟨f0, c0, c1, c2, c3, c4⟩ := fiveH G2.out
  go_wp2_with fail
  go_ret2
  exact ⟨rfl, HB2.out⟩
set_option maxHeartbeats 2000000 in
theorem rread_e2 (h : Hl) (a : Option Addr) (len cap : Nat) (w : World) (hok : holeOk h.k h.s = true) (hl : (len : Int) = (shR h.k h.s).w) (h1 : decide (h.k ≤ 6) = false) (h2 : decide (10 ≤ h.k) = false) :
    Calls Tryd.prog 27 #[.slice a len cap, hlV h] w fun e w' => e = .returned (.tuple #[.int .i64 0, .int .i64 180]) ∧ Below w.heap.size w w' := by
  have CK := Lib.hid (fun W => rcheck_any h W)
  have WI := Lib.hid (fun W => rwidth_any h W)
  have NE := Lib.hid (fun W => near_any h W)
  have DA := Lib.hid (fun W => data_any h W)
  have HB0 := Lib.hid (below1 w (.cells #[.int .i64 h.k, .int .i64 h.s, .int .i64 h.a, .string h.p, .string h.m] 25))
  have G0 := Lib.hid (heap_alloc_new w (.cells #[.int .i64 h.k, .int .i64 h.s, .int .i64 h.a, .string h.p, .string h.m] 25))
  rw [show chkI h.k h.s = 0 by simp [chkI, hok]] at CK
  rw [← hl] at WI
  rw [h1] at NE
  rw [h2] at DA
  clear hok hl h1 h2
  obtain ⟨k, s, ad, p, m⟩ := h
  unfold hlV at *
  simp only at *
  go_enter Tryd.func27, Tryd.ntmps27
  go_wp2_with fail
  refine (CK.out _).mono ?_
  rintro e w1 ⟨rfl, hb⟩
  have G1 := Lib.hid (kept_v hb G0.out)
  have HB1 := Lib.hid (HB0.out.trans (hb.mono HB0.out.size))
  clear hb
  obtain ⟨f0, c0, c1, c2, c3, c4⟩ := fiveH G1.out
  go_wp2_with fail
  refine (WI.out _).mono ?_
  rintro e w2 ⟨rfl, hb⟩
  have G2 := Lib.hid (kept_v hb G1.out)
  have HB2 := Lib.hid (HB1.out.trans (hb.mono HB1.out.size))
  clear f0 c0 c1 c2 c3 c4
  clear hb
  obtain ⟨f0, c0, c1, c2, c3, c4⟩ := fiveH G2.out
  go_wp2_with fail
  refine (NE.out _).mono ?_
  rintro e w3 ⟨rfl, hb⟩
  have G3 := Lib.hid (kept_v hb G2.out)
  have HB3 := Lib.hid (HB2.out.trans (hb.mono HB2.out.size))
  clear f0 c0 c1 c2 c3 c4
  clear hb
  obtain ⟨f0, c0, c1, c2, c3, c4⟩ := fiveH G3.out
  go_wp2_with fail
  refine (DA.out _).mono ?_
  rintro e w4 ⟨rfl, hb⟩
  have G4 := Lib.hid (kept_v hb G3.out)
  have HB4 := Lib.hid (HB3.out.trans (hb.mono HB3.out.size))
  clear f0 c0 c1 c2 c3 c4
  clear hb
  obtain ⟨f0, c0, c1, c2, c3, c4⟩ := fiveH G4.out
  go_wp2_with fail
  go_ret2
  exact ⟨rfl, HB4.out⟩
set_option maxHeartbeats 2000000 in
theorem rfill_e3n (h : Hl) (v : Int) (a : Option Addr) (len cap : Nat) (w : World) (hok : holeOk h.k h.s = true) (hl : (len : Int) = (shR h.k h.s).w) (hf : filledB (shR h.k h.s) = true) (h1 : decide (h.k ≤ 6) = true) (hfit : fitsB (shR h.k h.s) v = false) :
    Calls Tryd.prog 25 #[.slice a len cap, hlV h, .int .i64 v] w fun e w' => e = .returned (.tuple #[.slice none 0 0, .int .i64 181]) ∧ Below w.heap.size w w' := by
  have CK := Lib.hid (fun W => rcheck_any h W)
  have WI := Lib.hid (fun W => rwidth_any h W)
  have NE := Lib.hid (fun W => near_any h W)
  have FI := Lib.hid (fun W => rfits_any h v W)
  have HB0 := Lib.hid (below1 w (.cells #[.int .i64 h.k, .int .i64 h.s, .int .i64 h.a, .string h.p, .string h.m] 25))
  have G0 := Lib.hid (heap_alloc_new w (.cells #[.int .i64 h.k, .int .i64 h.s, .int .i64 h.a, .string h.p, .string h.m] 25))
  rw [show chkI h.k h.s = 0 by simp [chkI, hok]] at CK
  rw [← hl] at WI
  rw [show (filledB (shR h.k h.s) && fitsB (shR h.k h.s) v) = false by rw [hf, hfit]; rfl] at FI
  rw [h1] at NE
  clear hok hl h1 hf hfit
  obtain ⟨k, s, ad, p, m⟩ := h
  unfold hlV at *
  simp only at *
  go_enter Tryd.func25, Tryd.ntmps25
  go_wp2_with fail
  refine (CK.out _).mono ?_
  rintro e w1 ⟨rfl, hb⟩
  have G1 := Lib.hid (kept_v hb G0.out)
  have HB1 := Lib.hid (HB0.out.trans (hb.mono HB0.out.size))
  clear hb
  obtain ⟨f0, c0, c1, c2, c3, c4⟩ := fiveH G1.out
  go_wp2_with fail
  refine (WI.out _).mono ?_
  rintro e w2 ⟨rfl, hb⟩
  have G2 := Lib.hid (kept_v hb G1.out)
  have HB2 := Lib.hid (HB1.out.trans (hb.mono HB1.out.size))
  clear f0 c0 c1 c2 c3 c4
  clear hb
  obtain ⟨f0, c0, c1, c2, c3, c4⟩ := fiveH G2.out
  go_wp2_with fail
  refine (NE.out _).mono ?_
  rintro e w3 ⟨rfl, hb⟩
  have G3 := Lib.hid (kept_v hb G2.out)
  have HB3 := Lib.hid (HB2.out.trans (hb.mono HB2.out.size))
  clear f0 c0 c1 c2 c3 c4
  clear hb
  obtain ⟨f0, c0, c1, c2, c3, c4⟩ := fiveH G3.out
  go_wp2_with fail
  refine (FI.out _).mono ?_
  rintro e w4 ⟨rfl, hb⟩
  have G4 := Lib.hid (kept_v hb G3.out)
  have HB4 := Lib.hid (HB3.out.trans (hb.mono HB3.out.size))
  clear f0 c0 c1 c2 c3 c4
  clear hb
  obtain ⟨f0, c0, c1, c2, c3, c4⟩ := fiveH G4.out
  go_wp2_with fail
  go_ret2
  exact ⟨rfl, HB4.out⟩
set_option maxHeartbeats 2000000 in
theorem rfill_e3d (h : Hl) (v : Int) (a : Option Addr) (len cap : Nat) (w : World) (hok : holeOk h.k h.s = true) (hl : (len : Int) = (shR h.k h.s).w) (hf : filledB (shR h.k h.s) = true) (h1 : decide (h.k ≤ 6) = false) (h2 : decide (10 ≤ h.k) = true) (hfit : fitsB (shR h.k h.s) v = false) :
    Calls Tryd.prog 25 #[.slice a len cap, hlV h, .int .i64 v] w fun e w' => e = .returned (.tuple #[.slice none 0 0, .int .i64 181]) ∧ Below w.heap.size w w' := by
  have CK := Lib.hid (fun W => rcheck_any h W)
  have WI := Lib.hid (fun W => rwidth_any h W)
  have NE := Lib.hid (fun W => near_any h W)
  have DA := Lib.hid (fun W => data_any h W)
  have FI := Lib.hid (fun W => rfits_any h v W)
  have HB0 := Lib.hid (below1 w (.cells #[.int .i64 h.k, .int .i64 h.s, .int .i64 h.a, .string h.p, .string h.m] 25))
  have G0 := Lib.hid (heap_alloc_new w (.cells #[.int .i64 h.k, .int .i64 h.s, .int .i64 h.a, .string h.p, .string h.m] 25))
  rw [show chkI h.k h.s = 0 by simp [chkI, hok]] at CK
  rw [← hl] at WI
  rw [show (filledB (shR h.k h.s) && fitsB (shR h.k h.s) v) = false by rw [hf, hfit]; rfl] at FI
  rw [h1] at NE
  rw [h2] at DA
  clear hok hl h1 h2 hf hfit
  obtain ⟨k, s, ad, p, m⟩ := h
  unfold hlV at *
  simp only at *
  go_enter Tryd.func25, Tryd.ntmps25
  go_wp2_with fail
  refine (CK.out _).mono ?_
  rintro e w1 ⟨rfl, hb⟩
  have G1 := Lib.hid (kept_v hb G0.out)
  have HB1 := Lib.hid (HB0.out.trans (hb.mono HB0.out.size))
  clear hb
  obtain ⟨f0, c0, c1, c2, c3, c4⟩ := fiveH G1.out
  go_wp2_with fail
  refine (WI.out _).mono ?_
  rintro e w2 ⟨rfl, hb⟩
  have G2 := Lib.hid (kept_v hb G1.out)
  have HB2 := Lib.hid (HB1.out.trans (hb.mono HB1.out.size))
  clear f0 c0 c1 c2 c3 c4
  clear hb
  obtain ⟨f0, c0, c1, c2, c3, c4⟩ := fiveH G2.out
  go_wp2_with fail
  refine (NE.out _).mono ?_
  rintro e w3 ⟨rfl, hb⟩
  have G3 := Lib.hid (kept_v hb G2.out)
  have HB3 := Lib.hid (HB2.out.trans (hb.mono HB2.out.size))
  clear f0 c0 c1 c2 c3 c4
  clear hb
  obtain ⟨f0, c0, c1, c2, c3, c4⟩ := fiveH G3.out
  go_wp2_with fail
  refine (DA.out _).mono ?_
  rintro e w4 ⟨rfl, hb⟩
  have G4 := Lib.hid (kept_v hb G3.out)
  have HB4 := Lib.hid (HB3.out.trans (hb.mono HB3.out.size))
  clear f0 c0 c1 c2 c3 c4
  clear hb
  obtain ⟨f0, c0, c1, c2, c3, c4⟩ := fiveH G4.out
  go_wp2_with fail
  refine (FI.out _).mono ?_
  rintro e w5 ⟨rfl, hb⟩
  have G5 := Lib.hid (kept_v hb G4.out)
  have HB5 := Lib.hid (HB4.out.trans (hb.mono HB4.out.size))
  clear f0 c0 c1 c2 c3 c4
  clear hb
  obtain ⟨f0, c0, c1, c2, c3, c4⟩ := fiveH G5.out
  go_wp2_with fail
  go_ret2
  exact ⟨rfl, HB5.out⟩
end Go.Proofs.YtjkhgljlipljdaaDoor
namespace Go.Proofs.YtjkhgljlipljdaaDoor
open Go.RowKit
set_option linter.unusedVariables false
set_option linter.unusedSimpArgs false
set_option maxHeartbeats 2000000 in
theorem rfill_n4 (h : Hl) (v : Int) (g off cap : Nat) (w : World) (hv : -9223372036854775808 ≤ v ∧ v ≤ 9223372036854775807) (x0 x1 x2 x3 : Int) (X : Nat)
    (a0 : 0 ≤ x0) (b0 : x0 < 256) (a1 : 0 ≤ x1) (b1 : x1 < 256) (a2 : 0 ≤ x2) (b2 : x2 < 256) (a3 : 0 ≤ x3) (b3 : x3 < 256)
    (c0 : w.cell? ⟨g, off, none⟩ = some (.int .u8 x0)) (c1 : w.cell? ⟨g, off + 1, none⟩ = some (.int .u8 x1)) (c2 : w.cell? ⟨g, off + 2, none⟩ = some (.int .u8 x2)) (c3 : w.cell? ⟨g, off + 3, none⟩ = some (.int .u8 x3))
    (hX : w4I x0 x1 x2 x3 = (X : Int)) (hXl : X < 4294967296) (hok : holeOk h.k h.s = true) (hl : ((4 : Nat) : Int) = (shR h.k h.s).w) (hf : filledB (shR h.k h.s) = true) (h1 : decide (h.k ≤ 6) = true) (ht : (shR h.k h.s).t = 4) (hfit : fitsB (shR h.k h.s) v = true) :
    Calls Tryd.prog 25 #[.slice (some ⟨g, off, none⟩) 4 cap, hlV h, .int .i64 v] w fun e w' => ∃ B, e = .returned (.tuple #[.slice (some ⟨B, 0, none⟩) 4 4, .int .i64 0]) ∧ w'.heap[B]? = some (.cells (w4C (setM X (shR h.k h.s).o (v.tdiv (shR h.k h.s).t))) 5 (0, 0)) ∧ Below w.heap.size w w' := by
  have CK := Lib.hid (fun W => rcheck_any h W)
  have WI := Lib.hid (fun W => rwidth_any h W)
  have NE := Lib.hid (fun W => near_any h W)
  have FI := Lib.hid (fun W => rfits_any h v W)
  have HB0 := Lib.hid (below1 w (.cells #[.int .i64 h.k, .int .i64 h.s, .int .i64 h.a, .string h.p, .string h.m] 25))
  have G0 := Lib.hid (heap_alloc_new w (.cells #[.int .i64 h.k, .int .i64 h.s, .int .i64 h.a, .string h.p, .string h.m] 25))
  rw [show chkI h.k h.s = 0 by simp [chkI, hok]] at CK
  rw [← hl] at WI
  rw [show (filledB (shR h.k h.s) && fitsB (shR h.k h.s) v) = true by rw [hf, hfit]; rfl] at FI
  rw [h1] at NE
  have WO := Lib.hid (fun W (hb : Below w.heap.size w W) => rword_any x0 x1 x2 x3 g off cap W a0 b0 a1 b1 a2 b2 a3 b3 (cell_kept hb c0) (cell_kept hb c1) (cell_kept hb c2) (cell_kept hb c3))
  rw [hX] at WO
  have hn : nearB (shR h.k h.s) = true := by rw [near_k hok]; exact h1
  obtain ⟨hbr, _, _, _, hsf⟩ := near_facts hok hn
  have OP := Lib.hid (fun W => op_any h W hok hn)
  have hd : -9223372036854775808 ≤ v.tdiv 4 ∧ v.tdiv 4 ≤ 9223372036854775807 := by
    have h := tdiv_4 v hv
    rw [IntKind.wrap_i64] at h
    omega
  have hss := hsf v hfit
  have ST := Lib.hid (fun W => rsets_any hbr X (v.tdiv (shR h.k h.s).t) W hXl (by rw [ht]; exact hd) hss)
  have hrl := setM_lt X (shR h.k h.s).o (v.tdiv (shR h.k h.s).t) hXl
  rw [ht] at OP ST hrl ⊢
  generalize setM X (shR h.k h.s).o (v.tdiv 4) = r at *
  have BY := Lib.hid (fun W => rbytes_any (r : Int) W (by omega) (by omega))
  have WR := Lib.hid ((i64_wrap64 _).symm.trans (tdiv_4 v hv))
  generalize (shR h.k h.s).o = op at *
  clear hok hl h1 hf hfit hX hXl hbr hsf hss hrl hn hd hv ht a0 b0 a1 b1 a2 b2 a3 b3 c0 c1 c2 c3
  obtain ⟨k, s, ad, p, m⟩ := h
  unfold hlV at *
  simp only at *
  go_enter Tryd.func25, Tryd.ntmps25
  go_wp2_with fail
  refine (CK.out _).mono ?_
  rintro e w1 ⟨rfl, hb⟩
  have G1 := Lib.hid (kept_v hb G0.out)
  have HB1 := Lib.hid (HB0.out.trans (hb.mono HB0.out.size))
  clear hb
  obtain ⟨f0, c0, c1, c2, c3, c4⟩ := fiveH G1.out
  go_wp2_with fail
  refine (WI.out _).mono ?_
  rintro e w2 ⟨rfl, hb⟩
  have G2 := Lib.hid (kept_v hb G1.out)
  have HB2 := Lib.hid (HB1.out.trans (hb.mono HB1.out.size))
  clear f0 c0 c1 c2 c3 c4
  clear hb
  obtain ⟨f0, c0, c1, c2, c3, c4⟩ := fiveH G2.out
  go_wp2_with fail
  refine (NE.out _).mono ?_
  rintro e w3 ⟨rfl, hb⟩
  have G3 := Lib.hid (kept_v hb G2.out)
  have HB3 := Lib.hid (HB2.out.trans (hb.mono HB2.out.size))
  clear f0 c0 c1 c2 c3 c4
  clear hb
  obtain ⟨f0, c0, c1, c2, c3, c4⟩ := fiveH G3.out
  go_wp2_with fail
  refine (FI.out _).mono ?_
  rintro e w4 ⟨rfl, hb⟩
  have G4 := Lib.hid (kept_v hb G3.out)
  have HB4 := Lib.hid (HB3.out.trans (hb.mono HB3.out.size))
  clear f0 c0 c1 c2 c3 c4
  clear hb
  obtain ⟨f0, c0, c1, c2, c3, c4⟩ := fiveH G4.out
  go_wp2_with fail
  refine (NE.out _).mono ?_
  rintro e w5 ⟨rfl, hb⟩
  have G5 := Lib.hid (kept_v hb G4.out)
  have HB5 := Lib.hid (HB4.out.trans (hb.mono HB4.out.size))
  clear f0 c0 c1 c2 c3 c4
  clear hb
  obtain ⟨f0, c0, c1, c2, c3, c4⟩ := fiveH G5.out
  go_wp2_with fail
  refine (WO.out _ HB5.out).mono ?_
  rintro e w6 ⟨rfl, hb⟩
  have G6 := Lib.hid (kept_v hb G5.out)
  have HB6 := Lib.hid (HB5.out.trans (hb.mono HB5.out.size))
  clear f0 c0 c1 c2 c3 c4 hb
  obtain ⟨f0, c0, c1, c2, c3, c4⟩ := fiveH G6.out
  go_wp2_with fail
  refine (OP.out _).mono ?_
  rintro e w7 ⟨rfl, hb⟩
  have G7 := Lib.hid (kept_v hb G6.out)
  have HB7 := Lib.hid (HB6.out.trans (hb.mono HB6.out.size))
  clear f0 c0 c1 c2 c3 c4 hb
  obtain ⟨f0, c0, c1, c2, c3, c4⟩ := fiveH G7.out
  go_wp2_with fail
  rw [WR.out]
  refine (ST.out _).mono ?_
  rintro e w8 ⟨rfl, hb⟩
  have G8 := Lib.hid (kept_v hb G7.out)
  have HB8 := Lib.hid (HB7.out.trans (hb.mono HB7.out.size))
  clear f0 c0 c1 c2 c3 c4 hb
  obtain ⟨f0, c0, c1, c2, c3, c4⟩ := fiveH G8.out
  go_wp2_with fail
  refine (BY.out _).mono ?_
  rintro e w9 ⟨rfl, hb⟩
  have HX := Lib.hid (show w9.heap[w8.heap.size]? = _ from hb ▸ heap_alloc_new w8 _)
  have HB9 := Lib.hid (show Below w.heap.size w w9 from hb ▸ HB8.out.alloc HB8.out.size _)
  clear hb BY
  go_wp2_with fail
  go_ret2
  exact ⟨_, rfl, HX.out, HB9.out⟩
set_option maxHeartbeats 2000000 in
theorem rfill_n1 (h : Hl) (v : Int) (g off cap : Nat) (w : World) (hv : -9223372036854775808 ≤ v ∧ v ≤ 9223372036854775807) (x0 x1 x2 x3 : Int) (X : Nat)
    (a0 : 0 ≤ x0) (b0 : x0 < 256) (a1 : 0 ≤ x1) (b1 : x1 < 256) (a2 : 0 ≤ x2) (b2 : x2 < 256) (a3 : 0 ≤ x3) (b3 : x3 < 256)
    (c0 : w.cell? ⟨g, off, none⟩ = some (.int .u8 x0)) (c1 : w.cell? ⟨g, off + 1, none⟩ = some (.int .u8 x1)) (c2 : w.cell? ⟨g, off + 2, none⟩ = some (.int .u8 x2)) (c3 : w.cell? ⟨g, off + 3, none⟩ = some (.int .u8 x3))
    (hX : w4I x0 x1 x2 x3 = (X : Int)) (hXl : X < 4294967296) (hok : holeOk h.k h.s = true) (hl : ((4 : Nat) : Int) = (shR h.k h.s).w) (hf : filledB (shR h.k h.s) = true) (h1 : decide (h.k ≤ 6) = true) (ht : (shR h.k h.s).t = 1) (hfit : fitsB (shR h.k h.s) v = true) :
    Calls Tryd.prog 25 #[.slice (some ⟨g, off, none⟩) 4 cap, hlV h, .int .i64 v] w fun e w' => ∃ B, e = .returned (.tuple #[.slice (some ⟨B, 0, none⟩) 4 4, .int .i64 0]) ∧ w'.heap[B]? = some (.cells (w4C (setM X (shR h.k h.s).o (v.tdiv (shR h.k h.s).t))) 5 (0, 0)) ∧ Below w.heap.size w w' := by
  have CK := Lib.hid (fun W => rcheck_any h W)
  have WI := Lib.hid (fun W => rwidth_any h W)
  have NE := Lib.hid (fun W => near_any h W)
  have FI := Lib.hid (fun W => rfits_any h v W)
  have HB0 := Lib.hid (below1 w (.cells #[.int .i64 h.k, .int .i64 h.s, .int .i64 h.a, .string h.p, .string h.m] 25))
  have G0 := Lib.hid (heap_alloc_new w (.cells #[.int .i64 h.k, .int .i64 h.s, .int .i64 h.a, .string h.p, .string h.m] 25))
  rw [show chkI h.k h.s = 0 by simp [chkI, hok]] at CK
  rw [← hl] at WI
  rw [show (filledB (shR h.k h.s) && fitsB (shR h.k h.s) v) = true by rw [hf, hfit]; rfl] at FI
  rw [h1] at NE
  have WO := Lib.hid (fun W (hb : Below w.heap.size w W) => rword_any x0 x1 x2 x3 g off cap W a0 b0 a1 b1 a2 b2 a3 b3 (cell_kept hb c0) (cell_kept hb c1) (cell_kept hb c2) (cell_kept hb c3))
  rw [hX] at WO
  have hn : nearB (shR h.k h.s) = true := by rw [near_k hok]; exact h1
  obtain ⟨hbr, _, _, _, hsf⟩ := near_facts hok hn
  have OP := Lib.hid (fun W => op_any h W hok hn)
  have hd : -9223372036854775808 ≤ v.tdiv 1 ∧ v.tdiv 1 ≤ 9223372036854775807 := by
    have h := tdiv_1 v hv
    rw [IntKind.wrap_i64] at h
    omega
  have hss := hsf v hfit
  have ST := Lib.hid (fun W => rsets_any hbr X (v.tdiv (shR h.k h.s).t) W hXl (by rw [ht]; exact hd) hss)
  have hrl := setM_lt X (shR h.k h.s).o (v.tdiv (shR h.k h.s).t) hXl
  rw [ht] at OP ST hrl ⊢
  generalize setM X (shR h.k h.s).o (v.tdiv 1) = r at *
  have BY := Lib.hid (fun W => rbytes_any (r : Int) W (by omega) (by omega))
  have WR := Lib.hid ((i64_wrap64 _).symm.trans (tdiv_1 v hv))
  generalize (shR h.k h.s).o = op at *
  clear hok hl h1 hf hfit hX hXl hbr hsf hss hrl hn hd hv ht a0 b0 a1 b1 a2 b2 a3 b3 c0 c1 c2 c3
  obtain ⟨k, s, ad, p, m⟩ := h
  unfold hlV at *
  simp only at *
  go_enter Tryd.func25, Tryd.ntmps25
  go_wp2_with fail
  refine (CK.out _).mono ?_
  rintro e w1 ⟨rfl, hb⟩
  have G1 := Lib.hid (kept_v hb G0.out)
  have HB1 := Lib.hid (HB0.out.trans (hb.mono HB0.out.size))
  clear hb
  obtain ⟨f0, c0, c1, c2, c3, c4⟩ := fiveH G1.out
  go_wp2_with fail
  refine (WI.out _).mono ?_
  rintro e w2 ⟨rfl, hb⟩
  have G2 := Lib.hid (kept_v hb G1.out)
  have HB2 := Lib.hid (HB1.out.trans (hb.mono HB1.out.size))
  clear f0 c0 c1 c2 c3 c4
  clear hb
  obtain ⟨f0, c0, c1, c2, c3, c4⟩ := fiveH G2.out
  go_wp2_with fail
  refine (NE.out _).mono ?_
  rintro e w3 ⟨rfl, hb⟩
  have G3 := Lib.hid (kept_v hb G2.out)
  have HB3 := Lib.hid (HB2.out.trans (hb.mono HB2.out.size))
  clear f0 c0 c1 c2 c3 c4
  clear hb
  obtain ⟨f0, c0, c1, c2, c3, c4⟩ := fiveH G3.out
  go_wp2_with fail
  refine (FI.out _).mono ?_
  rintro e w4 ⟨rfl, hb⟩
  have G4 := Lib.hid (kept_v hb G3.out)
  have HB4 := Lib.hid (HB3.out.trans (hb.mono HB3.out.size))
  clear f0 c0 c1 c2 c3 c4
  clear hb
  obtain ⟨f0, c0, c1, c2, c3, c4⟩ := fiveH G4.out
  go_wp2_with fail
  refine (NE.out _).mono ?_
  rintro e w5 ⟨rfl, hb⟩
  have G5 := Lib.hid (kept_v hb G4.out)
  have HB5 := Lib.hid (HB4.out.trans (hb.mono HB4.out.size))
  clear f0 c0 c1 c2 c3 c4
  clear hb
  obtain ⟨f0, c0, c1, c2, c3, c4⟩ := fiveH G5.out
  go_wp2_with fail
  refine (WO.out _ HB5.out).mono ?_
  rintro e w6 ⟨rfl, hb⟩
  have G6 := Lib.hid (kept_v hb G5.out)
  have HB6 := Lib.hid (HB5.out.trans (hb.mono HB5.out.size))
  clear f0 c0 c1 c2 c3 c4 hb
  obtain ⟨f0, c0, c1, c2, c3, c4⟩ := fiveH G6.out
  go_wp2_with fail
  refine (OP.out _).mono ?_
  rintro e w7 ⟨rfl, hb⟩
  have G7 := Lib.hid (kept_v hb G6.out)
  have HB7 := Lib.hid (HB6.out.trans (hb.mono HB6.out.size))
  clear f0 c0 c1 c2 c3 c4 hb
  obtain ⟨f0, c0, c1, c2, c3, c4⟩ := fiveH G7.out
  go_wp2_with fail
  rw [WR.out]
  refine (ST.out _).mono ?_
  rintro e w8 ⟨rfl, hb⟩
  have G8 := Lib.hid (kept_v hb G7.out)
  have HB8 := Lib.hid (HB7.out.trans (hb.mono HB7.out.size))
  clear f0 c0 c1 c2 c3 c4 hb
  obtain ⟨f0, c0, c1, c2, c3, c4⟩ := fiveH G8.out
  go_wp2_with fail
  refine (BY.out _).mono ?_
  rintro e w9 ⟨rfl, hb⟩
  have HX := Lib.hid (show w9.heap[w8.heap.size]? = _ from hb ▸ heap_alloc_new w8 _)
  have HB9 := Lib.hid (show Below w.heap.size w w9 from hb ▸ HB8.out.alloc HB8.out.size _)
  clear hb BY
  go_wp2_with fail
  go_ret2
  exact ⟨_, rfl, HX.out, HB9.out⟩
end Go.Proofs.YtjkhgljlipljdaaDoor
namespace Go.Proofs.YtjkhgljlipljdaaDoor
open Go.RowKit
set_option linter.unusedVariables false
set_option linter.unusedSimpArgs false
theorem get_any (x l n : Nat) (w : World) (hx : x < 4294967296) (h2 : l < 32) (h3 : 1 ≤ n) (h5 : l + n ≤ 32) :
    Calls Tryd.prog 59 #[.int .u32 (x : Int), .int .i64 (l : Int), .int .i64 (n : Int)] w fun e w' => e = .returned (.int .u64 ((x / 2 ^ l % 2 ^ n : Nat) : Int)) ∧ Below w.heap.size w w' := by
  have GT := Lib.hid (fun W => Bit.rget_yes (x : Int) (l : Int) (n : Int) W (by omega) (by omega) (by omega) (by omega) (by omega) (by omega) (by omega))
  rw [getI_nat] at GT
  have hlt : x / 2 ^ l % 2 ^ n < 4294967296 := Nat.lt_of_le_of_lt (Nat.mod_le _ _) (Nat.lt_of_le_of_lt (Nat.div_le_self _ _) hx)
  generalize x / 2 ^ l % 2 ^ n = X at *
  go_enter Tryd.func59, Tryd.ntmps59
  go_wp2_with fail
  refine (GT.out _).mono ?_
  rintro e w1 ⟨rfl, hb⟩
  go_wp2_with fail
  go_ret
  exact ⟨rfl, hb⟩
set_option maxHeartbeats 2000000 in
theorem rread_n1 (h : Hl) (g off cap : Nat) (w : World) (x0 x1 x2 x3 : Int) (X : Nat)
    (a0 : 0 ≤ x0) (b0 : x0 < 256) (a1 : 0 ≤ x1) (b1 : x1 < 256) (a2 : 0 ≤ x2) (b2 : x2 < 256) (a3 : 0 ≤ x3) (b3 : x3 < 256)
    (c0 : w.cell? ⟨g, off, none⟩ = some (.int .u8 x0)) (c1 : w.cell? ⟨g, off + 1, none⟩ = some (.int .u8 x1)) (c2 : w.cell? ⟨g, off + 2, none⟩ = some (.int .u8 x2)) (c3 : w.cell? ⟨g, off + 3, none⟩ = some (.int .u8 x3))
    (hX : w4I x0 x1 x2 x3 = (X : Int)) (hXl : X < 4294967296) (hok : holeOk h.k h.s = true) (hk : h.k = 1) (hs : h.s = 0) (R : Int) (hR : IntKind.i64.wrap (4 * BM.sgn (X / 2 ^ 0 % 2 ^ 26) 26) = R) :
    Calls Tryd.prog 27 #[.slice (some ⟨g, off, none⟩) 4 cap, hlV h] w fun e w' => e = .returned (.tuple #[.int .i64 R, .int .i64 0]) ∧ Below w.heap.size w w' := by
  have CK := Lib.hid (fun W => rcheck_any h W)
  have WI := Lib.hid (fun W => rwidth_any h W)
  have NE := Lib.hid (fun W => near_any h W)
  have DA := Lib.hid (fun W => data_any h W)
  have HB0 := Lib.hid (below1 w (.cells #[.int .i64 h.k, .int .i64 h.s, .int .i64 h.a, .string h.p, .string h.m] 25))
  have G0 := Lib.hid (heap_alloc_new w (.cells #[.int .i64 h.k, .int .i64 h.s, .int .i64 h.a, .string h.p, .string h.m] 25))
  rw [show chkI h.k h.s = 0 by simp [chkI, hok]] at CK
  rw [show (shR h.k h.s).w = 4 by rw [hk, hs]; decide] at WI
  rw [show decide (h.k ≤ 6) = true by rw [hk]; rfl] at NE
  rw [show decide (10 ≤ h.k) = false by rw [hk]; rfl] at DA
  have WO := Lib.hid (fun W (hb : Below w.heap.size w W) => rword_any x0 x1 x2 x3 g off cap W a0 b0 a1 b1 a2 b2 a3 b3 (cell_kept hb c0) (cell_kept hb c1) (cell_kept hb c2) (cell_kept hb c3))
  rw [hX] at WO
  have GE := Lib.hid (fun W => get_any X 0 26 W hXl (by decide) (by decide) (by decide))
  have hlt : X / 2 ^ 0 % 2 ^ 26 < 4294967296 := Nat.lt_of_le_of_lt (Nat.mod_le _ _) (Nat.lt_of_le_of_lt (Nat.div_le_self _ _) hXl)
  generalize X / 2 ^ 0 % 2 ^ 26 = Y at *
  have SG := Lib.hid (fun W => Bit.rsign_yes (Y : Int) 26 W (by omega) (by omega) (by decide) (by decide))
  rw [Int.toNat_natCast, show Int.toNat 26 = 26 from rfl] at SG
  generalize BM.sgn Y 26 = D at *
  rw [i64_wrap64] at hR
  subst hR
  clear hok hX hXl a0 b0 a1 b1 a2 b2 a3 b3 c0 c1 c2 c3
  obtain ⟨k, s, ad, p, m⟩ := h
  unfold hlV at *
  simp only at *
  subst hk hs
  go_enter Tryd.func27, Tryd.ntmps27
  go_wp2_with fail
  refine (CK.out _).mono ?_
  rintro e w1 ⟨rfl, hb⟩
  have G1 := Lib.hid (kept_v hb G0.out)
  have HB1 := Lib.hid (HB0.out.trans (hb.mono HB0.out.size))
  clear hb
  obtain ⟨f0, c0, c1, c2, c3, c4⟩ := fiveH G1.out
  go_wp2_with fail
  refine (WI.out _).mono ?_
  rintro e w2 ⟨rfl, hb⟩
  have G2 := Lib.hid (kept_v hb G1.out)
  have HB2 := Lib.hid (HB1.out.trans (hb.mono HB1.out.size))
  clear f0 c0 c1 c2 c3 c4
  clear hb
  obtain ⟨f0, c0, c1, c2, c3, c4⟩ := fiveH G2.out
  go_wp2_with fail
  refine (NE.out _).mono ?_
  rintro e w3 ⟨rfl, hb⟩
  have G3 := Lib.hid (kept_v hb G2.out)
  have HB3 := Lib.hid (HB2.out.trans (hb.mono HB2.out.size))
  clear f0 c0 c1 c2 c3 c4
  clear hb
  obtain ⟨f0, c0, c1, c2, c3, c4⟩ := fiveH G3.out
  go_wp2_with fail
  refine (DA.out _).mono ?_
  rintro e w4 ⟨rfl, hb⟩
  have G4 := Lib.hid (kept_v hb G3.out)
  have HB4 := Lib.hid (HB3.out.trans (hb.mono HB3.out.size))
  clear f0 c0 c1 c2 c3 c4
  clear hb
  obtain ⟨f0, c0, c1, c2, c3, c4⟩ := fiveH G4.out
  go_wp2_with fail
  refine (WO.out _ HB4.out).mono ?_
  rintro e w5 ⟨rfl, hb⟩
  have G5 := Lib.hid (kept_v hb G4.out)
  have HB5 := Lib.hid (HB4.out.trans (hb.mono HB4.out.size))
  clear f0 c0 c1 c2 c3 c4 hb
  obtain ⟨f0, c0, c1, c2, c3, c4⟩ := fiveH G5.out
  go_wp2_with fail
  refine (GE.out _).mono ?_
  rintro e w6 ⟨rfl, hb⟩
  have G6 := Lib.hid (kept_v hb G5.out)
  have HB6 := Lib.hid (HB5.out.trans (hb.mono HB5.out.size))
  clear f0 c0 c1 c2 c3 c4 hb
  obtain ⟨f0, c0, c1, c2, c3, c4⟩ := fiveH G6.out
  go_wp2_with fail
  refine (SG.out _).mono ?_
  rintro e w7 ⟨rfl, rfl⟩
  have G7 := Lib.hid (G6.out)
  have HB7 := Lib.hid (HB6.out)
  clear f0 c0 c1 c2 c3 c4
  obtain ⟨f0, c0, c1, c2, c3, c4⟩ := fiveH G7.out
  go_wp2_with fail
  go_ret2
  exact ⟨rfl, HB7.out⟩
set_option maxHeartbeats 2000000 in
theorem rread_n2 (h : Hl) (g off cap : Nat) (w : World) (x0 x1 x2 x3 : Int) (X : Nat)
    (a0 : 0 ≤ x0) (b0 : x0 < 256) (a1 : 0 ≤ x1) (b1 : x1 < 256) (a2 : 0 ≤ x2) (b2 : x2 < 256) (a3 : 0 ≤ x3) (b3 : x3 < 256)
    (c0 : w.cell? ⟨g, off, none⟩ = some (.int .u8 x0)) (c1 : w.cell? ⟨g, off + 1, none⟩ = some (.int .u8 x1)) (c2 : w.cell? ⟨g, off + 2, none⟩ = some (.int .u8 x2)) (c3 : w.cell? ⟨g, off + 3, none⟩ = some (.int .u8 x3))
    (hX : w4I x0 x1 x2 x3 = (X : Int)) (hXl : X < 4294967296) (hok : holeOk h.k h.s = true) (hk : h.k = 2) (hs : h.s = 0) (R : Int) (hR : IntKind.i64.wrap (4 * BM.sgn (X / 2 ^ 0 % 2 ^ 26) 26) = R) :
    Calls Tryd.prog 27 #[.slice (some ⟨g, off, none⟩) 4 cap, hlV h] w fun e w' => e = .returned (.tuple #[.int .i64 R, .int .i64 0]) ∧ Below w.heap.size w w' := by
  have CK := Lib.hid (fun W => rcheck_any h W)
  have WI := Lib.hid (fun W => rwidth_any h W)
  have NE := Lib.hid (fun W => near_any h W)
  have DA := Lib.hid (fun W => data_any h W)
  have HB0 := Lib.hid (below1 w (.cells #[.int .i64 h.k, .int .i64 h.s, .int .i64 h.a, .string h.p, .string h.m] 25))
  have G0 := Lib.hid (heap_alloc_new w (.cells #[.int .i64 h.k, .int .i64 h.s, .int .i64 h.a, .string h.p, .string h.m] 25))
  rw [show chkI h.k h.s = 0 by simp [chkI, hok]] at CK
  rw [show (shR h.k h.s).w = 4 by rw [hk, hs]; decide] at WI
  rw [show decide (h.k ≤ 6) = true by rw [hk]; rfl] at NE
  rw [show decide (10 ≤ h.k) = false by rw [hk]; rfl] at DA
  have WO := Lib.hid (fun W (hb : Below w.heap.size w W) => rword_any x0 x1 x2 x3 g off cap W a0 b0 a1 b1 a2 b2 a3 b3 (cell_kept hb c0) (cell_kept hb c1) (cell_kept hb c2) (cell_kept hb c3))
  rw [hX] at WO
  have GE := Lib.hid (fun W => get_any X 0 26 W hXl (by decide) (by decide) (by decide))
  have hlt : X / 2 ^ 0 % 2 ^ 26 < 4294967296 := Nat.lt_of_le_of_lt (Nat.mod_le _ _) (Nat.lt_of_le_of_lt (Nat.div_le_self _ _) hXl)
  generalize X / 2 ^ 0 % 2 ^ 26 = Y at *
  have SG := Lib.hid (fun W => Bit.rsign_yes (Y : Int) 26 W (by omega) (by omega) (by decide) (by decide))
  rw [Int.toNat_natCast, show Int.toNat 26 = 26 from rfl] at SG
  generalize BM.sgn Y 26 = D at *
  rw [i64_wrap64] at hR
  subst hR
  clear hok hX hXl a0 b0 a1 b1 a2 b2 a3 b3 c0 c1 c2 c3
  obtain ⟨k, s, ad, p, m⟩ := h
  unfold hlV at *
  simp only at *
  subst hk hs
  go_enter Tryd.func27, Tryd.ntmps27
  go_wp2_with fail
  refine (CK.out _).mono ?_
  rintro e w1 ⟨rfl, hb⟩
  have G1 := Lib.hid (kept_v hb G0.out)
  have HB1 := Lib.hid (HB0.out.trans (hb.mono HB0.out.size))
  clear hb
  obtain ⟨f0, c0, c1, c2, c3, c4⟩ := fiveH G1.out
  go_wp2_with fail
  refine (WI.out _).mono ?_
  rintro e w2 ⟨rfl, hb⟩
  have G2 := Lib.hid (kept_v hb G1.out)
  have HB2 := Lib.hid (HB1.out.trans (hb.mono HB1.out.size))
  clear f0 c0 c1 c2 c3 c4
  clear hb
  obtain ⟨f0, c0, c1, c2, c3, c4⟩ := fiveH G2.out
  go_wp2_with fail
  refine (NE.out _).mono ?_
  rintro e w3 ⟨rfl, hb⟩
  have G3 := Lib.hid (kept_v hb G2.out)
  have HB3 := Lib.hid (HB2.out.trans (hb.mono HB2.out.size))
  clear f0 c0 c1 c2 c3 c4
  clear hb
  obtain ⟨f0, c0, c1, c2, c3, c4⟩ := fiveH G3.out
  go_wp2_with fail
  refine (DA.out _).mono ?_
  rintro e w4 ⟨rfl, hb⟩
  have G4 := Lib.hid (kept_v hb G3.out)
  have HB4 := Lib.hid (HB3.out.trans (hb.mono HB3.out.size))
  clear f0 c0 c1 c2 c3 c4
  clear hb
  obtain ⟨f0, c0, c1, c2, c3, c4⟩ := fiveH G4.out
  go_wp2_with fail
  refine (WO.out _ HB4.out).mono ?_
  rintro e w5 ⟨rfl, hb⟩
  have G5 := Lib.hid (kept_v hb G4.out)
  have HB5 := Lib.hid (HB4.out.trans (hb.mono HB4.out.size))
  clear f0 c0 c1 c2 c3 c4 hb
  obtain ⟨f0, c0, c1, c2, c3, c4⟩ := fiveH G5.out
  go_wp2_with fail
  refine (GE.out _).mono ?_
  rintro e w6 ⟨rfl, hb⟩
  have G6 := Lib.hid (kept_v hb G5.out)
  have HB6 := Lib.hid (HB5.out.trans (hb.mono HB5.out.size))
  clear f0 c0 c1 c2 c3 c4 hb
  obtain ⟨f0, c0, c1, c2, c3, c4⟩ := fiveH G6.out
  go_wp2_with fail
  refine (SG.out _).mono ?_
  rintro e w7 ⟨rfl, rfl⟩
  have G7 := Lib.hid (G6.out)
  have HB7 := Lib.hid (HB6.out)
  clear f0 c0 c1 c2 c3 c4
  obtain ⟨f0, c0, c1, c2, c3, c4⟩ := fiveH G7.out
  go_wp2_with fail
  go_ret2
  exact ⟨rfl, HB7.out⟩
set_option maxHeartbeats 2000000 in
theorem rread_n3 (h : Hl) (g off cap : Nat) (w : World) (x0 x1 x2 x3 : Int) (X : Nat)
    (a0 : 0 ≤ x0) (b0 : x0 < 256) (a1 : 0 ≤ x1) (b1 : x1 < 256) (a2 : 0 ≤ x2) (b2 : x2 < 256) (a3 : 0 ≤ x3) (b3 : x3 < 256)
    (c0 : w.cell? ⟨g, off, none⟩ = some (.int .u8 x0)) (c1 : w.cell? ⟨g, off + 1, none⟩ = some (.int .u8 x1)) (c2 : w.cell? ⟨g, off + 2, none⟩ = some (.int .u8 x2)) (c3 : w.cell? ⟨g, off + 3, none⟩ = some (.int .u8 x3))
    (hX : w4I x0 x1 x2 x3 = (X : Int)) (hXl : X < 4294967296) (hok : holeOk h.k h.s = true) (hk : h.k = 3) (hs : h.s = 0) (R : Int) (hR : IntKind.i64.wrap (4 * BM.sgn (X / 2 ^ 5 % 2 ^ 19) 19) = R) :
    Calls Tryd.prog 27 #[.slice (some ⟨g, off, none⟩) 4 cap, hlV h] w fun e w' => e = .returned (.tuple #[.int .i64 R, .int .i64 0]) ∧ Below w.heap.size w w' := by
  have CK := Lib.hid (fun W => rcheck_any h W)
  have WI := Lib.hid (fun W => rwidth_any h W)
  have NE := Lib.hid (fun W => near_any h W)
  have DA := Lib.hid (fun W => data_any h W)
  have HB0 := Lib.hid (below1 w (.cells #[.int .i64 h.k, .int .i64 h.s, .int .i64 h.a, .string h.p, .string h.m] 25))
  have G0 := Lib.hid (heap_alloc_new w (.cells #[.int .i64 h.k, .int .i64 h.s, .int .i64 h.a, .string h.p, .string h.m] 25))
  rw [show chkI h.k h.s = 0 by simp [chkI, hok]] at CK
  rw [show (shR h.k h.s).w = 4 by rw [hk, hs]; decide] at WI
  rw [show decide (h.k ≤ 6) = true by rw [hk]; rfl] at NE
  rw [show decide (10 ≤ h.k) = false by rw [hk]; rfl] at DA
  have WO := Lib.hid (fun W (hb : Below w.heap.size w W) => rword_any x0 x1 x2 x3 g off cap W a0 b0 a1 b1 a2 b2 a3 b3 (cell_kept hb c0) (cell_kept hb c1) (cell_kept hb c2) (cell_kept hb c3))
  rw [hX] at WO
  have GE := Lib.hid (fun W => get_any X 5 19 W hXl (by decide) (by decide) (by decide))
  have hlt : X / 2 ^ 5 % 2 ^ 19 < 4294967296 := Nat.lt_of_le_of_lt (Nat.mod_le _ _) (Nat.lt_of_le_of_lt (Nat.div_le_self _ _) hXl)
  generalize X / 2 ^ 5 % 2 ^ 19 = Y at *
  have SG := Lib.hid (fun W => Bit.rsign_yes (Y : Int) 19 W (by omega) (by omega) (by decide) (by decide))
  rw [Int.toNat_natCast, show Int.toNat 19 = 19 from rfl] at SG
  generalize BM.sgn Y 19 = D at *
  rw [i64_wrap64] at hR
  subst hR
  clear hok hX hXl a0 b0 a1 b1 a2 b2 a3 b3 c0 c1 c2 c3
  obtain ⟨k, s, ad, p, m⟩ := h
  unfold hlV at *
  simp only at *
  subst hk hs
  go_enter Tryd.func27, Tryd.ntmps27
  go_wp2_with fail
  refine (CK.out _).mono ?_
  rintro e w1 ⟨rfl, hb⟩
  have G1 := Lib.hid (kept_v hb G0.out)
  have HB1 := Lib.hid (HB0.out.trans (hb.mono HB0.out.size))
  clear hb
  obtain ⟨f0, c0, c1, c2, c3, c4⟩ := fiveH G1.out
  go_wp2_with fail
  refine (WI.out _).mono ?_
  rintro e w2 ⟨rfl, hb⟩
  have G2 := Lib.hid (kept_v hb G1.out)
  have HB2 := Lib.hid (HB1.out.trans (hb.mono HB1.out.size))
  clear f0 c0 c1 c2 c3 c4
  clear hb
  obtain ⟨f0, c0, c1, c2, c3, c4⟩ := fiveH G2.out
  go_wp2_with fail
  refine (NE.out _).mono ?_
  rintro e w3 ⟨rfl, hb⟩
  have G3 := Lib.hid (kept_v hb G2.out)
  have HB3 := Lib.hid (HB2.out.trans (hb.mono HB2.out.size))
  clear f0 c0 c1 c2 c3 c4
  clear hb
  obtain ⟨f0, c0, c1, c2, c3, c4⟩ := fiveH G3.out
  go_wp2_with fail
  refine (DA.out _).mono ?_
  rintro e w4 ⟨rfl, hb⟩
  have G4 := Lib.hid (kept_v hb G3.out)
  have HB4 := Lib.hid (HB3.out.trans (hb.mono HB3.out.size))
  clear f0 c0 c1 c2 c3 c4
  clear hb
  obtain ⟨f0, c0, c1, c2, c3, c4⟩ := fiveH G4.out
  go_wp2_with fail
  refine (WO.out _ HB4.out).mono ?_
  rintro e w5 ⟨rfl, hb⟩
  have G5 := Lib.hid (kept_v hb G4.out)
  have HB5 := Lib.hid (HB4.out.trans (hb.mono HB4.out.size))
  clear f0 c0 c1 c2 c3 c4 hb
  obtain ⟨f0, c0, c1, c2, c3, c4⟩ := fiveH G5.out
  go_wp2_with fail
  refine (GE.out _).mono ?_
  rintro e w6 ⟨rfl, hb⟩
  have G6 := Lib.hid (kept_v hb G5.out)
  have HB6 := Lib.hid (HB5.out.trans (hb.mono HB5.out.size))
  clear f0 c0 c1 c2 c3 c4 hb
  obtain ⟨f0, c0, c1, c2, c3, c4⟩ := fiveH G6.out
  go_wp2_with fail
  refine (SG.out _).mono ?_
  rintro e w7 ⟨rfl, rfl⟩
  have G7 := Lib.hid (G6.out)
  have HB7 := Lib.hid (HB6.out)
  clear f0 c0 c1 c2 c3 c4
  obtain ⟨f0, c0, c1, c2, c3, c4⟩ := fiveH G7.out
  go_wp2_with fail
  go_ret2
  exact ⟨rfl, HB7.out⟩
set_option maxHeartbeats 2000000 in
theorem rread_n4 (h : Hl) (g off cap : Nat) (w : World) (x0 x1 x2 x3 : Int) (X : Nat)
    (a0 : 0 ≤ x0) (b0 : x0 < 256) (a1 : 0 ≤ x1) (b1 : x1 < 256) (a2 : 0 ≤ x2) (b2 : x2 < 256) (a3 : 0 ≤ x3) (b3 : x3 < 256)
    (c0 : w.cell? ⟨g, off, none⟩ = some (.int .u8 x0)) (c1 : w.cell? ⟨g, off + 1, none⟩ = some (.int .u8 x1)) (c2 : w.cell? ⟨g, off + 2, none⟩ = some (.int .u8 x2)) (c3 : w.cell? ⟨g, off + 3, none⟩ = some (.int .u8 x3))
    (hX : w4I x0 x1 x2 x3 = (X : Int)) (hXl : X < 4294967296) (hok : holeOk h.k h.s = true) (hk : h.k = 4) (hs : h.s = 0) (R : Int) (hR : IntKind.i64.wrap (4 * BM.sgn (X / 2 ^ 5 % 2 ^ 14) 14) = R) :
    Calls Tryd.prog 27 #[.slice (some ⟨g, off, none⟩) 4 cap, hlV h] w fun e w' => e = .returned (.tuple #[.int .i64 R, .int .i64 0]) ∧ Below w.heap.size w w' := by
  have CK := Lib.hid (fun W => rcheck_any h W)
  have WI := Lib.hid (fun W => rwidth_any h W)
  have NE := Lib.hid (fun W => near_any h W)
  have DA := Lib.hid (fun W => data_any h W)
  have HB0 := Lib.hid (below1 w (.cells #[.int .i64 h.k, .int .i64 h.s, .int .i64 h.a, .string h.p, .string h.m] 25))
  have G0 := Lib.hid (heap_alloc_new w (.cells #[.int .i64 h.k, .int .i64 h.s, .int .i64 h.a, .string h.p, .string h.m] 25))
  rw [show chkI h.k h.s = 0 by simp [chkI, hok]] at CK
  rw [show (shR h.k h.s).w = 4 by rw [hk, hs]; decide] at WI
  rw [show decide (h.k ≤ 6) = true by rw [hk]; rfl] at NE
  rw [show decide (10 ≤ h.k) = false by rw [hk]; rfl] at DA
  have WO := Lib.hid (fun W (hb : Below w.heap.size w W) => rword_any x0 x1 x2 x3 g off cap W a0 b0 a1 b1 a2 b2 a3 b3 (cell_kept hb c0) (cell_kept hb c1) (cell_kept hb c2) (cell_kept hb c3))
  rw [hX] at WO
  have GE := Lib.hid (fun W => get_any X 5 14 W hXl (by decide) (by decide) (by decide))
  have hlt : X / 2 ^ 5 % 2 ^ 14 < 4294967296 := Nat.lt_of_le_of_lt (Nat.mod_le _ _) (Nat.lt_of_le_of_lt (Nat.div_le_self _ _) hXl)
  generalize X / 2 ^ 5 % 2 ^ 14 = Y at *
  have SG := Lib.hid (fun W => Bit.rsign_yes (Y : Int) 14 W (by omega) (by omega) (by decide) (by decide))
  rw [Int.toNat_natCast, show Int.toNat 14 = 14 from rfl] at SG
  generalize BM.sgn Y 14 = D at *
  rw [i64_wrap64] at hR
  subst hR
  clear hok hX hXl a0 b0 a1 b1 a2 b2 a3 b3 c0 c1 c2 c3
  obtain ⟨k, s, ad, p, m⟩ := h
  unfold hlV at *
  simp only at *
  subst hk hs
  go_enter Tryd.func27, Tryd.ntmps27
  go_wp2_with fail
  refine (CK.out _).mono ?_
  rintro e w1 ⟨rfl, hb⟩
  have G1 := Lib.hid (kept_v hb G0.out)
  have HB1 := Lib.hid (HB0.out.trans (hb.mono HB0.out.size))
  clear hb
  obtain ⟨f0, c0, c1, c2, c3, c4⟩ := fiveH G1.out
  go_wp2_with fail
  refine (WI.out _).mono ?_
  rintro e w2 ⟨rfl, hb⟩
  have G2 := Lib.hid (kept_v hb G1.out)
  have HB2 := Lib.hid (HB1.out.trans (hb.mono HB1.out.size))
  clear f0 c0 c1 c2 c3 c4
  clear hb
  obtain ⟨f0, c0, c1, c2, c3, c4⟩ := fiveH G2.out
  go_wp2_with fail
  refine (NE.out _).mono ?_
  rintro e w3 ⟨rfl, hb⟩
  have G3 := Lib.hid (kept_v hb G2.out)
  have HB3 := Lib.hid (HB2.out.trans (hb.mono HB2.out.size))
  clear f0 c0 c1 c2 c3 c4
  clear hb
  obtain ⟨f0, c0, c1, c2, c3, c4⟩ := fiveH G3.out
  go_wp2_with fail
  refine (DA.out _).mono ?_
  rintro e w4 ⟨rfl, hb⟩
  have G4 := Lib.hid (kept_v hb G3.out)
  have HB4 := Lib.hid (HB3.out.trans (hb.mono HB3.out.size))
  clear f0 c0 c1 c2 c3 c4
  clear hb
  obtain ⟨f0, c0, c1, c2, c3, c4⟩ := fiveH G4.out
  go_wp2_with fail
  refine (WO.out _ HB4.out).mono ?_
  rintro e w5 ⟨rfl, hb⟩
  have G5 := Lib.hid (kept_v hb G4.out)
  have HB5 := Lib.hid (HB4.out.trans (hb.mono HB4.out.size))
  clear f0 c0 c1 c2 c3 c4 hb
  obtain ⟨f0, c0, c1, c2, c3, c4⟩ := fiveH G5.out
  go_wp2_with fail
  refine (GE.out _).mono ?_
  rintro e w6 ⟨rfl, hb⟩
  have G6 := Lib.hid (kept_v hb G5.out)
  have HB6 := Lib.hid (HB5.out.trans (hb.mono HB5.out.size))
  clear f0 c0 c1 c2 c3 c4 hb
  obtain ⟨f0, c0, c1, c2, c3, c4⟩ := fiveH G6.out
  go_wp2_with fail
  refine (SG.out _).mono ?_
  rintro e w7 ⟨rfl, rfl⟩
  have G7 := Lib.hid (G6.out)
  have HB7 := Lib.hid (HB6.out)
  clear f0 c0 c1 c2 c3 c4
  obtain ⟨f0, c0, c1, c2, c3, c4⟩ := fiveH G7.out
  go_wp2_with fail
  go_ret2
  exact ⟨rfl, HB7.out⟩
set_option maxHeartbeats 2000000 in
theorem rread_n5 (h : Hl) (g off cap : Nat) (w : World) (x0 x1 x2 x3 : Int) (X : Nat)
    (a0 : 0 ≤ x0) (b0 : x0 < 256) (a1 : 0 ≤ x1) (b1 : x1 < 256) (a2 : 0 ≤ x2) (b2 : x2 < 256) (a3 : 0 ≤ x3) (b3 : x3 < 256)
    (c0 : w.cell? ⟨g, off, none⟩ = some (.int .u8 x0)) (c1 : w.cell? ⟨g, off + 1, none⟩ = some (.int .u8 x1)) (c2 : w.cell? ⟨g, off + 2, none⟩ = some (.int .u8 x2)) (c3 : w.cell? ⟨g, off + 3, none⟩ = some (.int .u8 x3))
    (hX : w4I x0 x1 x2 x3 = (X : Int)) (hXl : X < 4294967296) (hok : holeOk h.k h.s = true) (hk : h.k = 5) (hs : h.s = 0) (R : Int) (hR : IntKind.i64.wrap (4 * BM.sgn (X / 2 ^ 5 % 2 ^ 19) 19) = R) :
    Calls Tryd.prog 27 #[.slice (some ⟨g, off, none⟩) 4 cap, hlV h] w fun e w' => e = .returned (.tuple #[.int .i64 R, .int .i64 0]) ∧ Below w.heap.size w w' := by
  have CK := Lib.hid (fun W => rcheck_any h W)
  have WI := Lib.hid (fun W => rwidth_any h W)
  have NE := Lib.hid (fun W => near_any h W)
  have DA := Lib.hid (fun W => data_any h W)
  have HB0 := Lib.hid (below1 w (.cells #[.int .i64 h.k, .int .i64 h.s, .int .i64 h.a, .string h.p, .string h.m] 25))
  have G0 := Lib.hid (heap_alloc_new w (.cells #[.int .i64 h.k, .int .i64 h.s, .int .i64 h.a, .string h.p, .string h.m] 25))
  rw [show chkI h.k h.s = 0 by simp [chkI, hok]] at CK
  rw [show (shR h.k h.s).w = 4 by rw [hk, hs]; decide] at WI
  rw [show decide (h.k ≤ 6) = true by rw [hk]; rfl] at NE
  rw [show decide (10 ≤ h.k) = false by rw [hk]; rfl] at DA
  have WO := Lib.hid (fun W (hb : Below w.heap.size w W) => rword_any x0 x1 x2 x3 g off cap W a0 b0 a1 b1 a2 b2 a3 b3 (cell_kept hb c0) (cell_kept hb c1) (cell_kept hb c2) (cell_kept hb c3))
  rw [hX] at WO
  have GE := Lib.hid (fun W => get_any X 5 19 W hXl (by decide) (by decide) (by decide))
  have hlt : X / 2 ^ 5 % 2 ^ 19 < 4294967296 := Nat.lt_of_le_of_lt (Nat.mod_le _ _) (Nat.lt_of_le_of_lt (Nat.div_le_self _ _) hXl)
  generalize X / 2 ^ 5 % 2 ^ 19 = Y at *
  have SG := Lib.hid (fun W => Bit.rsign_yes (Y : Int) 19 W (by omega) (by omega) (by decide) (by decide))
  rw [Int.toNat_natCast, show Int.toNat 19 = 19 from rfl] at SG
  generalize BM.sgn Y 19 = D at *
  rw [i64_wrap64] at hR
  subst hR
  clear hok hX hXl a0 b0 a1 b1 a2 b2 a3 b3 c0 c1 c2 c3
  obtain ⟨k, s, ad, p, m⟩ := h
  unfold hlV at *
  simp only at *
  subst hk hs
  go_enter Tryd.func27, Tryd.ntmps27
  go_wp2_with fail
  refine (CK.out _).mono ?_
  rintro e w1 ⟨rfl, hb⟩
  have G1 := Lib.hid (kept_v hb G0.out)
  have HB1 := Lib.hid (HB0.out.trans (hb.mono HB0.out.size))
  clear hb
  obtain ⟨f0, c0, c1, c2, c3, c4⟩ := fiveH G1.out
  go_wp2_with fail
  refine (WI.out _).mono ?_
  rintro e w2 ⟨rfl, hb⟩
  have G2 := Lib.hid (kept_v hb G1.out)
  have HB2 := Lib.hid (HB1.out.trans (hb.mono HB1.out.size))
  clear f0 c0 c1 c2 c3 c4
  clear hb
  obtain ⟨f0, c0, c1, c2, c3, c4⟩ := fiveH G2.out
  go_wp2_with fail
  refine (NE.out _).mono ?_
  rintro e w3 ⟨rfl, hb⟩
  have G3 := Lib.hid (kept_v hb G2.out)
  have HB3 := Lib.hid (HB2.out.trans (hb.mono HB2.out.size))
  clear f0 c0 c1 c2 c3 c4
  clear hb
  obtain ⟨f0, c0, c1, c2, c3, c4⟩ := fiveH G3.out
  go_wp2_with fail
  refine (DA.out _).mono ?_
  rintro e w4 ⟨rfl, hb⟩
  have G4 := Lib.hid (kept_v hb G3.out)
  have HB4 := Lib.hid (HB3.out.trans (hb.mono HB3.out.size))
  clear f0 c0 c1 c2 c3 c4
  clear hb
  obtain ⟨f0, c0, c1, c2, c3, c4⟩ := fiveH G4.out
  go_wp2_with fail
  refine (WO.out _ HB4.out).mono ?_
  rintro e w5 ⟨rfl, hb⟩
  have G5 := Lib.hid (kept_v hb G4.out)
  have HB5 := Lib.hid (HB4.out.trans (hb.mono HB4.out.size))
  clear f0 c0 c1 c2 c3 c4 hb
  obtain ⟨f0, c0, c1, c2, c3, c4⟩ := fiveH G5.out
  go_wp2_with fail
  refine (GE.out _).mono ?_
  rintro e w6 ⟨rfl, hb⟩
  have G6 := Lib.hid (kept_v hb G5.out)
  have HB6 := Lib.hid (HB5.out.trans (hb.mono HB5.out.size))
  clear f0 c0 c1 c2 c3 c4 hb
  obtain ⟨f0, c0, c1, c2, c3, c4⟩ := fiveH G6.out
  go_wp2_with fail
  refine (SG.out _).mono ?_
  rintro e w7 ⟨rfl, rfl⟩
  have G7 := Lib.hid (G6.out)
  have HB7 := Lib.hid (HB6.out)
  clear f0 c0 c1 c2 c3 c4
  obtain ⟨f0, c0, c1, c2, c3, c4⟩ := fiveH G7.out
  go_wp2_with fail
  go_ret2
  exact ⟨rfl, HB7.out⟩
set_option maxHeartbeats 2000000 in
theorem rread_n6 (h : Hl) (g off cap : Nat) (w : World) (x0 x1 x2 x3 : Int) (X : Nat)
    (a0 : 0 ≤ x0) (b0 : x0 < 256) (a1 : 0 ≤ x1) (b1 : x1 < 256) (a2 : 0 ≤ x2) (b2 : x2 < 256) (a3 : 0 ≤ x3) (b3 : x3 < 256)
    (c0 : w.cell? ⟨g, off, none⟩ = some (.int .u8 x0)) (c1 : w.cell? ⟨g, off + 1, none⟩ = some (.int .u8 x1)) (c2 : w.cell? ⟨g, off + 2, none⟩ = some (.int .u8 x2)) (c3 : w.cell? ⟨g, off + 3, none⟩ = some (.int .u8 x3))
    (hX : w4I x0 x1 x2 x3 = (X : Int)) (hXl : X < 4294967296) (hok : holeOk h.k h.s = true) (hk : h.k = 6) (hs : h.s = 0) (R : Int) (hR : BM.sgn (X / 2 ^ 29 % 2 ^ 2 + 4 * (X / 2 ^ 5 % 2 ^ 19)) 21 = R) :
    Calls Tryd.prog 27 #[.slice (some ⟨g, off, none⟩) 4 cap, hlV h] w fun e w' => e = .returned (.tuple #[.int .i64 R, .int .i64 0]) ∧ Below w.heap.size w w' := by
  have CK := Lib.hid (fun W => rcheck_any h W)
  have WI := Lib.hid (fun W => rwidth_any h W)
  have NE := Lib.hid (fun W => near_any h W)
  have DA := Lib.hid (fun W => data_any h W)
  have HB0 := Lib.hid (below1 w (.cells #[.int .i64 h.k, .int .i64 h.s, .int .i64 h.a, .string h.p, .string h.m] 25))
  have G0 := Lib.hid (heap_alloc_new w (.cells #[.int .i64 h.k, .int .i64 h.s, .int .i64 h.a, .string h.p, .string h.m] 25))
  rw [show chkI h.k h.s = 0 by simp [chkI, hok]] at CK
  rw [show (shR h.k h.s).w = 4 by rw [hk, hs]; decide] at WI
  rw [show decide (h.k ≤ 6) = true by rw [hk]; rfl] at NE
  rw [show decide (10 ≤ h.k) = false by rw [hk]; rfl] at DA
  have WO := Lib.hid (fun W (hb : Below w.heap.size w W) => rword_any x0 x1 x2 x3 g off cap W a0 b0 a1 b1 a2 b2 a3 b3 (cell_kept hb c0) (cell_kept hb c1) (cell_kept hb c2) (cell_kept hb c3))
  rw [hX] at WO
  have G1' := Lib.hid (fun W => get_any X 5 19 W hXl (by decide) (by decide) (by decide))
  have G2' := Lib.hid (fun W => get_any X 29 2 W hXl (by decide) (by decide) (by decide))
  have l1 : X / 2 ^ 5 % 2 ^ 19 < 524288 := Nat.mod_lt _ (by decide)
  have l2 : X / 2 ^ 29 % 2 ^ 2 < 4 := Nat.mod_lt _ (by decide)
  generalize X / 2 ^ 5 % 2 ^ 19 = Y at *
  generalize X / 2 ^ 29 % 2 ^ 2 = Z at *
  have SG := Lib.hid (fun W => Bit.rsign_yes ((Z + 4 * Y : Nat) : Int) 21 W (by omega) (by omega) (by decide) (by decide))
  rw [Int.toNat_natCast, show Int.toNat 21 = 21 from rfl] at SG
  have es : ((Z + 4 * Y : Nat) : Int) = 4 * (Y : Int) + (Z : Int) := by omega
  rw [es] at SG
  generalize BM.sgn (Z + 4 * Y) 21 = D at *
  subst hR
  clear hok hX hXl a0 b0 a1 b1 a2 b2 a3 b3 c0 c1 c2 c3 es
  obtain ⟨k, s, ad, p, m⟩ := h
  unfold hlV at *
  simp only at *
  subst hk hs
  go_enter Tryd.func27, Tryd.ntmps27
  go_wp2_with fail
  refine (CK.out _).mono ?_
  rintro e w1 ⟨rfl, hb⟩
  have G1 := Lib.hid (kept_v hb G0.out)
  have HB1 := Lib.hid (HB0.out.trans (hb.mono HB0.out.size))
  clear hb
  obtain ⟨f0, c0, c1, c2, c3, c4⟩ := fiveH G1.out
  go_wp2_with fail
  refine (WI.out _).mono ?_
  rintro e w2 ⟨rfl, hb⟩
  have G2 := Lib.hid (kept_v hb G1.out)
  have HB2 := Lib.hid (HB1.out.trans (hb.mono HB1.out.size))
  clear f0 c0 c1 c2 c3 c4
  clear hb
  obtain ⟨f0, c0, c1, c2, c3, c4⟩ := fiveH G2.out
  go_wp2_with fail
  refine (NE.out _).mono ?_
  rintro e w3 ⟨rfl, hb⟩
  have G3 := Lib.hid (kept_v hb G2.out)
  have HB3 := Lib.hid (HB2.out.trans (hb.mono HB2.out.size))
  clear f0 c0 c1 c2 c3 c4
  clear hb
  obtain ⟨f0, c0, c1, c2, c3, c4⟩ := fiveH G3.out
  go_wp2_with fail
  refine (DA.out _).mono ?_
  rintro e w4 ⟨rfl, hb⟩
  have G4 := Lib.hid (kept_v hb G3.out)
  have HB4 := Lib.hid (HB3.out.trans (hb.mono HB3.out.size))
  clear f0 c0 c1 c2 c3 c4
  clear hb
  obtain ⟨f0, c0, c1, c2, c3, c4⟩ := fiveH G4.out
  go_wp2_with fail
  refine (WO.out _ HB4.out).mono ?_
  rintro e w5 ⟨rfl, hb⟩
  have G5 := Lib.hid (kept_v hb G4.out)
  have HB5 := Lib.hid (HB4.out.trans (hb.mono HB4.out.size))
  clear f0 c0 c1 c2 c3 c4 hb
  obtain ⟨f0, c0, c1, c2, c3, c4⟩ := fiveH G5.out
  go_wp2_with fail
  refine (G1'.out _).mono ?_
  rintro e w6 ⟨rfl, hb⟩
  have G6 := Lib.hid (kept_v hb G5.out)
  have HB6 := Lib.hid (HB5.out.trans (hb.mono HB5.out.size))
  clear f0 c0 c1 c2 c3 c4 hb
  obtain ⟨f0, c0, c1, c2, c3, c4⟩ := fiveH G6.out
  go_wp2_with fail
  refine (G2'.out _).mono ?_
  rintro e w7 ⟨rfl, hb⟩
  have G7 := Lib.hid (kept_v hb G6.out)
  have HB7 := Lib.hid (HB6.out.trans (hb.mono HB6.out.size))
  clear f0 c0 c1 c2 c3 c4 hb
  obtain ⟨f0, c0, c1, c2, c3, c4⟩ := fiveH G7.out
  go_wp2_with fail
  refine (SG.out _).mono ?_
  rintro e w8 ⟨rfl, rfl⟩
  have G8 := Lib.hid (G7.out)
  have HB8 := Lib.hid (HB7.out)
  clear f0 c0 c1 c2 c3 c4
  obtain ⟨f0, c0, c1, c2, c3, c4⟩ := fiveH G8.out
  go_wp2_with fail
  go_ret2
  exact ⟨rfl, HB8.out⟩
end Go.Proofs.YtjkhgljlipljdaaDoor
namespace Go.Proofs.YtjkhgljlipljdaaDoor
open Go.RowKit
set_option linter.unusedVariables false
set_option linter.unusedSimpArgs false
def hiN (xs : Nat → Nat) (len : Nat) : Nat → Nat
  | 0 => 0
  | c + 1 => hiN xs len c * 256 + xs (len - (c + 1))
theorem hiN_low (xs : Nat → Nat) (len : Nat) : ∀ c, c ≤ len → lowN xs len = lowN xs (len - c) + 2 ^ (8 * (len - c)) * hiN xs len c
  | 0, _ => by simp [hiN]
  | c + 1, h => by
    have ih := hiN_low xs len c (by omega)
    obtain ⟨d, hd⟩ : ∃ d, len - c = d + 1 := ⟨len - c - 1, by omega⟩
    rw [hd] at ih
    rw [show len - (c + 1) = d by omega, ih]
    show lowN xs d + xs d * 2 ^ (8 * d) + 2 ^ (8 * (d + 1)) * hiN xs len c = lowN xs d + 2 ^ (8 * d) * (hiN xs len c * 256 + xs (len - (c + 1)))
    rw [show len - (c + 1) = d by omega, show 8 * (d + 1) = 8 * d + 8 by omega, Nat.pow_add, Nat.mul_add, Nat.mul_comm (xs d), show (2 : Nat) ^ 8 = 256 from rfl, Nat.mul_assoc, Nat.mul_comm 256 (hiN xs len c)]
    omega
theorem hiN_end (xs : Nat → Nat) (len : Nat) : hiN xs len len = lowN xs len := by
  have := hiN_low xs len len (Nat.le_refl _)
  rw [Nat.sub_self] at this
  simp [lowN] at this
  exact this.symm
theorem hiN_lt (xs : Nat → Nat) (len : Nat) (hx : ∀ j, j < len → xs j < 256) : ∀ c, c ≤ len → hiN xs len c < 2 ^ (8 * c)
  | 0, _ => by simp [hiN]
  | c + 1, h => by
    have ih := hiN_lt xs len hx c (by omega)
    have h2 := hx (len - (c + 1)) (by omega)
    rw [show 8 * (c + 1) = 8 * c + 8 by omega, Nat.pow_add]
    show hiN xs len c * 256 + xs (len - (c + 1)) < 2 ^ (8 * c) * 256
    omega
theorem pow8 {c : Nat} (h : c ≤ 8) : 2 ^ (8 * c) ≤ 18446744073709551616 := (show (18446744073709551616 : Nat) = 2 ^ 64 from rfl) ▸ Nat.pow_le_pow_right (by decide) (by omega)
theorem u_byte (v : Int) (i : Nat) (hi : i < 8) : v % 18446744073709551616 / 2 ^ (8 * i) % 256 = ((bytN v i : Nat) : Int) := by
  unfold bytN
  obtain rfl | rfl | rfl | rfl | rfl | rfl | rfl | rfl : i = 0 ∨ i = 1 ∨ i = 2 ∨ i = 3 ∨ i = 4 ∨ i = 5 ∨ i = 6 ∨ i = 7 := by omega
  all_goals simp only [Nat.mul_zero, Nat.mul_one, Nat.reduceMul, Int.reducePow]
  all_goals omega
theorem u_next (u : Int) (i : Nat) : u / 2 ^ (8 * i) / 256 = u / 2 ^ (8 * (i + 1)) := by
  rw [Int.ediv_ediv_of_nonneg (Int.le_of_lt (Int.pow_pos (by decide))), show 8 * (i + 1) = 8 * i + 8 by omega, Int.pow_add]
  rfl
theorem own_sliceF {W : World} {base size n : Nat} {t : TypeId} {v : Value} {xs : List Value} (h : W.ownsRow base t size v n xs) : ∃ a c, v = .slice a n c := by
  rcases h.2 with ⟨h1, h2⟩ | ⟨g, cap, cur, h1, _⟩
  · exact ⟨_, _, by rw [h2]; exact h1⟩
  · exact ⟨_, _, h1⟩
theorem own_keepF {B : Nat} {e : TypeId} {k : Nat} {v : Value} {n : Nat} {xs : List Value} {w w' : World} (h : w.ownsRow B e k v n xs) (hb : Below w.heap.size w w') : w'.ownsRow B e k v n xs :=
  h.kept (row := none) ⟨hb.os, hb.tape, hb.output, hb.size, fun j hj _ => hb.block j hj⟩ (by cases hv : v.ownBlock <;> simp)
set_option maxHeartbeats 2000000 in
theorem rread_d (h : Hl) (g off len cap : Nat) (w : World) (xs : Nat → Nat) (hx : ∀ j, j < len → xs j < 256) (hc : ∀ j, j < len → w.cell? ⟨g, off + j, none⟩ = some (.int .u8 (xs j))) (hok : holeOk h.k h.s = true) (hl : (len : Int) = (shR h.k h.s).w) (hf : filledB (shR h.k h.s) = true) (h1 : decide (h.k ≤ 6) = false) (h2 : decide (10 ≤ h.k) = true) (h8 : len ≤ 8) :
    Calls Tryd.prog 27 #[.slice (some ⟨g, off, none⟩) len cap, hlV h] w fun e w' => e = .returned (.tuple #[.int .i64 (IntKind.i64.wrap ((lowN xs len : Nat) : Int)), .int .i64 0]) ∧ Below w.heap.size w w' := by
  have CK := Lib.hid (fun W => rcheck_any h W)
  have WI := Lib.hid (fun W => rwidth_any h W)
  have NE := Lib.hid (fun W => near_any h W)
  have DA := Lib.hid (fun W => data_any h W)
  have HB0 := Lib.hid (below1 w (.cells #[.int .i64 h.k, .int .i64 h.s, .int .i64 h.a, .string h.p, .string h.m] 25))
  have G0 := Lib.hid (heap_alloc_new w (.cells #[.int .i64 h.k, .int .i64 h.s, .int .i64 h.a, .string h.p, .string h.m] 25))
  rw [show chkI h.k h.s = 0 by simp [chkI, hok]] at CK
  rw [← hl] at WI
  rw [h1] at NE
  rw [h2] at DA
  clear hok hl h1 h2
  obtain ⟨k, s, ad, p, m⟩ := h
  unfold hlV at *
  simp only at *
  go_enter Tryd.func27, Tryd.ntmps27
  go_wp2_with fail
  refine (CK.out _).mono ?_
  rintro e w1 ⟨rfl, hb⟩
  have G1 := Lib.hid (kept_v hb G0.out)
  have HB1 := Lib.hid (HB0.out.trans (hb.mono HB0.out.size))
  clear hb
  obtain ⟨f0, c0, c1, c2, c3, c4⟩ := fiveH G1.out
  go_wp2_with fail
  refine (WI.out _).mono ?_
  rintro e w2 ⟨rfl, hb⟩
  have G2 := Lib.hid (kept_v hb G1.out)
  have HB2 := Lib.hid (HB1.out.trans (hb.mono HB1.out.size))
  clear f0 c0 c1 c2 c3 c4
  clear hb
  obtain ⟨f0, c0, c1, c2, c3, c4⟩ := fiveH G2.out
  go_wp2_with fail
  refine (NE.out _).mono ?_
  rintro e w3 ⟨rfl, hb⟩
  have G3 := Lib.hid (kept_v hb G2.out)
  have HB3 := Lib.hid (HB2.out.trans (hb.mono HB2.out.size))
  clear f0 c0 c1 c2 c3 c4
  clear hb
  obtain ⟨f0, c0, c1, c2, c3, c4⟩ := fiveH G3.out
  go_wp2_with fail
  refine (DA.out _).mono ?_
  rintro e w4 ⟨rfl, hb⟩
  have G4 := Lib.hid (kept_v hb G3.out)
  have HB4 := Lib.hid (HB3.out.trans (hb.mono HB3.out.size))
  clear f0 c0 c1 c2 c3 c4
  clear hb
  obtain ⟨f0, c0, c1, c2, c3, c4⟩ := fiveH G4.out
  go_wp2_with fail
  refine (DA.out _).mono ?_
  rintro e w5 ⟨rfl, hb⟩
  have G5 := Lib.hid (kept_v hb G4.out)
  have HB5 := Lib.hid (HB4.out.trans (hb.mono HB4.out.size))
  clear f0 c0 c1 c2 c3 c4
  clear hb
  obtain ⟨f0, c0, c1, c2, c3, c4⟩ := fiveH G5.out
  go_wp2_with fail
  clear f0 c0 c1 c2 c3 c4 CK WI NE DA
  have HC := Lib.hid (fun j hj => cell_kept HB5.out (hc j hj))
  have HX := Lib.hid hx
  clear hc hx G0 G1 G2 G3 G4 G5 HB0 HB1 HB2 HB3 HB4
  go_loopw [7, 8] (fun u iv wr => ∃ c : Nat, c ≤ len ∧ u = .int .u64 ((hiN xs len c : Nat) : Int) ∧ iv = .int .i64 ((len : Int) - 1 - (c : Int)) ∧ w5 = wr) (fun _ iv _ => (intOf iv + 1).toNat)
  case atStart => exact ⟨0, by omega, rfl, by simp, rfl⟩
  case round =>
    obtain ⟨c, hc, rfl, rfl, rfl⟩ := hrel
    by_cases hlt : c < len
    · have hge : (0 : Int) ≤ (len : Int) - 1 - (c : Int) := by omega
      have hcj := HC.out (len - (c + 1)) (by omega)
      have hxj := HX.out (len - (c + 1)) (by omega)
      have hst : hiN xs len (c + 1) = hiN xs len c * 256 + xs (len - (c + 1)) := rfl
      have hbd := hiN_lt xs len HX.out (c + 1) (by omega)
      have hbd2 := pow8 (show c + 1 ≤ 8 by omega)
      rw [show off + (len - (c + 1)) = off + (len - 1 - c) by omega] at hcj
      generalize xs (len - (c + 1)) = x at *
      generalize hZ : hiN xs len (c + 1) = Z at *
      generalize hiN xs len c = U at *
      go_wp2_with fail
      exact ⟨⟨c + 1, by omega, by first | (rw [hZ, hst]; rfl) | (rw [hZ, hst]; push_cast; rfl) | (rw [hZ, hst]; simp), by congr 1; omega, trivial⟩, by simp [intOf]; omega⟩
    · obtain rfl : c = len := by omega
      rw [hiN_end]
      go_wp2_with fail
      go_ret2
      exact ⟨by rw [i64_wrap64]; rfl, HB5.out⟩
set_option maxRecDepth 20000 in
set_option maxHeartbeats 4000000 in
theorem rfill_d (h : Hl) (v : Int) (a : Option Addr) (len cap : Nat) (w : World) (hv : -9223372036854775808 ≤ v ∧ v ≤ 9223372036854775807) (hok : holeOk h.k h.s = true) (hl : (len : Int) = (shR h.k h.s).w) (hf : filledB (shR h.k h.s) = true) (h1 : decide (h.k ≤ 6) = false) (h2 : decide (10 ≤ h.k) = true) (h8 : len ≤ 8) (hfit : fitsB (shR h.k h.s) v = true) (hl1 : 1 ≤ len) :
    Calls Tryd.prog 25 #[.slice a len cap, hlV h, .int .i64 v] w fun e w' => ∃ B vc X, e = .returned (.tuple #[.slice (some ⟨B, 0, none⟩) len vc, .int .i64 0]) ∧ w'.heap[B]? = some (.cells X 5 (0, 0)) ∧ (∀ i, i < len → X[i]? = some (.int .u8 ((bytN v i : Nat) : Int))) ∧ Below w.heap.size w w' := by
  have CK := Lib.hid (fun W => rcheck_any h W)
  have WI := Lib.hid (fun W => rwidth_any h W)
  have NE := Lib.hid (fun W => near_any h W)
  have DA := Lib.hid (fun W => data_any h W)
  have FI := Lib.hid (fun W => rfits_any h v W)
  have HB0 := Lib.hid (below1 w (.cells #[.int .i64 h.k, .int .i64 h.s, .int .i64 h.a, .string h.p, .string h.m] 25))
  have G0 := Lib.hid (heap_alloc_new w (.cells #[.int .i64 h.k, .int .i64 h.s, .int .i64 h.a, .string h.p, .string h.m] 25))
  rw [show (filledB (shR h.k h.s) && fitsB (shR h.k h.s) v) = true by rw [hf, hfit]; rfl] at FI
  rw [show chkI h.k h.s = 0 by simp [chkI, hok]] at CK
  rw [← hl] at WI
  rw [h1] at NE
  rw [h2] at DA
  clear hok hl h1 h2
  have hw : IntKind.u64.wrap v = v % 18446744073709551616 := IntKind.wrap_u64 v
  obtain ⟨i0, hi, hz0', hz1, hz2⟩ := info_parts infoByte
  clear hfit hf hv
  obtain ⟨k, s, ad, p, m⟩ := h
  unfold hlV at *
  simp only at *
  go_enter Tryd.func25, Tryd.ntmps25
  go_wp2_with fail
  refine (CK.out _).mono ?_
  rintro e w1 ⟨rfl, hb⟩
  have G1 := Lib.hid (kept_v hb G0.out)
  have HB1 := Lib.hid (HB0.out.trans (hb.mono HB0.out.size))
  clear hb
  obtain ⟨f0, c0, c1, c2, c3, c4⟩ := fiveH G1.out
  go_wp2_with fail
  refine (WI.out _).mono ?_
  rintro e w2 ⟨rfl, hb⟩
  have G2 := Lib.hid (kept_v hb G1.out)
  have HB2 := Lib.hid (HB1.out.trans (hb.mono HB1.out.size))
  clear f0 c0 c1 c2 c3 c4
  clear hb
  obtain ⟨f0, c0, c1, c2, c3, c4⟩ := fiveH G2.out
  go_wp2_with fail
  refine (NE.out _).mono ?_
  rintro e w3 ⟨rfl, hb⟩
  have G3 := Lib.hid (kept_v hb G2.out)
  have HB3 := Lib.hid (HB2.out.trans (hb.mono HB2.out.size))
  clear f0 c0 c1 c2 c3 c4
  clear hb
  obtain ⟨f0, c0, c1, c2, c3, c4⟩ := fiveH G3.out
  go_wp2_with fail
  refine (DA.out _).mono ?_
  rintro e w4 ⟨rfl, hb⟩
  have G4 := Lib.hid (kept_v hb G3.out)
  have HB4 := Lib.hid (HB3.out.trans (hb.mono HB3.out.size))
  clear f0 c0 c1 c2 c3 c4
  clear hb
  obtain ⟨f0, c0, c1, c2, c3, c4⟩ := fiveH G4.out
  go_wp2_with fail
  refine (FI.out _).mono ?_
  rintro e w5 ⟨rfl, hb⟩
  have G5 := Lib.hid (kept_v hb G4.out)
  have HB5 := Lib.hid (HB4.out.trans (hb.mono HB4.out.size))
  clear f0 c0 c1 c2 c3 c4
  clear hb
  obtain ⟨f0, c0, c1, c2, c3, c4⟩ := fiveH G5.out
  go_wp2_with fail
  refine (NE.out _).mono ?_
  rintro e w6 ⟨rfl, hb⟩
  have G6 := Lib.hid (kept_v hb G5.out)
  have HB6 := Lib.hid (HB5.out.trans (hb.mono HB5.out.size))
  clear f0 c0 c1 c2 c3 c4
  clear hb
  obtain ⟨f0, c0, c1, c2, c3, c4⟩ := fiveH G6.out
  go_wp2_with fail
  clear f0 c0 c1 c2 c3 c4 CK WI NE DA FI
  clear G0 G1 G2 G3 G4 G5 G6 HB0 HB1 HB2 HB3 HB4 HB5
  try rw [hw]
  have hu0 : v % 18446744073709551616 = v % 18446744073709551616 / 2 ^ (8 * 0) := by simp
  have hub : ∀ i : Nat, 0 ≤ v % 18446744073709551616 / 2 ^ (8 * i) ∧ v % 18446744073709551616 / 2 ^ (8 * i) < 18446744073709551616 := fun i => by
    have hp : (0 : Int) < 2 ^ (8 * i) := Int.pow_pos (by decide)
    refine ⟨Int.ediv_nonneg (by omega) (by omega), Int.lt_of_le_of_lt (Int.ediv_le_self _ (by omega)) (by omega)⟩
  have HUB := Lib.hid hub
  have HUN := Lib.hid (fun i => u_next (v % 18446744073709551616) i)
  have HUY := Lib.hid (fun i hi => u_byte v i hi)
  rw [hu0]
  generalize hU : (fun i : Nat => v % 18446744073709551616 / 2 ^ (8 * i)) = U at *
  have hUi : ∀ i : Nat, v % 18446744073709551616 / 2 ^ (8 * i) = U i := fun i => congrFun hU i
  simp only [hUi] at HUB HUN HUY ⊢
  clear hU hUi hu0 hub hw
  go_loopw [15, 16, 17] (fun ov u iv wr => ∃ i : Nat, i ≤ len ∧ u = .int .u64 (U i) ∧ iv = .int .i64 (i : Int) ∧ (∃ oa oc, ov = .slice oa i oc) ∧ Hid (wr.ownsRow w6.heap.size 5 1 ov i ((List.range i).map fun j => Value.int .u8 ((bytN v j : Nat) : Int))) ∧ Hid (Below w6.heap.size w6 wr)) (fun _ _ iv _ => len - (intOf iv).toNat)
  case atStart => exact ⟨0, by omega, rfl, rfl, ⟨_, _, rfl⟩, Lib.hid (World.ownsRow_nil _ _ _ _), Lib.hid (Below.refl _ _)⟩
  case round =>
    obtain ⟨i, hile, rfl, rfl, ⟨oa, oc, rfl⟩, HR, HB⟩ := hrel
    by_cases hlt : i < len
    · have hlt' : (i : Int) < (len : Int) := by omega
      have hy := HUY.out i (by omega)
      have hub := HUB.out i
      have hyl := bytN_lt v i
      generalize hY : bytN v i = Y at *
      have HNW := Lib.hid (show ∀ j u, [Value.int .u8 (Y : Int)][j]? = some u → (wr.alloc (.cells #[.int .u8 (Y : Int)] 5)).cell? ((⟨wr.heap.size, 0, none⟩ : Addr).add j) = some u from by
        have h := heap_alloc_new wr (.cells #[.int .u8 (Y : Int)] 5)
        exact fun j u hu => World.news_of_block h j u hu)
      have HQ := Lib.hid (And.intro (show i + 1 ≤ maxLen by unfold maxLen; omega) (show (i + 1) * 1 ≤ 140737488355328 by omega))
      have hz : w6.heap.size ≤ wr.heap.size := HB.out.size
      go_wp2_with (at_builtin; (refine wpList_append_own _ rfl _ _ 53 rfl w6.heap.size 5 i0 (.int .u8 0) 1 1 Tryd.underlying53 hi hz0' hz1 hz2 rfl (by decide) _ _ _ rfl (own_keepF HR.out (below1 _ _)) ⟨wr.heap.size, 0, none⟩ 1 1 [.int .u8 (Y : Int)] rfl rfl HNW.out (by simp [Value.oneCell']) HQ.out.1 HQ.out.2 (by simp; omega) ?_; intro v' w7 hown7 hgrow7 _; obtain ⟨ub, uc, rfl⟩ := own_sliceF hown7; have HB7 := Lib.hid (show Below w6.heap.size w6 w7 from ((HB.out.alloc HB.out.size _).grown hgrow7 (by simp; omega) (fun q hq => (HR.out.lt q hq).1))); have HO7 := Lib.hid hown7; clear hown7 hgrow7))
      refine ⟨⟨i + 1, by omega, ?_, by first | rfl | (push_cast; rfl), ⟨_, _, rfl⟩, Lib.hid (by rw [List.range_succ, List.map_append]; simp only [List.map_cons, List.map_nil, hY]; exact HO7.out), HB7⟩, by simp [intOf]; omega⟩
      rw [← HUN.out i]
    · obtain rfl : i = len := by omega
      go_wp2_with fail
      go_ret2
      have HBW := Lib.hid (HB6.out.trans (HB.out.mono HB6.out.size))
      rcases HR.out.2 with ⟨_, hz⟩ | ⟨g, vc, cur, hv, _, hg, _, _, _, hx⟩
      · exact absurd hz (by omega)
      · obtain ⟨rfl, rfl⟩ : oa = some ⟨g, 0, none⟩ ∧ oc = vc := by cases hv; exact ⟨rfl, rfl⟩
        refine ⟨g, oc, cur, rfl, hg, fun j hj => ?_, HBW.out⟩
        have e := congrArg (fun l => l[j]?) hx
        simp only [Nat.mul_one, List.getElem?_take, hj, if_true, List.getElem?_map, List.getElem?_range hj, Option.map_some] at e
        rw [← Array.getElem?_toList]
        exact e
end Go.Proofs.YtjkhgljlipljdaaDoor
namespace Go.Proofs.YtjkhgljlipljdaaDoor
open Go.RowKit
set_option linter.unusedVariables false
set_option linter.unusedSimpArgs false
set_option maxHeartbeats 2000000 in
theorem read_e1 (h : Hl) (a : Option Addr) (len cap : Nat) (w : World) (hG : Gd w) (hok : inOk h.k h.s len = false) :
    Calls Tryd.prog 26 #[.slice a len cap, hlV h] w fun e w' => e = .returned (.tuple #[.int .i64 0, .int .i64 1]) ∧ Below w.heap.size w w' := by
  have SI := Lib.hid (fun W hb => shapeIn_any h a len cap W (hG.keep hb))
  have e1 : inR h.k h.s len = sh0 := by simp [inR, hok]
  have e2 : inE h.k h.s len = 1 := by simp [inE, hok]
  rw [e1, e2] at SI
  clear e1 e2
  clear hG
  obtain ⟨k, s, ad, p, m⟩ := h
  unfold hlV at *
  simp only at *
  unfold shV sh0 at *
  simp only at *
  go_enter Tryd.func26, Tryd.ntmps26
  go_wp2_with fail
  refine (SI.out _ (below1 w _)).mono ?_
  rintro e w1 ⟨rfl, hb1⟩
  have HB1 := Lib.hid (Below.thn (below1 w _) (by simp) hb1)
  have HB2 := Lib.hid (HB1.out.alloc HB1.out.size (.cells #[.int .i64 0, .int .i64 0, .int .i64 0, .int .i64 0, .int .i64 0, .int .i64 0, .int .i64 0] 71))
  clear hb1 SI
  go_wp2_with fail
  go_ret2
  exact ⟨rfl, HB2.out⟩
set_option maxHeartbeats 2000000 in
theorem read_e2 (h : Hl) (a : Option Addr) (len cap : Nat) (w : World) (hG : Gd w) (hok : inOk h.k h.s len = true) (hf : filledB (shR h.k h.s) = false) :
    Calls Tryd.prog 26 #[.slice a len cap, hlV h] w fun e w' => e = .returned (.tuple #[.int .i64 0, .int .i64 180]) ∧ Below w.heap.size w w' := by
  have SI := Lib.hid (fun W hb => shapeIn_any h a len cap W (hG.keep hb))
  have IF := Lib.hid (fun W => isFilled_any (shR h.k h.s) W)
  have e1 : inR h.k h.s len = shR h.k h.s := by simp [inR, hok]
  have e2 : inE h.k h.s len = 0 := by simp [inE, hok]
  rw [e1, e2] at SI
  clear e1 e2
  rw [hf] at IF
  clear hok hf hG
  obtain ⟨k, s, ad, p, m⟩ := h
  unfold hlV at *
  simp only at *
  generalize shR k s = sh at *
  obtain ⟨y0, y1, y2, y3, y4, y5, y6⟩ := sh
  unfold shV at *
  simp only at *
  go_enter Tryd.func26, Tryd.ntmps26
  go_wp2_with fail
  refine (SI.out _ (below1 w _)).mono ?_
  rintro e w1 ⟨rfl, hb1⟩
  have HB1 := Lib.hid (Below.thn (below1 w _) (by simp) hb1)
  clear hb1 SI
  go_wp2_with fail
  have hs1 := heap_alloc_new w1 (.cells #[.int .i64 y0, .int .i64 y1, .int .i64 y2, .int .i64 y3, .int .i64 y4, .int .i64 y5, .int .i64 y6] 71)
  have HS1 := Lib.hid hs1
  have HBA := Lib.hid (HB1.out.alloc HB1.out.size (.cells #[.int .i64 y0, .int .i64 y1, .int .i64 y2, .int .i64 y3, .int .i64 y4, .int .i64 y5, .int .i64 y6] 71))
  generalize (w1.alloc (.cells #[.int .i64 y0, .int .i64 y1, .int .i64 y2, .int .i64 y3, .int .i64 y4, .int .i64 y5, .int .i64 y6] 71)) = W1 at *
  clear hs1 HB1
  refine (IF.out _).mono ?_
  rintro e w2 ⟨rfl, hb2⟩
  have hs2 := kept_v hb2 HS1.out
  have HS2 := Lib.hid hs2
  have HB2 := Lib.hid (HBA.out.trans (hb2.mono HBA.out.size))
  obtain ⟨f0, c0, c1, c2, c3, c4, c5, c6⟩ := seven hs2
  clear hb2 hs2 IF HBA HS1
  go_wp2_with fail
  go_ret2
  exact ⟨rfl, HB2.out⟩
theorem equal_nil (w : World) : Calls Tryd.prog 28 #[.slice none 0 0, .slice none 0 0] w fun e w' => e = .returned (.bool true) ∧ w = w' := by
  have h1 := run_convert_bytes_nil (P := Tryd.prog) w 53 5 Tryd.underlying53 Tryd.underlying5 0 0 9 Tryd.underlying9
  go_enter Tryd.func28, Tryd.ntmps28
  go_wp2_with fail
  go_ret
  exact ⟨rfl, rfl⟩
theorem equal_bys (g c g2 c2 len : Nat) (f : Nat → Int) (w : World) (h1 : ∀ j, j < len → w.cell? ⟨g, j, none⟩ = some (.int .u8 (f j))) (h2 : ∀ j, j < len → w.cell? ⟨g2, j, none⟩ = some (.int .u8 (f j))) :
    Calls Tryd.prog 28 #[.slice (some ⟨g, 0, none⟩) len c, .slice (some ⟨g2, 0, none⟩) len c2] w fun e w' => e = .returned (.bool true) ∧ w = w' := by
  have hd : ∀ j, j < len → ((List.range len).map f).getD j 0 = f j := fun j hj => by simp [List.getD, List.getElem?_map, List.getElem?_range hj]
  have k1 : (convert 53 9 (.slice (some ⟨g, 0, none⟩) len c)).run Tryd.prog w = .ok (.string (strOfNums ((List.range len).map f))) w :=
    run_convert_bytes_arg (P := Tryd.prog) (w := w) _ 5 Tryd.underlying53 Tryd.underlying5 g 0 len c ((List.range len).map f) (by simp) (fun i hi => by rw [hd i hi, Nat.zero_add]; exact h1 i hi) _ Tryd.underlying9
  have k2 : (convert 53 9 (.slice (some ⟨g2, 0, none⟩) len c2)).run Tryd.prog w = .ok (.string (strOfNums ((List.range len).map f))) w :=
    run_convert_bytes_arg (P := Tryd.prog) (w := w) _ 5 Tryd.underlying53 Tryd.underlying5 g2 0 len c2 ((List.range len).map f) (by simp) (fun i hi => by rw [hd i hi, Nat.zero_add]; exact h2 i hi) _ Tryd.underlying9
  generalize strOfNums ((List.range len).map f) = S at *
  clear hd h1 h2
  go_enter Tryd.func28, Tryd.ntmps28
  go_wp2_with fail
  go_ret
  exact ⟨rfl, rfl⟩
set_option maxRecDepth 20000 in
set_option maxHeartbeats 4000000 in
theorem fills_walk (h : Hl) (v : Int) (a : Option Addr) (len cap : Nat) (w : World) (hG : Gd w) (Q Q2 : World → Value → Prop) (E N G : Int)
    (hk : ∀ {W W' : World} {x : Value}, Below W.heap.size W W' → Q W x → Q W' x) (hk2 : ∀ {W W' : World} {x : Value}, Below W.heap.size W W' → Q2 W x → Q2 W' x)
    (PF : Hid (∀ W, Below w.heap.size w W → Calls Tryd.prog 24 #[.slice a len cap, hlV h, .int .i64 v] W fun e w' => ∃ x, e = .returned (.tuple #[x, .int .i64 E]) ∧ Q w' x ∧ Below W.heap.size W w'))
    (RF : Hid (∀ W, Below w.heap.size w W → Calls Tryd.prog 25 #[.slice a len cap, hlV h, .int .i64 v] W fun e w' => ∃ x, e = .returned (.tuple #[x, .int .i64 E]) ∧ Q2 w' x ∧ Below W.heap.size W w'))
    (PR : Hid (∀ W, Below w.heap.size w W → Calls Tryd.prog 26 #[.slice a len cap, hlV h] W fun e w' => e = .returned (.tuple #[.int .i64 N, .int .i64 G]) ∧ Below W.heap.size W w'))
    (RR : Hid (∀ W, Below w.heap.size w W → Calls Tryd.prog 27 #[.slice a len cap, hlV h] W fun e w' => e = .returned (.tuple #[.int .i64 N, .int .i64 G]) ∧ Below W.heap.size W w'))
    (EQ : Hid (∀ W x y, Q W x → Q2 W y → Calls Tryd.prog 28 #[x, y] W fun e w' => e = .returned (.bool true) ∧ W = w')) :
    Calls Tryd.prog 5 #[.slice a len cap, hlV h, .int .i64 v] w fun e w' => e = .returned (.bool true) ∧ Below w.heap.size w w' := by
  have LV := Lib.hid (fun W (hb : Below w.heap.size w W) => live_any W (hG.keep hb))
  clear hG
  obtain ⟨k, s, ad, p, m⟩ := h
  unfold hlV at *
  simp only at *
  go_enter Tryd.func5, Tryd.ntmps5
  go_wp2_with fail
  have g0 := heap_alloc_new w (.cells #[.int .i64 k, .int .i64 s, .int .i64 ad, .string p, .string m] 25)
  have HB0 := Lib.hid (below1 w (.cells #[.int .i64 k, .int .i64 s, .int .i64 ad, .string p, .string m] 25))
  refine (LV.out _ HB0.out).mono ?_
  rintro e w1 ⟨rfl, hb1⟩
  have G1 := Lib.hid (kept_v hb1 g0)
  have HB1 := Lib.hid (Below.thn HB0.out HB0.out.size hb1)
  obtain ⟨f0, c0, c1, c2, c3, c4⟩ := fiveH G1.out
  clear hb1 g0 HB0 LV
  by_cases hl : (100 : Int) < (len : Int)
  · go_wp2_with fail
    go_ret
    exact ⟨rfl, HB1.out⟩
  · go_wp2_with fail
    refine (PF.out _ HB1.out).mono ?_
    rintro e w2 ⟨x, rfl, hQ, hb2⟩
    have G2 := Lib.hid (kept_v hb2 G1.out)
    have HB2 := Lib.hid (Below.thn HB1.out HB1.out.size hb2)
    have HQ := Lib.hid hQ
    clear f0 c0 c1 c2 c3 c4 hb2 hQ PF G1 HB1
    obtain ⟨f0, c0, c1, c2, c3, c4⟩ := fiveH G2.out
    go_wp2_with fail
    refine (RF.out _ HB2.out).mono ?_
    rintro e w3 ⟨y, rfl, hQ2, hb3⟩
    have G3 := Lib.hid (kept_v hb3 G2.out)
    have HB3 := Lib.hid (Below.thn HB2.out HB2.out.size hb3)
    have HQ3 := Lib.hid (hk hb3 HQ.out)
    have HY3 := Lib.hid hQ2
    clear f0 c0 c1 c2 c3 c4 hb3 hQ2 RF G2 HB2 HQ
    obtain ⟨f0, c0, c1, c2, c3, c4⟩ := fiveH G3.out
    go_wp2_with fail
    refine (PR.out _ HB3.out).mono ?_
    rintro e w4 ⟨rfl, hb4⟩
    have G4 := Lib.hid (kept_v hb4 G3.out)
    have HB4 := Lib.hid (Below.thn HB3.out HB3.out.size hb4)
    have HQ4 := Lib.hid (hk hb4 HQ3.out)
    have HY4 := Lib.hid (hk2 hb4 HY3.out)
    clear f0 c0 c1 c2 c3 c4 hb4 PR G3 HB3 HQ3 HY3
    obtain ⟨f0, c0, c1, c2, c3, c4⟩ := fiveH G4.out
    go_wp2_with fail
    refine (RR.out _ HB4.out).mono ?_
    rintro e w5 ⟨rfl, hb5⟩
    have HB5 := Lib.hid (Below.thn HB4.out HB4.out.size hb5)
    have HQ5 := Lib.hid (hk hb5 HQ4.out)
    have HY5 := Lib.hid (hk2 hb5 HY4.out)
    clear f0 c0 c1 c2 c3 c4 hb5 RR G4 HB4 HQ4 HY4
    go_wp2_with fail
    refine (EQ.out _ _ _ HQ5.out HY5.out).mono ?_
    rintro e w6 ⟨rfl, rfl⟩
    go_wp2_with fail
    go_ret
    exact ⟨rfl, HB5.out⟩
end Go.Proofs.YtjkhgljlipljdaaDoor
namespace Go.Proofs.YtjkhgljlipljdaaDoor
open Go.RowKit
set_option linter.unusedVariables false
set_option linter.unusedSimpArgs false
abbrev PRd (h : Hl) (a : Option Addr) (len cap : Nat) (w : World) (N G : Int) : Prop := ∀ W, Below w.heap.size w W → Calls Tryd.prog 26 #[.slice a len cap, hlV h] W fun e w' => e = .returned (.tuple #[.int .i64 N, .int .i64 G]) ∧ Below W.heap.size W w'
abbrev RRd (h : Hl) (a : Option Addr) (len cap : Nat) (w : World) (N G : Int) : Prop := ∀ W, Below w.heap.size w W → Calls Tryd.prog 27 #[.slice a len cap, hlV h] W fun e w' => e = .returned (.tuple #[.int .i64 N, .int .i64 G]) ∧ Below W.heap.size W w'
theorem sgn_wrap {op : Int} (hb : brOp op) (x : Nat) : IntKind.i64.wrap (distI op x * 1) = distI op x := by
  have h1 := dist_bd hb x
  have h2 := wid_near hb
  rw [Int.mul_one]
  exact IntWalk.i64_in _ (by omega)
theorem reads_word (h : Hl) (g off cap : Nat) (w : World) (hG : Gd w) (hc : ∀ j, j < 4 → ∃ x : Int, 0 ≤ x ∧ x < 256 ∧ w.cell? ⟨g, off + j, none⟩ = some (.int .u8 x))
    (hin : inOk h.k h.s 4 = true) (hok : holeOk h.k h.s = true) (hn : nearB (shR h.k h.s) = true) :
    ∃ N, PRd h (some ⟨g, off, none⟩) 4 cap w N 0 ∧ RRd h (some ⟨g, off, none⟩) 4 cap w N 0 := by
  obtain ⟨hbr, h4, ht', hf, hsf⟩ := near_facts hok hn
  obtain ⟨x0, a0, b0, c0⟩ := hc 0 (by decide)
  obtain ⟨x1, a1, b1, c1⟩ := hc 1 (by decide)
  obtain ⟨x2, a2, b2, c2⟩ := hc 2 (by decide)
  obtain ⟨x3, a3, b3, c3⟩ := hc 3 (by decide)
  rw [Nat.add_zero] at c0
  have hw := w4I_bd a0 b0 a1 b1 a2 b2 a3 b3
  obtain ⟨X, hX⟩ : ∃ X : Nat, w4I x0 x1 x2 x3 = (X : Int) := ⟨(w4I x0 x1 x2 x3).toNat, by omega⟩
  have hXl : X < 4294967296 := by omega
  refine ⟨IntKind.i64.wrap (distI (shR h.k h.s).o X * (shR h.k h.s).t), fun W hb => ?_, fun W hb => ?_⟩
  · exact read_near h g off cap x0 x1 x2 x3 W (hG.keep hb) a0 b0 a1 b1 a2 b2 a3 b3 (cell_kept hb c0) (cell_kept hb c1) (cell_kept hb c2) (cell_kept hb c3) X hX hXl _ rfl hin hf hn hbr
  · obtain ⟨hs, hk⟩ := near_cases hok hn
    rcases hk with hk | hk | hk | hk | hk | hk
    · exact rread_n1 h g off cap W x0 x1 x2 x3 X a0 b0 a1 b1 a2 b2 a3 b3 (cell_kept hb c0) (cell_kept hb c1) (cell_kept hb c2) (cell_kept hb c3) hX hXl hok hk hs _ (by rw [hk, hs, show (shR 1 0).o = 8 by decide, show (shR 1 0).t = 4 by decide, Int.mul_comm]; rfl)
    · exact rread_n2 h g off cap W x0 x1 x2 x3 X a0 b0 a1 b1 a2 b2 a3 b3 (cell_kept hb c0) (cell_kept hb c1) (cell_kept hb c2) (cell_kept hb c3) hX hXl hok hk hs _ (by rw [hk, hs, show (shR 2 0).o = 8 by decide, show (shR 2 0).t = 4 by decide, Int.mul_comm]; rfl)
    · exact rread_n3 h g off cap W x0 x1 x2 x3 X a0 b0 a1 b1 a2 b2 a3 b3 (cell_kept hb c0) (cell_kept hb c1) (cell_kept hb c2) (cell_kept hb c3) hX hXl hok hk hs _ (by rw [hk, hs, show (shR 3 0).o = 7 by decide, show (shR 3 0).t = 4 by decide, Int.mul_comm]; rfl)
    · exact rread_n4 h g off cap W x0 x1 x2 x3 X a0 b0 a1 b1 a2 b2 a3 b3 (cell_kept hb c0) (cell_kept hb c1) (cell_kept hb c2) (cell_kept hb c3) hX hXl hok hk hs _ (by rw [hk, hs, show (shR 4 0).o = 10 by decide, show (shR 4 0).t = 4 by decide, Int.mul_comm]; rfl)
    · exact rread_n5 h g off cap W x0 x1 x2 x3 X a0 b0 a1 b1 a2 b2 a3 b3 (cell_kept hb c0) (cell_kept hb c1) (cell_kept hb c2) (cell_kept hb c3) hX hXl hok hk hs _ (by rw [hk, hs, show (shR 5 0).o = 18 by decide, show (shR 5 0).t = 4 by decide, Int.mul_comm]; rfl)
    · refine rread_n6 h g off cap W x0 x1 x2 x3 X a0 b0 a1 b1 a2 b2 a3 b3 (cell_kept hb c0) (cell_kept hb c1) (cell_kept hb c2) (cell_kept hb c3) hX hXl hok hk hs _ ?_
      rw [hk, hs, show (shR 6 0).o = 1 by decide, show (shR 6 0).t = 1 by decide, sgn_wrap (.inr (.inr (.inr (.inr rfl))))]
      rfl
theorem reads_data (h : Hl) (g off len cap : Nat) (w : World) (hG : Gd w) (hc : ∀ j, j < len → ∃ x : Int, 0 ≤ x ∧ x < 256 ∧ w.cell? ⟨g, off + j, none⟩ = some (.int .u8 x))
    (hin : inOk h.k h.s len = true) (hok : holeOk h.k h.s = true) (hl : (len : Int) = (shR h.k h.s).w) (hf : filledB (shR h.k h.s) = true) (hn : nearB (shR h.k h.s) = false) (h1 : decide (h.k ≤ 6) = false) (h2 : decide (10 ≤ h.k) = true) (h8 : len ≤ 8) :
    ∃ N, PRd h (some ⟨g, off, none⟩) len cap w N 0 ∧ RRd h (some ⟨g, off, none⟩) len cap w N 0 := by
  have hxs : ∃ xs : Nat → Nat, ∀ j, j < len → xs j < 256 ∧ w.cell? ⟨g, off + j, none⟩ = some (.int .u8 (xs j)) := by
    refine ⟨fun j => if hj : j < len then (hc j hj).choose.toNat else 0, fun j hj => ?_⟩
    have hx := (hc j hj).choose_spec
    simp only [hj, dite_true]
    generalize (hc j hj).choose = x at *
    refine ⟨by omega, ?_⟩
    rw [hx.2.2, Int.toNat_of_nonneg hx.1]
  obtain ⟨xs, hxs⟩ := hxs
  exact ⟨_, fun W hb => read_data h xs g off len cap W (hG.keep hb) hin hf hn h8 (fun j hj => (hxs j hj).1) (fun j hj => cell_kept hb (hxs j hj).2),
    fun W hb => rread_d h g off len cap W xs (fun j hj => (hxs j hj).1) (fun j hj => cell_kept hb (hxs j hj).2) hok hl hf h1 h2 h8⟩
def QNil (W : World) (x : Value) : Prop := x = .slice none 0 0
def QB (len : Nat) (f : Nat → Int) (W : World) (x : Value) : Prop := ∃ B c, x = .slice (some ⟨B, 0, none⟩) len c ∧ ∀ j, j < len → W.cell? ⟨B, j, none⟩ = some (.int .u8 (f j))
theorem qb_keep {len : Nat} {f : Nat → Int} {W W' : World} {x : Value} (hb : Below W.heap.size W W') (h : QB len f W x) : QB len f W' x := by
  obtain ⟨B, c, h1, h2⟩ := h
  exact ⟨B, c, h1, fun j hj => cell_kept hb (h2 j hj)⟩
theorem qb_equal {len : Nat} {f : Nat → Int} {W : World} {x y : Value} (h1 : QB len f W x) (h2 : QB len f W y) : Calls Tryd.prog 28 #[x, y] W fun e w' => e = .returned (.bool true) ∧ W = w' := by
  obtain ⟨B, c, rfl, h3⟩ := h1
  obtain ⟨B2, c2, rfl, h4⟩ := h2
  exact equal_bys B c B2 c2 len f W h3 h4
def w4F (r : Nat) (j : Nat) : Int := if j = 0 then (r : Int) % 256 else if j = 1 then (r : Int) / 256 % 256 else if j = 2 then (r : Int) / 65536 % 256 else (r : Int) / 16777216
theorem w4_qb {W : World} {B r c : Nat} {T : TypeId} (h : W.heap[B]? = some (.cells (w4C r) T (0, 0))) : QB 4 (w4F r) W (.slice (some ⟨B, 0, none⟩) 4 c) := by
  refine ⟨B, c, rfl, fun j hj => ?_⟩
  rw [Lib.cell_of_heap h j]
  obtain rfl | rfl | rfl | rfl : j = 0 ∨ j = 1 ∨ j = 2 ∨ j = 3 := by omega
  all_goals rfl
/-- nothing is filled in: no bytes, and the same error -/
theorem fills_err (h : Hl) (v : Int) (a : Option Addr) (len cap : Nat) (w : World) (hG : Gd w) (E N G : Int)
    (PF : ∀ W, Below w.heap.size w W → Calls Tryd.prog 24 #[.slice a len cap, hlV h, .int .i64 v] W fun e w' => e = .returned (.tuple #[.slice none 0 0, .int .i64 E]) ∧ Below W.heap.size W w')
    (RF : ∀ W, Below w.heap.size w W → Calls Tryd.prog 25 #[.slice a len cap, hlV h, .int .i64 v] W fun e w' => e = .returned (.tuple #[.slice none 0 0, .int .i64 E]) ∧ Below W.heap.size W w')
    (PR : PRd h a len cap w N G) (RR : RRd h a len cap w N G) :
    Calls Tryd.prog 5 #[.slice a len cap, hlV h, .int .i64 v] w fun e w' => e = .returned (.bool true) ∧ Below w.heap.size w w' :=
  fills_walk h v a len cap w hG QNil QNil E N G (fun _ h => h) (fun _ h => h) (Lib.hid fun W hb => (PF W hb).mono fun e w' ⟨h1, h2⟩ => ⟨_, h1, rfl, h2⟩) (Lib.hid fun W hb => (RF W hb).mono fun e w' ⟨h1, h2⟩ => ⟨_, h1, rfl, h2⟩) (Lib.hid PR) (Lib.hid RR)
    (Lib.hid fun W x y hx hy => by rw [show x = .slice none 0 0 from hx, show y = .slice none 0 0 from hy]; exact equal_nil W)
theorem fills_law (h : Hl) (v : Int) (hv : -9223372036854775808 ≤ v ∧ v ≤ 9223372036854775807) (a : Option Addr) (len cap : Nat) (w : World) (hG : Gd w) (hI : GI w) (hB : BysO w a len) :
    Calls Tryd.prog 5 #[.slice a len cap, hlV h, .int .i64 v] w fun e w' => e = .returned (.bool true) ∧ Below w.heap.size w w' := by
  cases hin : inOk h.k h.s len with
  | false =>
    cases hok : holeOk h.k h.s with
    | false => exact fills_err h v a len cap w hG 1 0 1 (fun W hb => fill_e1 h v a len cap W (hG.keep hb) hin) (fun W hb => rfill_e0 h v a len cap W hok) (fun W hb => read_e1 h a len cap W (hG.keep hb) hin) (fun W hb => rread_e0 h a len cap W hok)
    | true =>
      have hl : ((len : Int) != (shR h.k h.s).w) = true := by rw [bne_iff_ne]; simpa [inOk, hok] using hin
      exact fills_err h v a len cap w hG 1 0 1 (fun W hb => fill_e1 h v a len cap W (hG.keep hb) hin) (fun W hb => rfill_e1 h v a len cap W hok hl) (fun W hb => read_e1 h a len cap W (hG.keep hb) hin) (fun W hb => rread_e1 h a len cap W hok hl)
  | true =>
    obtain ⟨hok, hl⟩ : holeOk h.k h.s = true ∧ (len : Int) = (shR h.k h.s).w := by simpa [inOk] using hin
    have hfk := fill_k hok
    cases hf : filledB (shR h.k h.s) with
    | false =>
      rw [hf] at hfk
      obtain ⟨h1, h2⟩ := Bool.or_eq_false_iff.1 hfk.symm
      exact fills_err h v a len cap w hG 180 0 180 (fun W hb => fill_e2 h v a len cap W (hG.keep hb) hin hf) (fun W hb => rfill_e2 h v a len cap W hok hl h1 h2) (fun W hb => read_e2 h a len cap W (hG.keep hb) hin hf) (fun W hb => rread_e2 h a len cap W hok hl h1 h2)
    | true =>
      rw [hf] at hfk
      have hw1 := wid_one hok hf
      obtain ⟨ht, hw8⟩ := far_t hok hf
      have h8 : len ≤ 8 := by omega
      obtain ⟨g, off, h0, hc⟩ := hB
      obtain rfl : a = some ⟨g, off, none⟩ := by rcases h0 with h0 | h0; omega; exact h0
      cases hn : nearB (shR h.k h.s) with
      | false =>
        have h1 : decide (h.k ≤ 6) = false := by rw [← near_k hok]; exact hn
        have h2 : decide (10 ≤ h.k) = true := by rw [h1] at hfk; simpa using hfk
        obtain ⟨N, PR, RR⟩ := reads_data h g off len cap w hG hc hin hok hl hf hn h1 h2 h8
        cases hfit : fitsB (shR h.k h.s) v with
        | false => exact fills_err h v _ len cap w hG 181 N 0 (fun W hb => fill_e3 h v _ len cap W (hG.keep hb) hv hin hf ht hfit) (fun W hb => rfill_e3d h v _ len cap W hok hl hf h1 h2 hfit) PR RR
        | true =>
          refine fills_walk h v _ len cap w hG (QB len fun j => ((bytN v j : Nat) : Int)) (QB len fun j => ((bytN v j : Nat) : Int)) 0 N 0 qb_keep qb_keep ?_ ?_ (Lib.hid PR) (Lib.hid RR) (Lib.hid fun W x y hx hy => qb_equal hx hy)
          · refine Lib.hid fun W hb => (fill_low h v hv _ len cap W (hG.keep hb) hin hf ht hfit hn h8).mono fun e w' ⟨B, he, _, ⟨X, q2, q3, q4⟩, hb2⟩ => ⟨_, he, ⟨B, len, rfl, fun j hj => ?_⟩, hb2⟩
            rw [Lib.cell_of_heap q2 j, q4 j hj]
            have : ((bytN v j : Nat) : Int) = v / 2 ^ (8 * j) % 256 := by unfold bytN; omega
            exact congrArg (fun z => some (Value.int .u8 z)) this.symm
          · refine Lib.hid fun W hb => (rfill_d h v _ len cap W hv hok hl hf h1 h2 h8 hfit (by omega)).mono fun e w' ⟨B, vc, X, he, q2, q4, hb2⟩ => ⟨_, he, ⟨B, vc, rfl, fun j hj => ?_⟩, hb2⟩
            rw [Lib.cell_of_heap q2 j, q4 j hj]
      | true =>
        obtain ⟨hbr, h4, ht', _, hsf⟩ := near_facts hok hn
        obtain rfl : len = 4 := by omega
        have h1 : decide (h.k ≤ 6) = true := by rw [← near_k hok]; exact hn
        obtain ⟨N, PR, RR⟩ := reads_word h g off cap w hG hc hin hok hn
        cases hfit : fitsB (shR h.k h.s) v with
        | false => exact fills_err h v _ 4 cap w hG 181 N 0 (fun W hb => fill_e3 h v _ 4 cap W (hG.keep hb) hv hin hf ht hfit) (fun W hb => rfill_e3n h v _ 4 cap W hok hl hf h1 hfit) PR RR
        | true =>
          obtain ⟨x0, a0, b0, c0⟩ := hc 0 (by decide)
          obtain ⟨x1, a1, b1, c1⟩ := hc 1 (by decide)
          obtain ⟨x2, a2, b2, c2⟩ := hc 2 (by decide)
          obtain ⟨x3, a3, b3, c3⟩ := hc 3 (by decide)
          rw [Nat.add_zero] at c0
          have hw := w4I_bd a0 b0 a1 b1 a2 b2 a3 b3
          obtain ⟨X, hX⟩ : ∃ X : Nat, w4I x0 x1 x2 x3 = (X : Int) := ⟨(w4I x0 x1 x2 x3).toNat, by omega⟩
          have hXl : X < 4294967296 := by omega
          refine fills_walk h v _ 4 cap w hG (QB 4 (w4F (setM X (shR h.k h.s).o (v.tdiv (shR h.k h.s).t)))) (QB 4 (w4F (setM X (shR h.k h.s).o (v.tdiv (shR h.k h.s).t)))) 0 N 0 qb_keep qb_keep ?_ ?_ (Lib.hid PR) (Lib.hid RR) (Lib.hid fun W x y hx hy => qb_equal hx hy)
          · exact Lib.hid fun W hb => (fill_word h v hv g off cap x0 x1 x2 x3 X W (hG.keep hb) (hI.keep hb) a0 b0 a1 b1 a2 b2 a3 b3 (cell_kept hb c0) (cell_kept hb c1) (cell_kept hb c2) (cell_kept hb c3) hX hok hin hfit hn).mono fun e w' ⟨B, he, hx, hb2⟩ => ⟨_, he, w4_qb hx, hb2⟩
          · rcases ht' with ht' | ht'
            · exact Lib.hid fun W hb => (rfill_n4 h v g off cap W hv x0 x1 x2 x3 X a0 b0 a1 b1 a2 b2 a3 b3 (cell_kept hb c0) (cell_kept hb c1) (cell_kept hb c2) (cell_kept hb c3) hX hXl hok hl hf h1 ht' hfit).mono fun e w' ⟨B, he, hx, hb2⟩ => ⟨_, he, w4_qb hx, hb2⟩
            · exact Lib.hid fun W hb => (rfill_n1 h v g off cap W hv x0 x1 x2 x3 X a0 b0 a1 b1 a2 b2 a3 b3 (cell_kept hb c0) (cell_kept hb c1) (cell_kept hb c2) (cell_kept hb c3) hX hXl hok hl hf h1 ht' hfit).mono fun e w' ⟨B, he, hx, hb2⟩ => ⟨_, he, w4_qb hx, hb2⟩
end Go.Proofs.YtjkhgljlipljdaaDoor
