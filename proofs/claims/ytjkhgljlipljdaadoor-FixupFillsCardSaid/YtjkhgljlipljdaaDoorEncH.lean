/-
  The words of the branches' classes as numbers: what wordOf returns where only A is not zero.
-/
import Derived.Test.YtjkhgljlipljdaaDoorEncG
import Derived.Laws.BitsAllLaws
namespace Go.Proofs.YtjkhgljlipljdaaDoor
open Go.RowKit
set_option linter.unusedVariables false
set_option linter.unusedSimpArgs false
set_option maxRecDepth 20000 in
theorem word_ps (op a : Int) (p0 p1 p2 p3 p4 p5 p6 p7 p8 p9 : Pa) (o0 : okP p0) (o1 : okP p1) (o2 : okP p2) (o3 : okP p3) (o4 : okP p4) (o5 : okP p5) (o6 : okP p6) (o7 : okP p7) (o8 : okP p8) (o9 : okP p9)
    (hs : ∀ W, Calls Tryd.prog 82 #[inV op a] W fun e w' => e = .returned (.agg (shL [p0, p1, p2, p3, p4, p5, p6, p7, p8, p9]).toArray) ∧ Below W.heap.size W w') (w : World) :
    Calls Tryd.prog 70 #[inV op a] w fun e w' => e = .returned (.int .u32 ([p0, p1, p2, p3, p4, p5, p6, p7, p8, p9].foldl putW 0)) ∧ Below w.heap.size w w' := by
  have h := word_of op a (shL [p0, p1, p2, p3, p4, p5, p6, p7, p8, p9]) (fun j => ([p0, p1, p2, p3, p4, p5, p6, p7, p8, p9])[j]?.getD zeP) (by
      intro j hj
      have h : j = 0 ∨ j = 1 ∨ j = 2 ∨ j = 3 ∨ j = 4 ∨ j = 5 ∨ j = 6 ∨ j = 7 ∨ j = 8 ∨ j = 9 := by omega
      rcases h with rfl | rfl | rfl | rfl | rfl | rfl | rfl | rfl | rfl | rfl <;> assumption) (by rfl) (by
      intro W j hj
      have h : j = 0 ∨ j = 1 ∨ j = 2 ∨ j = 3 ∨ j = 4 ∨ j = 5 ∨ j = 6 ∨ j = 7 ∨ j = 8 ∨ j = 9 := by omega
      rcases h with rfl | rfl | rfl | rfl | rfl | rfl | rfl | rfl | rfl | rfl
      all_goals (show _ = _; kernel_rfl)) hs w
  exact h
theorem putW_add {x : Nat} {b : Nat} {n : Nat} {f : Bool} (hb : b < 2 ^ n) (hx : x * 2 ^ n + b < 4294967296) : putW (x : Int) ⟨(b : Int), (n : Int), f⟩ = ((x * 2 ^ n + b : Nat) : Int) := by
  unfold putW
  simp only [Int.toNat_natCast]
  have e : ((x : Int) * 2 ^ n % 4294967296) = ((x * 2 ^ n : Nat) : Int) := by
    rw [Int.emod_eq_of_lt]
    · simp
    · exact Int.mul_nonneg (Int.natCast_nonneg _) (Int.pow_nonneg (by decide))
    · have : ((x : Int) * 2 ^ n) = ((x * 2 ^ n : Nat) : Int) := by simp
      rw [this]; omega
  rw [e, u32_or _ _ (Int.natCast_nonneg _) (by omega) (Int.natCast_nonneg _) (by omega), Int.toNat_natCast, Int.toNat_natCast]
  rw [Nat.mul_comm, ← Nat.two_pow_add_eq_or_of_lt hb]
theorem lowQ_mod (v : Int) {n : Nat} (hn : n ≤ 32) : lowQ v (n : Int) = v % 2 ^ n := by
  unfold lowQ onesQ
  have hp : 2 ^ n ≤ 2 ^ 32 := Nat.pow_le_pow_right (by decide) hn
  have e32 : 2 ^ 32 = 4294967296 := by decide
  rw [e32] at hp
  have hq := Nat.two_pow_pos n
  have c : (2 : Int) ^ n = ((2 ^ n : Nat) : Int) := by simp
  have wu : ∀ n : Int, IntKind.u64.wrap n = n % 18446744073709551616 := fun n => by simp [IntKind.wrap, IntKind.bits, IntKind.signed]
  rw [Int.toNat_natCast, c, wu, wu, wu]
  have e1 : ((2 ^ n : Nat) : Int) % 18446744073709551616 = ((2 ^ n : Nat) : Int) := by omega
  have e2 : (((2 ^ n : Nat) : Int) - 1) % 18446744073709551616 = ((2 ^ n - 1 : Nat) : Int) := by omega
  rw [e1, e2]
  have hv0 : 0 ≤ v % 18446744073709551616 := by omega
  have hv1 : v % 18446744073709551616 < 18446744073709551616 := by omega
  rw [u64_and _ _ hv0 hv1 (Int.natCast_nonneg _) (by omega), Int.toNat_natCast, Nat.and_two_pow_sub_one_eq_mod]
  have hm : (v % 18446744073709551616).toNat % 2 ^ n < 2 ^ n := Nat.mod_lt _ hq
  have r1 : (((v % 18446744073709551616).toNat % 2 ^ n : Nat) : Int) % 4294967296 = (((v % 18446744073709551616).toNat % 2 ^ n : Nat) : Int) := by omega
  rw [r1, Int.natCast_emod, Int.toNat_of_nonneg hv0, ← c]
  refine Int.emod_emod_of_dvd v ?_
  refine ⟨2 ^ (64 - n), ?_⟩
  rw [← Int.pow_add, show n + (64 - n) = 64 by omega]
  decide
theorem numQ_nat (v : Int) {n : Nat} (hn : n ≤ 32) : numQ v (n : Int) = ⟨(((v % 2 ^ n).toNat : Nat) : Int), (n : Int), false⟩ := by
  unfold numQ
  have hq : (0 : Int) < 2 ^ n := Int.pow_pos (by decide)
  rw [lowQ_mod v hn, Int.toNat_of_nonneg (Int.emod_nonneg v (by omega))]
theorem putW_z (x : Nat) (hx : x < 4294967296) : putW (x : Int) zeP = (x : Int) := by
  have h := putW_add (x := x) (b := 0) (n := 0) (f := false) (by decide) (by omega)
  simpa [zeP] using h
theorem wB_val (a : Int) : [bitQ false, digP [48, 48, 49, 48, 49], numQ a 26, zeP, zeP, zeP, zeP, zeP, zeP, zeP].foldl putW 0 = ((335544320 + (a % 67108864).toNat : Nat) : Int) := by
  have h0 : bitQ false = ⟨((0 : Nat) : Int), ((1 : Nat) : Int), false⟩ := by show numQ 0 1 = _; exact numQ_nat 0 (n := 1) (by decide)
  have h1 : digP [48, 48, 49, 48, 49] = ⟨((5 : Nat) : Int), ((5 : Nat) : Int), true⟩ := by
    have e : digS [48, 48, 49, 48, 49] 5 = ((5 : Nat) : Int) := by decide
    show (⟨digS [48, 48, 49, 48, 49] 5, ((5 : Nat) : Int), true⟩ : Pa) = _
    rw [e]
  have h2 : numQ a 26 = ⟨(((a % 2 ^ 26).toNat : Nat) : Int), ((26 : Nat) : Int), false⟩ := numQ_nat _ (n := 26) (by decide)
  simp only [List.foldl]
  rw [h0, h1, h2, show (0 : Int) = ((0 : Nat) : Int) from rfl]
  rw [putW_add (by omega) (by omega)]
  rw [putW_add (by omega) (by omega)]
  rw [putW_add (by omega) (by omega)]
  rw [putW_z _ (by omega), putW_z _ (by omega), putW_z _ (by omega), putW_z _ (by omega), putW_z _ (by omega), putW_z _ (by omega), putW_z _ (by omega)]
  refine congrArg Nat.cast ?_
  omega
theorem wBCond_val (a : Int) : [digP [48, 49, 48, 49, 48, 49, 48, 48], numQ a 19, digP [48], numQ 0 4, zeP, zeP, zeP, zeP, zeP, zeP].foldl putW 0 = ((1409286144 + (a % 524288).toNat * 32 : Nat) : Int) := by
  have h0 : digP [48, 49, 48, 49, 48, 49, 48, 48] = ⟨((84 : Nat) : Int), ((8 : Nat) : Int), true⟩ := by
    have e : digS [48, 49, 48, 49, 48, 49, 48, 48] 8 = ((84 : Nat) : Int) := by decide
    show (⟨digS [48, 49, 48, 49, 48, 49, 48, 48] 8, ((8 : Nat) : Int), true⟩ : Pa) = _
    rw [e]
  have h1 : numQ a 19 = ⟨(((a % 2 ^ 19).toNat : Nat) : Int), ((19 : Nat) : Int), false⟩ := numQ_nat _ (n := 19) (by decide)
  have h2 : digP [48] = ⟨((0 : Nat) : Int), ((1 : Nat) : Int), true⟩ := by
    have e : digS [48] 1 = ((0 : Nat) : Int) := by decide
    show (⟨digS [48] 1, ((1 : Nat) : Int), true⟩ : Pa) = _
    rw [e]
  have h3 : numQ 0 4 = ⟨((0 : Nat) : Int), ((4 : Nat) : Int), false⟩ := numQ_nat 0 (n := 4) (by decide)
  simp only [List.foldl]
  rw [h0, h1, h2, h3, show (0 : Int) = ((0 : Nat) : Int) from rfl]
  rw [putW_add (by omega) (by omega)]
  rw [putW_add (by omega) (by omega)]
  rw [putW_add (by omega) (by omega)]
  rw [putW_add (by omega) (by omega)]
  rw [putW_z _ (by omega), putW_z _ (by omega), putW_z _ (by omega), putW_z _ (by omega), putW_z _ (by omega), putW_z _ (by omega)]
  refine congrArg Nat.cast ?_
  omega
theorem wTb_val (a : Int) : [numQ 0 1, digP [48, 49, 49, 48, 49, 49], numQ 0 1, numQ 0 5, numQ a 14, numQ 0 5, zeP, zeP, zeP, zeP].foldl putW 0 = ((905969664 + (a % 16384).toNat * 32 : Nat) : Int) := by
  have h0 : numQ 0 1 = ⟨((0 : Nat) : Int), ((1 : Nat) : Int), false⟩ := numQ_nat 0 (n := 1) (by decide)
  have h1 : digP [48, 49, 49, 48, 49, 49] = ⟨((27 : Nat) : Int), ((6 : Nat) : Int), true⟩ := by
    have e : digS [48, 49, 49, 48, 49, 49] 6 = ((27 : Nat) : Int) := by decide
    show (⟨digS [48, 49, 49, 48, 49, 49] 6, ((6 : Nat) : Int), true⟩ : Pa) = _
    rw [e]
  have h2 : numQ 0 1 = ⟨((0 : Nat) : Int), ((1 : Nat) : Int), false⟩ := numQ_nat 0 (n := 1) (by decide)
  have h3 : numQ 0 5 = ⟨((0 : Nat) : Int), ((5 : Nat) : Int), false⟩ := numQ_nat 0 (n := 5) (by decide)
  have h4 : numQ a 14 = ⟨(((a % 2 ^ 14).toNat : Nat) : Int), ((14 : Nat) : Int), false⟩ := numQ_nat _ (n := 14) (by decide)
  have h5 : numQ 0 5 = ⟨((0 : Nat) : Int), ((5 : Nat) : Int), false⟩ := numQ_nat 0 (n := 5) (by decide)
  simp only [List.foldl]
  rw [h0, h1, h3, h4, show (0 : Int) = ((0 : Nat) : Int) from rfl]
  rw [putW_add (by omega) (by omega)]
  rw [putW_add (by omega) (by omega)]
  rw [putW_add (by omega) (by omega)]
  rw [putW_add (by omega) (by omega)]
  rw [putW_add (by omega) (by omega)]
  rw [putW_add (by omega) (by omega)]
  rw [putW_z _ (by omega), putW_z _ (by omega), putW_z _ (by omega), putW_z _ (by omega)]
  refine congrArg Nat.cast ?_
  omega
theorem wLdLit_val (a : Int) : [numQ 0 2, digP [48, 49, 49, 48, 48, 48], numQ a 19, numQ 0 5, zeP, zeP, zeP, zeP, zeP, zeP].foldl putW 0 = ((402653184 + (a % 524288).toNat * 32 : Nat) : Int) := by
  have h0 : numQ 0 2 = ⟨((0 : Nat) : Int), ((2 : Nat) : Int), false⟩ := numQ_nat 0 (n := 2) (by decide)
  have h1 : digP [48, 49, 49, 48, 48, 48] = ⟨((24 : Nat) : Int), ((6 : Nat) : Int), true⟩ := by
    have e : digS [48, 49, 49, 48, 48, 48] 6 = ((24 : Nat) : Int) := by decide
    show (⟨digS [48, 49, 49, 48, 48, 48] 6, ((6 : Nat) : Int), true⟩ : Pa) = _
    rw [e]
  have h2 : numQ a 19 = ⟨(((a % 2 ^ 19).toNat : Nat) : Int), ((19 : Nat) : Int), false⟩ := numQ_nat _ (n := 19) (by decide)
  have h3 : numQ 0 5 = ⟨((0 : Nat) : Int), ((5 : Nat) : Int), false⟩ := numQ_nat 0 (n := 5) (by decide)
  simp only [List.foldl]
  rw [h0, h1, h2, h3, show (0 : Int) = ((0 : Nat) : Int) from rfl]
  rw [putW_add (by omega) (by omega)]
  rw [putW_add (by omega) (by omega)]
  rw [putW_add (by omega) (by omega)]
  rw [putW_add (by omega) (by omega)]
  rw [putW_z _ (by omega), putW_z _ (by omega), putW_z _ (by omega), putW_z _ (by omega), putW_z _ (by omega), putW_z _ (by omega)]
  refine congrArg Nat.cast ?_
  omega
theorem wAdr_val (a : Int) : [bitQ false, numQ a 2, digP [49, 48, 48, 48, 48], numQ (a / 4) 19, numQ 0 5, zeP, zeP, zeP, zeP, zeP].foldl putW 0 = ((268435456 + (a % 4).toNat * 536870912 + (a / 4 % 524288).toNat * 32 : Nat) : Int) := by
  have h0 : bitQ false = ⟨((0 : Nat) : Int), ((1 : Nat) : Int), false⟩ := by show numQ 0 1 = _; exact numQ_nat 0 (n := 1) (by decide)
  have h1 : numQ a 2 = ⟨(((a % 2 ^ 2).toNat : Nat) : Int), ((2 : Nat) : Int), false⟩ := numQ_nat _ (n := 2) (by decide)
  have h2 : digP [49, 48, 48, 48, 48] = ⟨((16 : Nat) : Int), ((5 : Nat) : Int), true⟩ := by
    have e : digS [49, 48, 48, 48, 48] 5 = ((16 : Nat) : Int) := by decide
    show (⟨digS [49, 48, 48, 48, 48] 5, ((5 : Nat) : Int), true⟩ : Pa) = _
    rw [e]
  have h3 : numQ (a / 4) 19 = ⟨((((a / 4) % 2 ^ 19).toNat : Nat) : Int), ((19 : Nat) : Int), false⟩ := numQ_nat _ (n := 19) (by decide)
  have h4 : numQ 0 5 = ⟨((0 : Nat) : Int), ((5 : Nat) : Int), false⟩ := numQ_nat 0 (n := 5) (by decide)
  simp only [List.foldl]
  rw [h0, h1, h2, h3, h4, show (0 : Int) = ((0 : Nat) : Int) from rfl]
  rw [putW_add (by omega) (by omega)]
  rw [putW_add (by omega) (by omega)]
  rw [putW_add (by omega) (by omega)]
  rw [putW_add (by omega) (by omega)]
  rw [putW_add (by omega) (by omega)]
  rw [putW_z _ (by omega), putW_z _ (by omega), putW_z _ (by omega), putW_z _ (by omega), putW_z _ (by omega)]
  refine congrArg Nat.cast ?_
  omega
end Go.Proofs.YtjkhgljlipljdaaDoor
