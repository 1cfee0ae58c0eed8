/-
  For every number, every width and every distance BitsTurns returns true: what is turned and turned back is the number, turned by its width it is itself, and it has as many ones. No conditions.
-/
import Derived.Test.YtklibabeojpkhaaBitsD
import Derived.Test.YtklibabeojpkhaaBitsPop
import Derived.OpenShut
import Derived.Lib.SmallJoins
namespace Go.Proofs.Ytklibabeojpkhaa.bitsTurns
open Go.ChangeShapes Go.WideShapes Go.ChangeAt Go.RowKit BM
set_option linter.unusedVariables false

theorem ret1b' {a : Bool} (h : a = true) : Ending.returned (.bool a) = .returned (.bool true) := by rw [h]

def o1 (x : Int) : Int := IntKind.u64.wrap (bits .and .u64 (x / 2) 6148914691236517205 + bits .and .u64 x 6148914691236517205)
def o2 (x : Int) : Int := IntKind.u64.wrap (bits .and .u64 (x / 4) 3689348814741910323 + bits .and .u64 x 3689348814741910323)
def o3 (x : Int) : Int := bits .and .u64 (IntKind.u64.wrap (x / 16 + x)) 1085102592571150095
def o4 (x : Int) : Int := IntKind.u64.wrap (x + x / 256)
def o5 (x : Int) : Int := IntKind.u64.wrap (x + x / 65536)
def o6 (x : Int) : Int := IntKind.u64.wrap (x + x / 4294967296)

theorem and_nat (a b : Nat) (ha : a < 18446744073709551616) (hb : b < 18446744073709551616) : bits .and .u64 (a : Int) (b : Int) = ((a &&& b : Nat) : Int) := u64_and_nat a b ha hb
theorem m85 : laneMask 85 8 = 6148914691236517205 := by decide
theorem m51 : laneMask 51 8 = 3689348814741910323 := by decide
theorem m15 : laneMask 15 8 = 1085102592571150095 := by decide
theorem o1_val (x : Nat) (h : x < 18446744073709551616) (hl : lanes f1 8 x < 18446744073709551616) : o1 (x : Int) = ((lanes f1 8 x : Nat) : Int) := by
  unfold o1
  have e : (x : Int) / 2 = ((x / 2 : Nat) : Int) := by omega
  have a := and_nat (x / 2) 6148914691236517205 (by omega) (by omega)
  have b := and_nat x 6148914691236517205 h (by omega)
  have s := step1 8 x
  rw [m85] at s
  have c : ((6148914691236517205 : Nat) : Int) = 6148914691236517205 := by omega
  rw [c] at a b
  rw [e, a, b, wrap_u64]
  rw [← s] at hl ⊢
  omega
theorem o2_val (x : Nat) (h : x < 18446744073709551616) (hl : lanes f2 8 x < 18446744073709551616) : o2 (x : Int) = ((lanes f2 8 x : Nat) : Int) := by
  unfold o2
  have e : (x : Int) / 4 = ((x / 4 : Nat) : Int) := by omega
  have a := and_nat (x / 4) 3689348814741910323 (by omega) (by omega)
  have b := and_nat x 3689348814741910323 h (by omega)
  have s := step2 8 x
  rw [m51] at s
  have c : ((3689348814741910323 : Nat) : Int) = 3689348814741910323 := by omega
  rw [c] at a b
  rw [e, a, b, wrap_u64]
  rw [← s] at hl ⊢
  omega
theorem lanes_lt (f : Nat → Nat) (hf : ∀ b, b < 256 → f b < 256) (k x : Nat) : lanes f k x < 256 ^ k := by
  induction k generalizing x with
  | zero => simp [lanes]
  | succ k ih =>
    have := ih (x / 256)
    have h := hf (x % 256) (Nat.mod_lt _ (by decide))
    simp only [lanes, Nat.pow_succ]; omega
theorem lanes_lt8 (f : Nat → Nat) (hf : ∀ b, b < 256 → f b < 256) (x : Nat) : lanes f 8 x < 18446744073709551616 := by
  have := lanes_lt f hf 8 x
  have e : 256 ^ 8 = 18446744073709551616 := by decide
  rw [e] at this; exact this
theorem lanes_le (f : Nat → Nat) (B : Nat) (hf : ∀ b, b < 256 → f b ≤ B) (x : Nat) : lanes f 8 x ≤ B * 72340172838076673 := by
  have g : ∀ k y, lanes f k y ≤ B * laneMask 1 k := by
    intro k
    induction k with
    | zero => intro y; simp [lanes]
    | succ k ih =>
      intro y
      have h1 := ih (y / 256)
      have h2 := hf (y % 256) (Nat.mod_lt _ (by decide))
      simp only [lanes, laneMask, Nat.mul_add, Nat.mul_one]
      rw [Nat.mul_left_comm]; omega
  have e : laneMask 1 8 = 72340172838076673 := by decide
  rw [← e]; exact g 8 x
theorem o3_val (z : Nat) : o3 ((lanes f2 8 z : Nat) : Int) = ((lanes (fun b => f3 (f2 b)) 8 z : Nat) : Int) := by
  have s := step3 8 z
  have hb := lanes_le f2 102 (fun b h => (f2_lt b h).1) z
  rw [← s, m15]
  unfold o3
  generalize lanes f2 8 z = y at *
  have e : (y : Int) / 16 + (y : Int) = ((y / 16 + y : Nat) : Int) := by omega
  have ew : IntKind.u64.wrap ((y / 16 + y : Nat) : Int) = ((y / 16 + y : Nat) : Int) := by rw [wrap_u64]; omega
  have a := and_nat (y / 16 + y) 1085102592571150095 (by omega) (by omega)
  have c : ((1085102592571150095 : Nat) : Int) = 1085102592571150095 := by omega
  rw [c] at a
  rw [e, ew, a]
theorem and127 (a : Nat) (h : a < 9223372036854775808) : bits .and .i64 (a : Int) 127 = ((a % 128 : Nat) : Int) := by
  have h1 : (BitVec.ofInt 64 (a : Int)).toNat = a := by
    rw [BitVec.ofInt_natCast, BitVec.toNat_ofNat]; exact Nat.mod_eq_of_lt (by omega)
  have h2 : (BitVec.ofInt 64 (127 : Int)).toNat = 127 := by decide
  show IntKind.i64.wrap ((BitVec.ofInt 64 (a : Int) &&& BitVec.ofInt 64 127).toNat : Int) = _
  have e : a &&& 127 = a % 128 := Nat.and_two_pow_sub_one_eq_mod a 7
  rw [BitVec.toNat_and, h1, h2, e]
  exact IntWalk.i64_in _ (by omega)
theorem count_val (x : Int) (h0 : 0 ≤ x) (h : x < 18446744073709551616) : bits .and .i64 (wrap64 (o6 (o5 (o4 (o3 (o2 (o1 x))))))) 127 = ((pop 64 x.toNat : Nat) : Int) := by
  obtain ⟨X, rfl⟩ := Int.eq_ofNat_of_zero_le h0
  rw [Int.toNat_natCast, o1_val X (by omega) (lanes_lt8 f1 f1_lt X), o2_val _ (lanes_lt8 f1 f1_lt X) (lanes_lt8 f2 (fun b hb => by have := f2_lt b hb; omega) _), o3_val, lanes_comp f1 (fun b => f3 (f2 b)) f1_lt, lanes_congr _ (pop 8) f123]
  obtain ⟨s1, s2⟩ := step456 X
  rw [← s1]
  unfold o4 o5 o6
  generalize lanes (pop 8) 8 X = R at *
  clear s1
  have e4 : IntKind.u64.wrap ((R : Int) + (R : Int) / 256) = ((R + R / 256 : Nat) : Int) := by rw [wrap_u64]; omega
  rw [e4]
  have b4 : R + R / 256 ≤ 600000000000000000 := by omega
  generalize R + R / 256 = S at *
  have e5 : IntKind.u64.wrap ((S : Int) + (S : Int) / 65536) = ((S + S / 65536 : Nat) : Int) := by rw [wrap_u64]; omega
  rw [e5]
  have b5 : S + S / 65536 ≤ 700000000000000000 := by omega
  generalize S + S / 65536 = T at *
  have e6 : IntKind.u64.wrap ((T : Int) + (T : Int) / 4294967296) = ((T + T / 4294967296 : Nat) : Int) := by rw [wrap_u64]; omega
  rw [e6]
  have e7 : wrap64 ((T + T / 4294967296 : Nat) : Int) = ((T + T / 4294967296 : Nat) : Int) := IntWalk.wrap64_in _ (by omega)
  rw [e7, and127 _ (by omega)]

set_option maxHeartbeats 400000 in
theorem count_any (x : Int) (w : World) (h0 : 0 ≤ x) (h : x < 18446744073709551616) :
    Calls Try.prog 29 #[.int .u64 x] w fun e w' => e = .returned (.int .i64 ((pop 64 x.toNat : Nat) : Int)) ∧ w = w' := by
  go_enter Try.func29, Try.ntmps29
  go_wp2
  go_ret
  exact ⟨ret1 (count_val x h0 h), rfl⟩

/-! ### the law -/
theorem rot_back {b n : Int} (h1 : 1 ≤ n) : rot (n - b.tmod n) n = if rot b n = 0 then 0 else n - rot b n := by
  obtain ⟨t1, t2⟩ := tmod_bd (b := b) h1
  have e : rot b n = if b.tmod n < 0 then b.tmod n + n else b.tmod n := rfl
  have e2 : rot (n - b.tmod n) n = if (n - b.tmod n).tmod n < 0 then (n - b.tmod n).tmod n + n else (n - b.tmod n).tmod n := rfl
  rw [e, e2]
  generalize b.tmod n = t at *
  have e3 : (n - t).tmod n = if t = 0 then 0 else if 0 < t then n - t else -t := by
    rw [Int.tmod_eq_emod_of_nonneg (by omega)]
    by_cases h : t = 0
    · rw [if_pos h, h, Int.sub_zero, Int.emod_self]
    · rw [if_neg h]
      by_cases g : 0 < t
      · rw [if_pos g, Int.emod_eq_of_lt (by omega) (by omega)]
      · rw [if_neg g, show n - t = -t + n by omega, Int.add_emod_right, Int.emod_eq_of_lt (by omega) (by omega)]
  rw [e3]
  by_cases h : t = 0
  · simp [h]
  · by_cases g : 0 < t
    · simp [h, show ¬ t < 0 by omega, show ¬ n - t < 0 by omega, g]
    · simp [h, g, show t < 0 by omega, show ¬ (t + n = 0) by omega]; omega
theorem rot_self {n : Int} : rot n n = 0 := by simp [rot, Int.tmod_self]
theorem back_val {v n r : Int} (b1 : 0 ≤ v) (hv : v < powI n) (h1 : 1 ≤ n) (r0 : 0 ≤ r) (r1 : r < n) : turnI (turnI v n r) n (if r = 0 then 0 else n - r) = v := by
  have hv' := lt_pow b1 hv
  unfold turnI
  rw [Int.toNat_natCast]
  by_cases h : r = 0
  · rw [if_pos h, h, show (0 : Int).toNat = 0 by rfl, turnN_zero, turnN_zero]; omega
  · rw [if_neg h, show (n - r).toNat = n.toNat - r.toNat by omega, turn_back hv' (by omega)]; omega
theorem self_val {v n : Int} (b1 : 0 ≤ v) : turnI v n (rot n n) = v := by
  rw [rot_self]; unfold turnI
  rw [show (0 : Int).toNat = 0 by rfl, turnN_zero]; omega
theorem pop_val {v n r : Int} (b1 : 0 ≤ v) (hv : v < powI n) (h2 : n ≤ 64) (r1 : r ≤ n) : pop 64 (turnI v n r).toNat = pop 64 v.toNat := by
  have hv' := lt_pow b1 hv
  have ht := turnN_lt hv' (show r.toNat ≤ n.toNat by omega)
  unfold turnI
  rw [Int.toNat_natCast, pop_more ht (by omega), pop_more hv' (by omega), pop_turn hv' (by omega)]

set_option maxHeartbeats 400000 in
theorem walk_no (v n b e0 : Int) (w : World) (he : e0 = 10 ∨ e0 = 7)
    (T : ∀ w, Calls Try.prog 21 #[.int .u64 v, .int .i64 n, .int .i64 b] w fun e w' => e = .returned (.tuple #[.int .u64 0, .int .i64 e0]) ∧ w = w') :
    Calls Try.prog 8 #[.int .u64 v, .int .i64 n, .int .i64 b] w fun e w' => e = .returned (.bool true) ∧ Below w.heap.size w w' := by
  have T' := Lib.hid T
  clear T
  rcases he with rfl | rfl
  all_goals
    go_enter Try.func8, Try.ntmps8
    go_wp2_with (first | (go_at_call 9; refine (live_any _).mono ?_; rintro e w1 ⟨rfl, hb1⟩) | (go_at_call 21; refine (T'.out _).mono ?_; rintro e w2 ⟨rfl, rfl⟩))
    go_ret
    exact ⟨rfl, hb1⟩

set_option maxHeartbeats 400000 in
theorem walk_yes (v n b x c : Int) (w : World) (h1 : 1 ≤ n) (h2 : n ≤ 64)
    (T : ∀ w, Calls Try.prog 21 #[.int .u64 v, .int .i64 n, .int .i64 b] w fun e w' => e = .returned (.tuple #[.int .u64 x, .int .i64 0]) ∧ Below w.heap.size w w')
    (B : ∀ w, Calls Try.prog 21 #[.int .u64 x, .int .i64 n, .int .i64 (n - b.tmod n)] w fun e w' => e = .returned (.tuple #[.int .u64 v, .int .i64 0]) ∧ Below w.heap.size w w')
    (S : ∀ w, Calls Try.prog 21 #[.int .u64 v, .int .i64 n, .int .i64 n] w fun e w' => e = .returned (.tuple #[.int .u64 v, .int .i64 0]) ∧ Below w.heap.size w w')
    (CX : ∀ w, Calls Try.prog 29 #[.int .u64 x] w fun e w' => e = .returned (.int .i64 c) ∧ w = w')
    (CV : ∀ w, Calls Try.prog 29 #[.int .u64 v] w fun e w' => e = .returned (.int .i64 c) ∧ w = w') :
    Calls Try.prog 8 #[.int .u64 v, .int .i64 n, .int .i64 b] w fun e w' => e = .returned (.bool true) ∧ Below w.heap.size w w' := by
  obtain ⟨t1, t2⟩ := tmod_bd (b := b) h1
  have T' := Lib.hid T
  have B' := Lib.hid B
  have S' := Lib.hid S
  have X' := Lib.hid CX
  have V' := Lib.hid CV
  clear T B S CX CV
  go_enter Try.func8, Try.ntmps8
  go_wp2_with (first | (go_at_call 9; refine (live_any _).mono ?_; rintro e w1 ⟨rfl, hb1⟩))
  refine (T'.out _).mono ?_; rintro e w2 ⟨rfl, hb2⟩
  go_wp2_with fail
  refine (B'.out _).mono ?_; rintro e w3 ⟨rfl, hb3⟩
  go_wp2_with fail
  refine (S'.out _).mono ?_; rintro e w4 ⟨rfl, hb4⟩
  go_wp2_with fail
  refine (X'.out _).mono ?_; rintro e w5 ⟨rfl, rfl⟩
  go_wp2_with fail
  refine (V'.out _).mono ?_; rintro e w6 ⟨rfl, rfl⟩
  go_wp2_with fail
  go_ret
  exact ⟨ret1b' (by simp), Below.thn (Below.thn (Below.thn hb1 hb1.size hb2) (by have := hb1.size; have := hb2.size; omega) hb3) (by have := hb1.size; have := hb2.size; have := hb3.size; omega) hb4⟩

theorem walk (v n b : Int) (w : World) (wv : (Lit.int .u64 v).wf = true) :
    Calls Try.prog 8 #[.int .u64 v, .int .i64 n, .int .i64 b] w fun e w' => e = .returned (.bool true) ∧ Below w.heap.size w w' := by
  obtain ⟨b1, b2⟩ := bounds_u64 wv
  by_cases h : n < 1 ∨ 64 < n
  · exact walk_no v n b 10 w (.inl rfl) (fun w => turn_no v n b w h)
  · by_cases hv : v < powI n
    · obtain ⟨r0, r1⟩ := rot_bd (b := b) (n := n) (by omega)
      obtain ⟨x0, x1, x2⟩ := turnI_bd b1 hv (by omega) (show rot b n ≤ n by omega)
      refine walk_yes v n b (turnI v n (rot b n)) ((pop 64 v.toNat : Nat) : Int) w (by omega) (by omega) (fun w => turn_yes v n b w b1 (by omega) (by omega) (by omega) hv) (fun w => ?_) (fun w => ?_) (fun w => ?_) (fun w => count_any v w b1 (by omega))
      · have := turn_yes (turnI v n (rot b n)) n (n - b.tmod n) w x0 x2 (by omega) (by omega) x1
        rw [rot_back (by omega), back_val b1 hv (by omega) r0 r1] at this; exact this
      · have := turn_yes v n n w b1 (by omega) (by omega) (by omega) hv
        rw [self_val b1] at this; exact this
      · have := count_any (turnI v n (rot b n)) w x0 x2
        rw [pop_val b1 hv (by omega) (by omega)] at this; exact this
    · exact walk_no v n b 7 w (.inr rfl) (fun w => turn_over v n b w b1 (by omega) (by omega) (by omega) hv)

theorem own : ownKnob Try.prog.godebug = none := by kernel_rfl
theorem laidOut : laidOutB Try.prog = true := by kernel_rfl
set_option maxRecDepth 100000 in
theorem lifted (os : Os) (started : os.Started) (H : Type) (enc : TypeId × Value → H) :
    ReturnsInHanded {} Try.checked os 8 .any (Rows.bitsTurnsSpec.pre6 enc Try.prog Try.f8 Rows.bitsTurnsRow.domain false) (Rows.bitsTurnsSpec.post enc Try.prog Try.f8 false true false false) := by
  refine returnsInHanded_of_change (C := Try.checked) own started (by kernel_rfl) Try.func8
    (ChangeSpec.witness6 (enc := enc) (C := Try.checked) false ⟨#[], #[.int .u64 0, .int .i64 0, .int .i64 0], []⟩ 8 (by kernel_rfl) (by kernel_rfl) (by kernel_rfl) (by kernel_rfl)) ?_
  intro W base args ds gs before hval0 hW hcnd _
  have hval : ∀ (j : Nat) t v, Try.f8.params[j]? = some t → args[j]? = some v → Value.okWide Try.prog W .any base t v := hval0
  have hW' := hW
  obtain ⟨p, q, hA0, hV, rfl, hfz, hnd⟩ := hW
  have hA : DataW.TrodAll enc Try.prog W 0 (fun _ => true) true Try.f8.params.toList args.toList ds p := hA0
  rw [Try.params8] at hA hval
  obtain ⟨v0, vs0, d0, ds0, p0, q0, hargs, rfl, rfl, h0, r0⟩ := trodAll_cons hA
  obtain ⟨v1, vs1, d1, ds1, p1, q1, rfl, rfl, rfl, h1, r1⟩ := trodAll_cons r0
  obtain ⟨v2, vs2, d2, ds2, p2, q2, rfl, rfl, rfl, h2, r2⟩ := trodAll_cons r1
  obtain ⟨rfl, rfl, rfl⟩ := trodAll_nil r2
  obtain rfl : args = #[v0, v1, v2] := by cases args; simp_all
  obtain ⟨rfl, rfl⟩ := trodVars_none hV
  have k0 := h0
  have lt0 : ∀ x ∈ p0, x.block < W.heap.size := by obtain ⟨m, hm⟩ := k0; exact DataW.trod_lt m _ _ _ hm
  have k1 := h1
  have lt1 : ∀ x ∈ p1, x.block < W.heap.size := by obtain ⟨m, hm⟩ := k1; exact DataW.trod_lt m _ _ _ hm
  have k2 := h2
  have lt2 : ∀ x ∈ p2, x.block < W.heap.size := by obtain ⟨m, hm⟩ := k2; exact DataW.trod_lt m _ _ _ hm
  obtain ⟨a0, rfl, _, _, w0⟩ := open_int Try.underlying38 (hval 0 38 v0 rfl rfl) h0
  obtain ⟨a1, rfl, _, _, w1⟩ := open_int Try.underlying3 (hval 1 3 v1 rfl rfl) h1
  obtain ⟨a2, rfl, _, _, w2⟩ := open_int Try.underlying3 (hval 2 3 v2 rfl rfl) h2
  clear hA0 hval0
  refine (walk a0 a1 a2 W w0).mono fun e W' ⟨he, bel⟩ => ?_
  subst he
  exact ⟨_, rfl, _, _, _, [], _, [], hW', trodAll_mk1 (shut_bool Try.underlying4 _), (trodAll_cons_mk (Below.trod laidOut (by kernel_rfl) (of_decide_eq_true (by kernel_rfl)) k0 bel lt0) (trodAll_cons_mk (Below.trod laidOut (by kernel_rfl) (of_decide_eq_true (by kernel_rfl)) k1 bel lt1) (trodAll_cons_mk (Below.trod laidOut (by kernel_rfl) (of_decide_eq_true (by kernel_rfl)) k2 bel lt2) trodAll_mk0))), rfl, bel.frame _, fun h => by cases h⟩

theorem over : Rows.bitsTurnsRow.holds Try.pinned (OpenSpec.ofChange Rows.bitsTurnsSpec) :=
  OpenClaim.holds_of_wide 8 Try.f8 rfl rfl rfl rfl rfl rfl rfl ⟨rfl, rfl, rfl, rfl, rfl⟩ rfl rfl rfl rfl rfl (by kernel_rfl) Try.func8 (by kernel_rfl)
    (of_decide_eq_true (by kernel_rfl)) (by unfold Func.isWrapper; first | (rw [if_pos (by decide +kernel)]; kernel_rfl) | (rw [if_neg (by decide +kernel)]; exact ⟨rfl, rfl⟩))
    (fun os started H enc _ => lifted os started H enc)

/-- the given statement -/
theorem proved : Rows.BitsTurnsSaid := over
end Go.Proofs.Ytklibabeojpkhaa.bitsTurns
