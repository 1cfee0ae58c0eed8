/-
  For every word, every field and every number BitsBack returns true: what is put is got, all other bits are what they were, and a word's bytes are the word's. No conditions.
-/
import Derived.Test.YtklibabeojpkhaaBitsD
import Derived.Test.YtklibabeojpkhaaBitsW
import Derived.OpenShut
import Derived.Lib.SmallJoins
namespace Go.Proofs.Ytklibabeojpkhaa.bitsBack
open Go.ChangeShapes Go.WideShapes Go.ChangeAt Go.RowKit BM
set_option linter.unusedVariables false

theorem xor_same {P X k : Nat} (hP : P < 4294967296) (hX : X < 4294967296) (h : P.testBit k = X.testBit k) : bits .and .u32 (bits .xor .u32 (P : Int) (X : Int) / 2 ^ k) 1 = 0 := by
  have hx : P ^^^ X < 4294967296 := by
    have e : 2 ^ 32 = 4294967296 := by decide
    have := Nat.xor_lt_two_pow (x := P) (y := X) (n := 32) (by omega) (by omega)
    omega
  have hd : (P ^^^ X) / 2 ^ k < 4294967296 := Nat.lt_of_le_of_lt (Nat.div_le_self _ _) hx
  have c : (((P ^^^ X : Nat) : Int) / 2 ^ k) = (((P ^^^ X) / 2 ^ k : Nat) : Int) := by simp
  rw [u32_xor_nat P X hP hX, c]
  have := u32_and_nat ((P ^^^ X) / 2 ^ k) 1 hd (by omega)
  rw [show ((1 : Nat) : Int) = 1 by rfl] at this
  rw [this, Nat.and_one_is_mod]
  have hb : (P ^^^ X).testBit k = false := by rw [Nat.testBit_xor, h, Bool.xor_self]
  rw [Nat.testBit_eq_decide_div_mod_eq] at hb
  simp at hb
  omega
theorem outside {x l n v : Int} {k : Nat} (b1 : 0 ≤ x) (b2 : x < 4294967296) (c1 : 0 ≤ v) (hv : v < powI n) (h1 : 0 ≤ l) (h3 : 1 ≤ n) (h5 : l + n ≤ 32) (hk : (k : Int) < l ∨ l + n ≤ (k : Int)) :
    (bits .and .u32 (bits .xor .u32 (putI x l n v) x / 2 ^ k) 1 == 1) = false := by
  have hv' : v.toNat < 2 ^ n.toNat := by have : ((2 ^ n.toNat : Nat) : Int) = powI n := rfl; omega
  have hp := putN_bd (x := x.toNat) (l := l.toNat) (by omega) hv' (show l.toNat + n.toNat ≤ 32 by omega)
  have hb := putN_bit x.toNat l.toNat n.toNat v.toNat hv' k
  rw [if_neg (by omega)] at hb
  have := xor_same hp (show x.toNat < 4294967296 by omega) hb
  have e : ((x.toNat : Nat) : Int) = x := by omega
  rw [e] at this
  have e2 : putI x l n v = ((putN x.toNat l.toNat n.toNat v.toNat : Nat) : Int) := rfl
  rw [e2, this]; rfl
theorem get_put_val {x l n v : Int} (c1 : 0 ≤ v) (hv : v < powI n) : getI (putI x l n v) l n = v := by
  have hv' : v.toNat < 2 ^ n.toNat := by have : ((2 ^ n.toNat : Nat) : Int) = powI n := rfl; omega
  unfold getI putI
  rw [Int.toNat_natCast, get_put _ _ _ _ hv']; omega
theorem ret1b' {a : Bool} (h : a = true) : Ending.returned (.bool a) = .returned (.bool true) := by rw [h]

set_option maxHeartbeats 400000 in
theorem walk_no (x l n v e0 : Int) (w : World) (b1 : 0 ≤ x) (b2 : x < 4294967296) (he : e0 = 10 ∨ e0 = 7)
    (P : ∀ w, Calls Try.prog 12 #[.int .u32 x, .agg #[.int .i64 l, .int .i64 n], .int .u32 v] w fun e w' => e = .returned (.tuple #[.int .u32 0, .int .i64 e0]) ∧ Below w.heap.size w w') :
    Calls Try.prog 6 #[.int .u32 x, .agg #[.int .i64 l, .int .i64 n], .int .u32 v] w fun e w' => e = .returned (.bool true) ∧ Below w.heap.size w w' := by
  have P' := Lib.hid P
  have W := Lib.hid (word_bytes x)
  clear P
  have BB := Lib.hid (And.intro b1 b2)
  clear b1 b2
  rcases he with rfl | rfl
  all_goals
    go_enter Try.func6, Try.ntmps6
    go_wp2_with (first | (go_at_call 9; refine (live_any _).mono ?_; rintro e w1 ⟨rfl, hb1⟩; obtain ⟨⟨k0, k1⟩, kz, kB⟩ := two_start0 hb1; clear hb1))
    refine (bytes_any x _ BB.out.1 BB.out.2).mono ?_; rintro e w2 ⟨rfl, rfl⟩
    go_wp2_with fail
    have WA := word_any (x % 256) (x / 256 % 256) (x / 65536 % 256) (x / 16777216) w1.heap.size 0 4 (w1.alloc (.cells #[.int .u8 (x % 256), .int .u8 (x / 256 % 256), .int .u8 (x / 65536 % 256), .int .u8 (x / 16777216)] 55)) (by omega) (by omega) (by omega) (by omega) (by omega) (by omega) (by have := BB.out; omega) (by have := BB.out; omega) (by simp [go_sem]) (by simp [go_sem]) (by simp [go_sem]) (by simp [go_sem])
    rw [W.out] at WA
    refine WA.mono ?_; rintro e w3 ⟨rfl, rfl⟩
    clear WA
    go_wp2_with fail
    refine (P'.out _).mono ?_; rintro e w4 ⟨rfl, hb4⟩
    go_wp2_with fail
    go_ret
    exact ⟨ret1b' (by simp), Below.thn (kB.alloc (by omega) _) (by simp; omega) hb4⟩

set_option maxHeartbeats 400000 in
theorem walk_yes (x l n v : Int) (w : World) (b1 : 0 ≤ x) (b2 : x < 4294967296) (c1 : 0 ≤ v) (c2 : v < 4294967296) (h1 : 0 ≤ l) (h2 : l < 32) (h3 : 1 ≤ n) (h4 : n ≤ 32) (h5 : l + n ≤ 32) (hv : v < powI n) :
    Calls Try.prog 6 #[.int .u32 x, .agg #[.int .i64 l, .int .i64 n], .int .u32 v] w fun e w' => e = .returned (.bool true) ∧ Below w.heap.size w w' := by
  have W := Lib.hid (word_bytes x)
  have G := Lib.hid (get_put_val (x := x) (l := l) c1 hv)
  have PB := Lib.hid (putI_bd b1 b2 c1 hv h1 h3 h5)
  have BB := Lib.hid (And.intro b1 (And.intro b2 (And.intro c1 c2)))
  have VV := Lib.hid hv
  clear b1 b2 c1 c2 hv
  go_enter Try.func6, Try.ntmps6
  go_wp2_with (first | (go_at_call 9; refine (live_any _).mono ?_; rintro e w1 ⟨rfl, hb1⟩; obtain ⟨⟨k0, k1⟩, kz, kB⟩ := two_start0 hb1; clear hb1))
  refine (bytes_any x _ BB.out.1 BB.out.2.1).mono ?_; rintro e w2 ⟨rfl, rfl⟩
  go_wp2_with fail
  have WA := word_any (x % 256) (x / 256 % 256) (x / 65536 % 256) (x / 16777216) w1.heap.size 0 4 (w1.alloc (.cells #[.int .u8 (x % 256), .int .u8 (x / 256 % 256), .int .u8 (x / 65536 % 256), .int .u8 (x / 16777216)] 55)) (by omega) (by omega) (by omega) (by omega) (by omega) (by omega) (by have := BB.out; omega) (by have := BB.out; omega) (by simp [go_sem]) (by simp [go_sem]) (by simp [go_sem]) (by simp [go_sem])
  rw [W.out] at WA
  refine WA.mono ?_; rintro e w3 ⟨rfl, rfl⟩
  clear WA
  go_wp2_with fail
  refine (put_yes x l n v _ BB.out.1 BB.out.2.1 BB.out.2.2.1 BB.out.2.2.2 h1 h2 h3 h4 h5 VV.out).mono ?_; rintro e w4 ⟨rfl, hb4⟩
  obtain ⟨⟨k2, k3⟩, kz4, kB4⟩ := two_keep hb4 (two_keep ((Below.refl _ _).alloc (Nat.le_refl _) _) ⟨⟨k0, k1⟩, kz, kB⟩)
  clear hb4
  go_wp2_with fail
  refine (get_yes (putI x l n v) l n _ PB.out.1 PB.out.2 h1 h2 h3 h4 h5).mono ?_; rintro e w5 ⟨rfl, hb5⟩
  obtain ⟨⟨k4, k5⟩, kz5, kB5⟩ := two_keep hb5 ⟨⟨k2, k3⟩, kz4, kB4⟩
  rw [G.out]
  clear hb5 k0 k1 kz kB k2 k3 kz4 kB4
  go_wp2_with fail
  go_loop [51] (fun i => ∃ k : Nat, k ≤ 32 ∧ i = .int .i64 k) (fun i => 32 - (intOf i).toNat)
  case atStart => exact ⟨0, by omega, rfl⟩
  case round =>
    obtain ⟨k, hk, rfl⟩ := hrel
    by_cases hlt : k < 32
    · by_cases hl : (k : Int) < l
      · have ho := outside (k := k) BB.out.1 BB.out.2.1 BB.out.2.2.1 VV.out h1 h3 h5 (.inl hl)
        go_wp2_with fail
        go_round
        case rel => exact ⟨k + 1, by omega, by go_num⟩
        case measure => simp [intOf]; omega
      · have hl' : l ≤ (k : Int) := by omega
        clear hl
        by_cases hn : (k : Int) - l < n
        · go_wp2_with fail
          go_round
          case rel => exact ⟨k + 1, by omega, by go_num⟩
          case measure => simp [intOf]; omega
        · have ho := outside (k := k) BB.out.1 BB.out.2.1 BB.out.2.2.1 VV.out h1 h3 h5 (.inr (by omega))
          have hn' : n ≤ (k : Int) - l := by omega
          clear hn
          go_wp2_with fail
          go_round
          case rel => exact ⟨k + 1, by omega, by go_num⟩
          case measure => simp [intOf]; omega
    · go_wp2_with fail
      go_ret
      exact ⟨rfl, kB5⟩

theorem walk (x l n v : Int) (w : World) (wx : (Lit.int .u32 x).wf = true) (wv : (Lit.int .u32 v).wf = true) :
    Calls Try.prog 6 #[.int .u32 x, .agg #[.int .i64 l, .int .i64 n], .int .u32 v] w fun e w' => e = .returned (.bool true) ∧ Below w.heap.size w w' := by
  obtain ⟨b1, b2⟩ := bounds_u32 wx
  obtain ⟨c1, c2⟩ := bounds_u32 wv
  by_cases h : 0 ≤ l ∧ l < 32 ∧ 1 ≤ n ∧ n ≤ 32 ∧ l + n ≤ 32
  · obtain ⟨h1, h2, h3, h4, h5⟩ := h
    by_cases hv : v < powI n
    · exact walk_yes x l n v w b1 (by omega) c1 (by omega) h1 h2 h3 h4 h5 hv
    · exact walk_no x l n v 7 w b1 (by omega) (.inr rfl) (fun w => put_over x l n v w c1 (by omega) h1 h2 h3 h4 h5 hv)
  · exact walk_no x l n v 10 w b1 (by omega) (.inl rfl) (fun w => put_no x l n v w h)

theorem own : ownKnob Try.prog.godebug = none := by kernel_rfl
theorem laidOut : laidOutB Try.prog = true := by kernel_rfl
set_option maxRecDepth 100000 in
theorem lifted (os : Os) (started : os.Started) (H : Type) (enc : TypeId × Value → H) :
    ReturnsInHanded {} Try.checked os 6 .any (Rows.bitsBackSpec.pre6 enc Try.prog Try.f6 Rows.bitsBackRow.domain false) (Rows.bitsBackSpec.post enc Try.prog Try.f6 false true false false) := by
  refine returnsInHanded_of_change (C := Try.checked) own started (by kernel_rfl) Try.func6
    (ChangeSpec.witness6 (enc := enc) (C := Try.checked) false ⟨#[], #[.int .u32 0, .agg #[.int .i64 0, .int .i64 0], .int .u32 0], []⟩ 8 (by kernel_rfl) (by kernel_rfl) (by kernel_rfl) (by kernel_rfl)) ?_
  intro W base args ds gs before hval0 hW hcnd _
  have hval : ∀ (j : Nat) t v, Try.f6.params[j]? = some t → args[j]? = some v → Value.okWide Try.prog W .any base t v := hval0
  have hW' := hW
  obtain ⟨p, q, hA0, hV, rfl, hfz, hnd⟩ := hW
  have hA : DataW.TrodAll enc Try.prog W 0 (fun _ => true) true Try.f6.params.toList args.toList ds p := hA0
  rw [Try.params6] at hA hval
  obtain ⟨v0, vs0, d0, ds0, p0, q0, hargs, rfl, rfl, h0, r0⟩ := trodAll_cons hA
  obtain ⟨v1, vs1, d1, ds1, p1, q1, rfl, rfl, rfl, h1, r1⟩ := trodAll_cons r0
  obtain ⟨v2, vs2, d2, ds2, p2, q2, rfl, rfl, rfl, h2, r2⟩ := trodAll_cons r1
  obtain ⟨rfl, rfl, rfl⟩ := trodAll_nil r2
  obtain rfl : args = #[v0, v1, v2] := by cases args; simp_all
  obtain ⟨rfl, rfl⟩ := trodVars_none hV
  have k0 := h0
  have lt0 : ∀ x ∈ p0, x.block < W.heap.size := by obtain ⟨m, hm⟩ := k0; exact DataW.trod_lt m _ _ _ hm
  have k1 := h1
  have lt1 : ∀ x ∈ p1, x.block < W.heap.size := by obtain ⟨m, hm⟩ := k1; exact DataW.trod_lt m _ _ _ hm
  have k2 := h2
  have lt2 : ∀ x ∈ p2, x.block < W.heap.size := by obtain ⟨m, hm⟩ := k2; exact DataW.trod_lt m _ _ _ hm
  obtain ⟨a0, rfl, _, _, w0⟩ := open_int Try.underlying22 (hval 0 22 v0 rfl rfl) h0
  obtain ⟨c10, c11, y10, y11, m1, rfl, _, _, hy10, hy11⟩ := Go.Joins.open_agg2 Try.underlying24 (by kernel_rfl) (by kernel_rfl) (hval 1 24 v1 rfl rfl) h1
  obtain ⟨a10, e10, _, w10⟩ := DataW.trod_int Try.underlying3 hy10
  simp only [List.cons.injEq, and_true] at e10
  subst e10
  obtain ⟨a11, e11, _, w11⟩ := DataW.trod_int Try.underlying3 hy11
  simp only [List.cons.injEq, and_true] at e11
  subst e11
  obtain ⟨a2, rfl, _, _, w2⟩ := open_int Try.underlying22 (hval 2 22 v2 rfl rfl) h2
  clear hA0 hval0
  refine (walk a0 a10 a11 a2 W w0 w2).mono fun e W' ⟨he, bel⟩ => ?_
  subst he
  exact ⟨_, rfl, _, _, _, [], _, [], hW', trodAll_mk1 (shut_bool Try.underlying4 _), (trodAll_cons_mk (Below.trod laidOut (by kernel_rfl) (of_decide_eq_true (by kernel_rfl)) k0 bel lt0) (trodAll_cons_mk (Below.trod laidOut (by kernel_rfl) (of_decide_eq_true (by kernel_rfl)) k1 bel lt1) (trodAll_cons_mk (Below.trod laidOut (by kernel_rfl) (of_decide_eq_true (by kernel_rfl)) k2 bel lt2) trodAll_mk0))), rfl, bel.frame _, fun h => by cases h⟩

theorem over : Rows.bitsBackRow.holds Try.pinned (OpenSpec.ofChange Rows.bitsBackSpec) :=
  OpenClaim.holds_of_wide 6 Try.f6 rfl rfl rfl rfl rfl rfl rfl ⟨rfl, rfl, rfl, rfl, rfl⟩ rfl rfl rfl rfl rfl (by kernel_rfl) Try.func6 (by kernel_rfl)
    (of_decide_eq_true (by kernel_rfl)) (by unfold Func.isWrapper; first | (rw [if_pos (by decide +kernel)]; kernel_rfl) | (rw [if_neg (by decide +kernel)]; exact ⟨rfl, rfl⟩))
    (fun os started H enc _ => lifted os started H enc)

/-- the given statement -/
theorem proved : Rows.BitsBackSaid := over
end Go.Proofs.Ytklibabeojpkhaa.bitsBack
