/-
  The document's takes, Check: what each call returns. Conditions: texts that are no longer than any.
-/
import Derived.Test.YtdkflmpdelfgoaaDoorExprH
import Derived.Test.YtdkflmpdelfgoaaDoorExprRefB
import Derived.Test.YtdkflmpdelfgoaaDoorExprD
namespace Go.Proofs.YtdkflmpdelfgoaaDoor
open Go.RowKit Go.Shelf
set_option linter.unusedVariables false
set_option linter.unusedSimpArgs false
attribute [local go_sem] Oper.semAt_some

def takesR (k : Int) : Int := if k = 1 ∨ k = 2 then 0 else if k = 3 ∨ k = 4 then 1 else if 5 ≤ k ∧ k ≤ 14 then 2 else -1
set_option maxRecDepth 100000 in
set_option maxHeartbeats 4000000 in
theorem rtakes_any (k : Int) (w : World) :
    Calls Tryd.prog 31 #[.int .i64 k] w fun e w' => e = .returned (.int .i64 (takesR k)) ∧ w = w' := by
  by_cases h1 : k = 1
  · subst h1
    rw [show takesR 1 = 0 from rfl]
    go_enter Tryd.func31, Tryd.ntmps31
    go_wp2_with fail
    go_ret
    exact ⟨rfl, rfl⟩
  by_cases h2 : k = 2
  · subst h2
    rw [show takesR 2 = 0 from rfl]
    go_enter Tryd.func31, Tryd.ntmps31
    go_wp2_with fail
    go_ret
    exact ⟨rfl, rfl⟩
  by_cases h3 : k = 3
  · subst h3
    rw [show takesR 3 = 1 from rfl]
    go_enter Tryd.func31, Tryd.ntmps31
    go_wp2_with fail
    go_ret
    exact ⟨rfl, rfl⟩
  by_cases h4 : k = 4
  · subst h4
    rw [show takesR 4 = 1 from rfl]
    go_enter Tryd.func31, Tryd.ntmps31
    go_wp2_with fail
    go_ret
    exact ⟨rfl, rfl⟩
  have a1 : (k == 1) = false := by rw [beq_eq_false_iff_ne]; exact h1
  have a2 : (k == 2) = false := by rw [beq_eq_false_iff_ne]; exact h2
  have a3 : (k == 3) = false := by rw [beq_eq_false_iff_ne]; exact h3
  have a4 : (k == 4) = false := by rw [beq_eq_false_iff_ne]; exact h4
  by_cases h5 : 5 ≤ k
  · by_cases h6 : k ≤ 14
    · rw [show takesR k = 2 by unfold takesR; rw [if_neg (by omega), if_neg (by omega), if_pos ⟨h5, h6⟩]]
      clear h1 h2 h3 h4
      go_enter Tryd.func31, Tryd.ntmps31
      go_wp2_with fail
      go_ret
      exact ⟨rfl, rfl⟩
    · rw [show takesR k = -1 by unfold takesR; rw [if_neg (by omega), if_neg (by omega), if_neg (by omega)]]
      clear h1 h2 h3 h4
      go_enter Tryd.func31, Tryd.ntmps31
      go_wp2_with fail
      go_ret
      exact ⟨rfl, rfl⟩
  · rw [show takesR k = -1 by unfold takesR; rw [if_neg (by omega), if_neg (by omega), if_neg (by omega)]]
    clear h1 h2 h3 h4
    go_enter Tryd.func31, Tryd.ntmps31
    go_wp2_with fail
    go_ret
    exact ⟨rfl, rfl⟩
set_option maxRecDepth 100000 in
set_option maxHeartbeats 16000000 in
theorem rcheck_any (v : Value) (T : List Tm) (w : World) (h : TriO tmF w v T) (hl : T.length ≤ 281474976710656) (hs : ∀ x ∈ T, x.s.size ≤ maxLen) :
    Calls Tryd.prog 15 #[v] w fun e w' => e = .returned (.int .i64 (checkT T)) ∧ w = w' := by
  have HT := Lib.hid h
  have HS := Lib.hid hs
  obtain ⟨A, c, rfl⟩ := tri_slice h
  clear h hs
  go_enter Tryd.func15, Tryd.ntmps15
  go_wp2_with fail
  go_loop [4, 3] (fun iv lv => ∃ k n : Nat, k ≤ T.length ∧ iv = .int .i64 (k : Int) ∧ lv = .int .i64 (n : Int) ∧ Hid (checkF 0 (T.take k) = some n)) (fun iv lv => T.length - (intOf iv).toNat)
  case atStart => exact ⟨0, 0, Nat.zero_le _, rfl, rfl, Lib.hid rfl⟩
  case round =>
    obtain ⟨k, n, hk, rfl, rfl, hst⟩ := hrel
    by_cases hlt : (k : Int) < (T.length : Int)
    · have hlt' : k < T.length := by omega
      obtain ⟨g, off, cap, x, hx, hv, x1, x2, x3⟩ := tri_at HT.out hlt'
      cases hv
      simp only [tmF] at x1 x2 x3
      have TK := Lib.hid (fun V => rtakes_any x.k V)
      have IS := Lib.hid (fun V => rIsSym_any x.s V (HS.out x (List.mem_of_getElem? hx)))
      have w9 : IntKind.i64.wrap ((k : Int) + 1) = ((k + 1 : Nat) : Int) := by rw [IntWalk.i64_in _ (by omega)]; omega
      have SN := Lib.hid (show checkF 0 (T.take (k + 1)) = if mayB x = true ∧ takesN x.k ≤ n then some (n + 1 - takesN x.k) else none by
        rw [List.take_add_one, hx]
        show checkF 0 (T.take k ++ [x]) = _
        rw [checkF_snoc, hst.out]; rfl)
      have hnk : n ≤ k := by
        have := checkF_le _ _ _ hst.out
        rw [List.length_take] at this; omega
      have R90 := Lib.hid (fun (hf : checkF 0 (T.take (k + 1)) = none) => show checkT T = 90 by
        unfold checkT
        have := checkF_none _ (T.drop (k + 1)) _ hf
        rw [List.take_append_drop] at this
        rw [this]; rfl)
      have hk0 : (0 : Int) ≤ (k : Int) := by omega
      obtain ⟨xk, xn, xs⟩ := x
      simp only at x1 x2 x3 TK IS SN
      clear hx hst hk
      by_cases h1 : xk = 1
      · subst h1
        rw [show takesR 1 = 0 from rfl] at TK
        by_cases h2 : xs = E0
        · subst h2
          have SN2 := Lib.hid (show checkF 0 (T.take (k + 1)) = some (n + 1) by rw [SN.out, if_pos ⟨rfl, Nat.zero_le _⟩]; rfl)
          have wn : IntKind.i64.wrap ((n : Int) + 1) = ((n + 1 : Nat) : Int) := by rw [IntWalk.i64_in _ (by omega)]; omega
          clear IS SN R90
          go_wp2_with fail
          refine (TK.out _).mono ?_
          rintro e w1 ⟨rfl, rfl⟩
          go_wp2_with fail
          go_round
          case rel => exact ⟨k + 1, n + 1, by omega, by first | rfl | rw [← w9], by first | rfl | (congr 1; omega) | (rw [← wn]), Lib.hid SN2.out⟩
          case measure => simp [intOf]; omega
        · have R := Lib.hid (R90.out (by rw [SN.out, if_neg]; intro hh; have := hh.1; unfold mayB at this; rw [if_pos rfl, decide_eq_false h2] at this; cases this))
          have h2' := lit_no (l := []) h2
          clear IS SN R90 w9
          go_wp2_with fail
          refine (TK.out _).mono ?_
          rintro e w1 ⟨rfl, rfl⟩
          go_wp2_with fail
          go_ret
          exact ⟨by rw [R.out]; rfl, rfl⟩
      · have a1 : (xk == 1) = false := by rw [beq_eq_false_iff_ne]; exact h1
        have b1 : (xk != 1) = true := by rw [bne, a1]; rfl
        by_cases h2 : xk = 2
        · subst h2
          rw [show takesR 2 = 0 from rfl] at TK
          have wn : IntKind.i64.wrap ((n : Int) + 1) = ((n + 1 : Nat) : Int) := by rw [IntWalk.i64_in _ (by omega)]; omega
          by_cases h3 : xn = 0
          · subst h3
            cases hsy : symB xs.data.toList with
            | true =>
              rw [hsy] at IS
              have SN2 := Lib.hid (show checkF 0 (T.take (k + 1)) = some (n + 1) by rw [SN.out, if_pos ⟨by unfold mayB; rw [if_neg (show ¬ ((2 : Int) = 1) by decide), if_pos rfl, hsy]; rfl, Nat.zero_le _⟩]; rfl)
              clear SN R90 hsy
              go_wp2_with fail
              refine (TK.out _).mono ?_
              rintro e w1 ⟨rfl, rfl⟩
              go_wp2_with fail
              refine (IS.out _).mono ?_
              rintro e w2 ⟨rfl, rfl⟩
              go_wp2_with fail
              go_round
              case rel => exact ⟨k + 1, n + 1, by omega, by first | rfl | rw [← w9], by first | rfl | (congr 1; omega) | (rw [← wn]), Lib.hid SN2.out⟩
              case measure => simp [intOf]; omega
            | false =>
              rw [hsy] at IS
              have R := Lib.hid (R90.out (by rw [SN.out, if_neg]; intro hh; have := hh.1; unfold mayB at this; rw [if_neg (show ¬ ((2 : Int) = 1) by decide), if_pos rfl, hsy] at this; simp at this))
              clear SN R90 hsy w9 wn
              go_wp2_with fail
              refine (TK.out _).mono ?_
              rintro e w1 ⟨rfl, rfl⟩
              go_wp2_with fail
              refine (IS.out _).mono ?_
              rintro e w2 ⟨rfl, rfl⟩
              go_wp2_with fail
              go_ret
              exact ⟨by rw [R.out]; rfl, rfl⟩
          · have R := Lib.hid (R90.out (by rw [SN.out, if_neg]; intro hh; have := hh.1; unfold mayB at this; rw [if_neg (show ¬ ((2 : Int) = 1) by decide), if_pos rfl, decide_eq_false h3] at this; simp at this))
            have h3' : (xn != 0) = true := by simp [h3]
            clear SN R90 w9 wn IS
            go_wp2_with fail
            refine (TK.out _).mono ?_
            rintro e w1 ⟨rfl, rfl⟩
            go_wp2_with fail
            go_ret
            exact ⟨by rw [R.out]; rfl, rfl⟩
        · have a2 : (xk == 2) = false := by rw [beq_eq_false_iff_ne]; exact h2
          have b2 : (xk != 2) = true := by rw [bne, a2]; rfl
          by_cases hr : 3 ≤ xk ∧ xk ≤ 14
          · obtain ⟨tk, htk⟩ : ∃ tk : Nat, takesR xk = (tk : Int) ∧ takesN xk = tk ∧ (tk = 1 ∨ tk = 2) := by
              unfold takesR takesN
              rw [if_neg (by omega)]
              by_cases h5 : 5 ≤ xk
              · exact ⟨2, by rw [if_neg (by omega), if_pos ⟨h5, hr.2⟩]; rfl, by rw [if_pos ⟨h5, hr.2⟩], .inr rfl⟩
              · exact ⟨1, by rw [if_pos (by omega)]; rfl, by rw [if_neg (by omega), if_pos (by omega)], .inl rfl⟩
            obtain ⟨t1, t2, t3⟩ := htk
            rw [t1] at TK
            have hneg : ¬ ((tk : Int) < 0) := by omega
            rw [t2] at SN
            by_cases hle : tk ≤ n
            · have hle' : ¬ ((n : Int) < (tk : Int)) := by omega
              by_cases h3 : xn = 0
              · subst h3
                by_cases h4 : xs = E0
                · subst h4
                  have SN2 := Lib.hid (show checkF 0 (T.take (k + 1)) = some (n + 1 - tk) by rw [SN.out, if_pos ⟨by unfold mayB; rw [if_neg h1, if_neg h2, decide_eq_true hr.1, decide_eq_true hr.2]; rfl, hle⟩])
                  have wn : IntKind.i64.wrap ((n : Int) + IntKind.i64.wrap (1 - (tk : Int))) = ((n + 1 - tk : Nat) : Int) := by rw [IntWalk.i64_in (1 - (tk : Int)) (by omega), IntWalk.i64_in _ (by omega)]; omega
                  clear IS SN R90 h1 h2 hr t1 t2
                  go_wp2_with fail
                  refine (TK.out _).mono ?_
                  rintro e w1 ⟨rfl, rfl⟩
                  go_wp2_with fail
                  go_round
                  case rel => exact ⟨k + 1, n + 1 - tk, by omega, by first | rfl | rw [← w9], by first | rfl | (congr 1; omega) | (rw [← wn]), Lib.hid SN2.out⟩
                  case measure => simp [intOf]; omega
                · have R := Lib.hid (R90.out (by rw [SN.out, if_neg]; intro hh; have := hh.1; unfold mayB at this; rw [if_neg h1, if_neg h2, decide_eq_false h4] at this; simp at this))
                  have h4' := lit_no (l := []) h4
                  clear IS SN R90 w9 h1 h2 hr t1 t2
                  go_wp2_with fail
                  refine (TK.out _).mono ?_
                  rintro e w1 ⟨rfl, rfl⟩
                  go_wp2_with fail
                  go_ret
                  exact ⟨by rw [R.out]; rfl, rfl⟩
              · have R := Lib.hid (R90.out (by rw [SN.out, if_neg]; intro hh; have := hh.1; unfold mayB at this; rw [if_neg h1, if_neg h2, decide_eq_false h3] at this; simp at this))
                have h3' : (xn != 0) = true := by simp [h3]
                clear IS SN R90 w9 h1 h2 hr t1 t2
                go_wp2_with fail
                refine (TK.out _).mono ?_
                rintro e w1 ⟨rfl, rfl⟩
                go_wp2_with fail
                go_ret
                exact ⟨by rw [R.out]; rfl, rfl⟩
            · have R := Lib.hid (R90.out (by rw [SN.out, if_neg]; intro hh; exact hle hh.2))
              have hle' : (n : Int) < (tk : Int) := by omega
              clear IS SN R90 w9 h1 h2 hr t1 t2
              go_wp2_with fail
              refine (TK.out _).mono ?_
              rintro e w1 ⟨rfl, rfl⟩
              go_wp2_with fail
              go_ret
              exact ⟨by rw [R.out]; rfl, rfl⟩
          · rw [show takesR xk = -1 by unfold takesR; rw [if_neg (by omega), if_neg (by omega), if_neg (by omega)]] at TK
            have R := Lib.hid (R90.out (by rw [SN.out, if_neg]; intro hh; have := hh.1; unfold mayB at this; rw [if_neg h1, if_neg h2] at this; simp only [Bool.and_eq_true, decide_eq_true_eq] at this; exact hr this.1.1))
            clear IS SN R90 w9 h1 h2 hr
            go_wp2_with fail
            refine (TK.out _).mono ?_
            rintro e w1 ⟨rfl, rfl⟩
            go_wp2_with fail
            go_ret
            exact ⟨by rw [R.out]; rfl, rfl⟩
    · have hkl : k = T.length := by omega
      subst hkl
      have hst' := hst.out
      rw [List.take_length] at hst'
      by_cases h1 : n = 1
      · subst h1
        by_cases h2 : T.length ≤ 256
        · have R := Lib.hid (show checkT T = 0 by unfold checkT; rw [if_pos hst', if_pos h2])
          have h2' : ¬ ((256 : Int) < (T.length : Int)) := by omega
          clear hst hst'
          go_wp2_with fail
          go_ret
          exact ⟨by rw [R.out]; rfl, rfl⟩
        · have R := Lib.hid (show checkT T = 93 by unfold checkT; rw [if_pos hst', if_neg h2])
          have h2' : (256 : Int) < (T.length : Int) := by omega
          clear hst hst'
          go_wp2_with fail
          go_ret
          exact ⟨by rw [R.out]; rfl, rfl⟩
      · have R := Lib.hid (show checkT T = 90 by unfold checkT; rw [if_neg (by rw [hst']; simpa using h1)])
        have h1' : ((n : Int) != 1) = true := by rw [bne, beq_eq_false_iff_ne.2 (by omega)]; rfl
        clear hst hst'
        go_wp2_with fail
        go_ret
        exact ⟨by rw [R.out]; rfl, rfl⟩
end Go.Proofs.YtdkflmpdelfgoaaDoor
namespace Go.Proofs.YtdkflmpdelfgoaaDoor
open Go.RowKit Go.Shelf
set_option linter.unusedVariables false
set_option linter.unusedSimpArgs false
attribute [local go_sem] Oper.semAt_some

theorem wrap64_mod (x : Int) : wrap64 (x % 18446744073709551616) = wrap64 x := by unfold wrap64; omega
theorem u64_of (a : Int) : IntKind.u64.wrap a = a % 18446744073709551616 := by rw [IntKind.wrap_u64]
theorem i64_of (n : Int) : IntKind.i64.wrap n = wrap64 n := by unfold wrap64; rw [IntKind.wrap_i64]
/-- the number behind i doublings -/
def dbl (a : Int) (i : Nat) : Nat := (a * 2 ^ i % 18446744073709551616).toNat
theorem dbl_eq (a : Int) (i : Nat) : (dbl a i : Int) = a * 2 ^ i % 18446744073709551616 := by unfold dbl; omega
theorem dbl_succ (a : Int) (i : Nat) : IntKind.u64.wrap ((dbl a i : Int) * 2) = (dbl a (i + 1) : Int) := by
  rw [u64_of, dbl_eq, dbl_eq, Int.pow_succ, ← Int.mul_assoc]
  generalize a * 2 ^ i = y
  omega
def hlv (a : Int) (i : Nat) : Nat := (a % 18446744073709551616).toNat / 2 ^ i
theorem hlv_succ (a : Int) (i : Nat) : hlv a i / 2 = hlv a (i + 1) := by
  unfold hlv; rw [Nat.div_div_eq_div_mul, Nat.pow_succ]
theorem hlv_lt (a : Int) (i : Nat) : hlv a i < 18446744073709551616 := by
  unfold hlv
  have h : (a % 18446744073709551616).toNat < 18446744073709551616 := by omega
  exact Nat.lt_of_le_of_lt (Nat.div_le_self _ _) h
theorem shl_end (a b : Int) (hb0 : 0 ≤ b) (hb1 : b ≤ 63) : wrap64 (dbl a b.toNat : Int) = wrap64 (a * 2 ^ b.toNat) := by
  rw [dbl_eq, wrap64_mod]
theorem shr_end (a b : Int) : wrap64 (hlv a b.toNat : Int) = wrap64 (IntKind.u64.wrap a / 2 ^ b.toNat) := by
  congr 1
  unfold hlv
  rw [u64_of]
  have h : ((a % 18446744073709551616).toNat : Int) = a % 18446744073709551616 := by omega
  rw [Int.natCast_ediv, h]
  simp
set_option maxRecDepth 100000 in
set_option maxHeartbeats 8000000 in
theorem rnum_shift (k a b : Int) (hk : k = 10 ∨ k = 11) (w : World) :
    Calls Tryd.prog 58 #[.int .i64 k, .int .i64 a, .int .i64 b] w fun e w' => e = .returned (nzV (shfZ k a b)) ∧ w = w' := by
  unfold shfZ
  by_cases hb : b < 0
  · rw [if_pos hb]
    rcases hk with rfl | rfl
    all_goals
      go_enter Tryd.func58, Tryd.ntmps58
      go_wp2_with fail
      go_ret2
      exact ⟨rfl, rfl⟩
  rw [if_neg hb]
  by_cases hb' : 63 < b
  · rw [if_pos hb']
    rcases hk with rfl | rfl
    all_goals
      go_enter Tryd.func58, Tryd.ntmps58
      go_wp2_with fail
      go_ret2
      exact ⟨rfl, rfl⟩
  rw [if_neg hb']
  have hb1 : 0 ≤ b := by omega
  have hb2 : b ≤ 63 := by omega
  clear hb hb'
  obtain ⟨nb, hnb⟩ : ∃ nb : Nat, b = (nb : Int) := ⟨b.toNat, by omega⟩
  subst hnb
  rcases hk with rfl | rfl
  · rw [if_neg (by decide)]
    have HE := Lib.hid (shl_end a (nb : Int) hb1 hb2)
    have H0 := Lib.hid (show IntKind.u64.wrap a = (dbl a 0 : Int) by rw [u64_of, dbl_eq, Int.pow_zero, Int.mul_one])
    have u0 := H0.out
    have HS := Lib.hid (fun i => dbl_succ a i)
    generalize hR : wrap64 (a * 2 ^ ((nb : Int)).toNat) = R at *
    clear hR
    go_enter Tryd.func58, Tryd.ntmps58
    go_wp2_with fail
    go_loop [9, 8] (fun iv vv => ∃ i : Nat, i ≤ nb ∧ iv = .int .i64 (i : Int) ∧ vv = .int .u64 (dbl a i : Int)) (fun iv vv => nb - (intOf iv).toNat)
    case atStart => exact ⟨0, Nat.zero_le _, rfl, by first | rfl | rw [H0.out]⟩
    case round =>
      obtain ⟨i, hi, rfl, rfl⟩ := hrel
      have w9 : IntKind.i64.wrap ((i : Int) + 1) = ((i + 1 : Nat) : Int) := by rw [IntWalk.i64_in _ (by omega)]; omega
      have hsu := HS.out i
      by_cases hlt : (i : Int) < (nb : Int)
      · go_wp2_with fail
        go_round
        case rel => exact ⟨i + 1, by omega, by first | rfl | rw [← w9], by first | rfl | rw [← hsu]⟩
        case measure => simp [intOf]; omega
      · obtain rfl : i = nb := by omega
        have hfin : IntKind.i64.wrap (dbl a i : Int) = R := by rw [i64_of]; exact HE.out
        clear hsu
        go_wp2_with fail
        go_ret2
        exact ⟨rfl, rfl⟩
  · rw [if_pos rfl]
    have HE := Lib.hid (shr_end a (nb : Int))
    have H0 := Lib.hid (show IntKind.u64.wrap a = (hlv a 0 : Int) by rw [u64_of]; unfold hlv; simp; omega)
    have u0 := H0.out
    have HS := Lib.hid (fun i => hlv_succ a i)
    have HT := Lib.hid (fun i => hlv_lt a i)
    generalize hR : wrap64 (IntKind.u64.wrap a / 2 ^ ((nb : Int)).toNat) = R at *
    clear hR
    go_enter Tryd.func58, Tryd.ntmps58
    go_wp2_with fail
    go_loop [9, 8] (fun iv vv => ∃ i : Nat, i ≤ nb ∧ iv = .int .i64 (i : Int) ∧ vv = .int .u64 (hlv a i : Int)) (fun iv vv => nb - (intOf iv).toNat)
    case atStart => exact ⟨0, Nat.zero_le _, rfl, by first | rfl | rw [H0.out]⟩
    case round =>
      obtain ⟨i, hi, rfl, rfl⟩ := hrel
      have w9 : IntKind.i64.wrap ((i : Int) + 1) = ((i + 1 : Nat) : Int) := by rw [IntWalk.i64_in _ (by omega)]; omega
      obtain ⟨q, hq⟩ : ∃ q, hlv a i = q := ⟨_, rfl⟩
      obtain ⟨q2, hq2⟩ : ∃ q2, hlv a (i + 1) = q2 := ⟨_, rfl⟩
      have hd : q / 2 = q2 := by rw [← hq, ← hq2]; exact HS.out i
      have hlq := HT.out i
      rw [hq] at hlq
      have e3 : Int.tdiv (q : Int) 2 = (q2 : Int) := by rw [show Int.tdiv (q : Int) 2 = ((q / 2 : Nat) : Int) from rfl, hd]
      have e4 : IntKind.u64.wrap (q2 : Int) = (q2 : Int) := by rw [IntKind.wrap_u64]; omega
      by_cases hlt : (i : Int) < (nb : Int)
      · rw [hq]
        go_wp2_with fail
        go_round
        case rel => exact ⟨i + 1, by omega, by first | rfl | rw [← w9], by rw [hq2]⟩
        case measure => simp [intOf]; omega
      · obtain rfl : i = nb := by omega
        have hf : wrap64 (q : Int) = R := by rw [← hq]; exact HE.out
        have HFN := Lib.hid hf
        clear hd e3 e4 hf
        go_wp2_with fail
        go_ret2
        exact ⟨by rw [← HFN.out]; rfl, rfl⟩
set_option maxRecDepth 100000 in
set_option maxHeartbeats 8000000 in
theorem rnum_div (k a b : Int) (hk : k = 6 ∨ k = 7) (ha : -9223372036854775808 ≤ a ∧ a ≤ 9223372036854775807) (w : World) :
    Calls Tryd.prog 58 #[.int .i64 k, .int .i64 a, .int .i64 b] w fun e w' => e = .returned (nzV (divZ k a b)) ∧ w = w' := by
  unfold divZ
  by_cases hb : b = 0
  · rw [if_pos hb]
    subst hb
    clear ha
    rcases hk with rfl | rfl
    all_goals
      go_enter Tryd.func58, Tryd.ntmps58
      go_wp2_with fail
      go_ret2
      exact ⟨rfl, rfl⟩
  rw [if_neg hb]
  by_cases hm : b = -1
  · subst hm
    clear ha
    rcases hk with rfl | rfl
    · rw [if_neg (by decide), show a.tdiv (-1) = -a by rw [Int.tdiv_neg, Int.tdiv_one]]
      go_enter Tryd.func58, Tryd.ntmps58
      go_wp2_with fail
      go_ret2
      exact ⟨rfl, rfl⟩
    · rw [if_pos rfl, show a.tmod (-1) = 0 by rw [Int.tmod_neg, Int.tmod_one]]
      go_enter Tryd.func58, Tryd.ntmps58
      go_wp2_with fail
      go_ret2
      exact ⟨rfl, rfl⟩
  have hm' : (b == -1) = false := by rw [beq_eq_false_iff_ne]; exact hm
  clear ha
  rcases hk with rfl | rfl
  · rw [if_neg (by decide)]
    go_enter Tryd.func58, Tryd.ntmps58
    go_wp2_with fail
    go_ret2
    exact ⟨rfl, rfl⟩
  · rw [if_pos rfl]
    go_enter Tryd.func58, Tryd.ntmps58
    go_wp2_with fail
    go_ret2
    exact ⟨rfl, rfl⟩
set_option maxRecDepth 100000 in
set_option maxHeartbeats 8000000 in
theorem rnum_any (k a b : Int) (hk : k = 5 ∨ k = 6 ∨ k = 7 ∨ k = 10 ∨ k = 11 ∨ k = 12 ∨ k = 13 ∨ k = 14) (ha : -9223372036854775808 ≤ a ∧ a ≤ 9223372036854775807) (w : World) :
    Calls Tryd.prog 58 #[.int .i64 k, .int .i64 a, .int .i64 b] w fun e w' => e = .returned (nzV (numZ k a b)) ∧ w = w' := by
  rcases hk with rfl | rfl | rfl | rfl | rfl | rfl | rfl | rfl
  · rw [show numZ 5 a b = (wrap64 (a * b), 0) from rfl]
    go_enter Tryd.func58, Tryd.ntmps58
    go_wp2_with fail
    go_ret2
    exact ⟨rfl, rfl⟩
  · exact rnum_div 6 a b (.inl rfl) ha w
  · exact rnum_div 7 a b (.inr rfl) ha w
  · exact rnum_shift 10 a b (.inl rfl) w
  · exact rnum_shift 11 a b (.inr rfl) w
  · rw [show numZ 12 a b = (bits BinOp.and IntKind.i64 a b, 0) from rfl]
    go_enter Tryd.func58, Tryd.ntmps58
    go_wp2_with fail
    go_ret2
    exact ⟨rfl, rfl⟩
  · rw [show numZ 13 a b = (bits BinOp.xor IntKind.i64 a b, 0) from rfl]
    go_enter Tryd.func58, Tryd.ntmps58
    go_wp2_with fail
    go_ret2
    exact ⟨rfl, rfl⟩
  · rw [show numZ 14 a b = (bits BinOp.or IntKind.i64 a b, 0) from rfl]
    go_enter Tryd.func58, Tryd.ntmps58
    go_wp2_with fail
    go_ret2
    exact ⟨rfl, rfl⟩
end Go.Proofs.YtdkflmpdelfgoaaDoor
