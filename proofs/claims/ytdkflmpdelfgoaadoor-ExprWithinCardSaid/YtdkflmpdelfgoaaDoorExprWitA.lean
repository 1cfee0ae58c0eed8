/-
  ExprWithin: what each call returns. Conditions: what the variables hold (GoodE).
-/
import Derived.Test.YtdkflmpdelfgoaaDoorExprPN
import Derived.Test.YtdkflmpdelfgoaaDoorExprR
import Derived.Test.YtdkflmpdelfgoaaDoorExprRefB
namespace Go.Proofs.YtdkflmpdelfgoaaDoor
open Go.RowKit Go.Shelf
set_option linter.unusedVariables false
set_option linter.unusedSimpArgs false
attribute [local go_sem] Oper.semAt_some

theorem checkT_len {T : List Tm} (h : checkT T = 0) : T.length ≤ 256 ∧ ∀ x ∈ T, x.s.size ≤ 512 := by
  obtain ⟨h1, h2⟩ := checkT_ok h
  exact ⟨h2, fun x hx => mayB_size (checkF_may _ _ _ h1 x hx)⟩
set_option maxRecDepth 100000 in
set_option maxHeartbeats 16000000 in
theorem within_law (v : Value) (T : List Tok) (w : World) (hG : GoodE w) (hT : TokO w v T) (hu : ∀ x ∈ T, x.n < 18446744073709551616) (ht : ∀ x ∈ T, x.t.length ≤ 281474976710656) :
    Calls Tryd.prog 6 #[v] w fun e w' => e = .returned (.bool true) ∧ Below w.heap.size w w' := by
  have LV := Lib.hid (live_any w hG)
  obtain ⟨A, c, rfl⟩ := hT.slice
  have GD := Lib.hid (fun V (hb : Below w.heap.size w V) => hG.thn hb)
  have TT := Lib.hid (fun V (hb : Below w.heap.size w V) => hT.keep hb)
  have HU := Lib.hid hu
  have HT := Lib.hid ht
  clear hG hT hu ht
  by_cases hlong : 700 < T.length
  · have h' : (700 : Int) < (T.length : Int) := by omega
    clear hlong
    go_enter Tryd.func6, Tryd.ntmps6
    go_wp2_with fail
    refine LV.out.mono ?_
    rintro e w1 ⟨rfl, hb⟩
    have HB := Lib.hid hb
    clear hb
    go_wp2_with fail
    go_ret
    exact ⟨rfl, HB.out⟩
  · have h' : ¬ ((700 : Int) < (T.length : Int)) := by omega
    go_enter Tryd.func6, Tryd.ntmps6
    go_wp2_with fail
    refine LV.out.mono ?_
    rintro e w1 ⟨rfl, hb⟩
    have HB := Lib.hid hb
    clear hb
    go_wp2_with fail
    go_loopw [19] (fun iv wr => ∃ k : Nat, k ≤ T.length ∧ iv = .int .i64 (k : Int) ∧ Below w.heap.size w wr) (fun iv _ => T.length - (intOf iv).toNat)
    case atStart => exact ⟨0, Nat.zero_le _, rfl, HB.out⟩
    case round =>
      obtain ⟨k, hk, rfl, hbr⟩ := hrel
      by_cases hlt : (k : Int) < (T.length : Int)
      · have hlt' : k < T.length := by omega
        have w9 : IntKind.i64.wrap ((k : Int) + 1) = ((k + 1 : Nat) : Int) := by rw [IntWalk.i64_in _ (by omega)]; omega
        obtain ⟨g, off, cap, x, hx, hv, x1, x2, x3, x4⟩ := toko_at (TT.out wr hbr) hlt'
        cases hv
        have RS := Lib.hid (fun V => rIsSym_any ⟨x.t.toArray⟩ V (by have := HT.out x (List.mem_of_getElem? hx); unfold maxLen; rw [size_list]; simp only [List.toList_toArray]; omega))
        have HBR := Lib.hid (hbr.alloc hbr.size (.cells #[.int .i64 x.k, .string ⟨x.t.toArray⟩, .int .u64 (x.n : Int), .int .i64 x.p] 52))
        have hn := heap_alloc_new wr (.cells #[.int .i64 x.k, .string ⟨x.t.toArray⟩, .int .u64 (x.n : Int), .int .i64 x.p] 52)
        have HN := Lib.hid hn
        obtain ⟨xk, xt, xn, xp⟩ := x
        simp only at RS HBR HN x1 x2 x3 x4
        generalize symB _ = sb at RS
        generalize (⟨xt.toArray⟩ : BA) = S at *
        clear hbr hx hn hlt
        by_cases h1 : xk = 1
        · subst h1
          cases sb with
          | false =>
            go_wp2_with fail
            refine (RS.out _).mono ?_
            rintro e w2 ⟨rfl, rfl⟩
            go_wp2_with fail
            go_ret
            exact ⟨rfl, HBR.out⟩
          | true =>
            go_wp2_with fail
            refine (RS.out _).mono ?_
            rintro e w2 ⟨rfl, rfl⟩
            go_wp2_with fail
            go_roundw
            case rel => exact ⟨k + 1, by omega, by first | rfl | rw [← w9], HBR.out⟩
            case measure => simp [intOf]; omega
        · have h1' : (xk == (1 : Int)) = false := by rw [beq_eq_false_iff_ne]; exact h1
          go_wp2_with fail
          go_roundw
          case rel => exact ⟨k + 1, by omega, by first | rfl | rw [← w9], HBR.out⟩
          case measure => simp [intOf]; omega
      · obtain rfl : k = T.length := by omega
        have PA := Lib.hid (parse_any _ T wr (GD.out wr hbr) (TT.out wr hbr) (by omega) HU.out HT.out)
        have HBR := Lib.hid hbr
        clear hbr hlt hk
        have PO := parseT_ok T
        have PI := Lib.hid (parseT_in T)
        generalize parseT T = r at *
        obtain ⟨tms, n, x⟩ := r
        simp only at PA PO PI
        rcases PO with ⟨rfl, hck, hn1, hn2⟩ | ⟨hx, rfl, rfl⟩
        · have hn1' : ¬ ((n : Int) < 1) := by omega
          have hn2' : ¬ ((T.length : Int) < (n : Int)) := by omega
          obtain ⟨hlen, hsz⟩ := checkT_len hck
          have hsz2 : ∀ y ∈ tms, y.s.size ≤ maxLen := fun y hy => by have := hsz y hy; unfold maxLen; omega
          have CK := Lib.hid (fun v' V (hv : TriO tmF V v' tms) (hb : Below w.heap.size w V) => check_any v' tms V (GD.out V hb) hv (by omega) hsz2)
          rw [hck] at CK
          have EV := Lib.hid (fun v' V (hv : TriO tmF V v' tms) (hb : Below w.heap.size w V) => eval_any v' tms V (GD.out V hb) hv (by omega) hsz2)
          have hok := evalT_ok tms
          have hib := inB_eval PI.out
          have hszv : (evalT tms).1.2.1.size ≤ 512 ∧ (evalT tms).1.2.2.size ≤ 512 := ⟨partB_size hok.1, partB_size hok.2.1⟩
          have PR := Lib.hid (fun V (hb : Below w.heap.size w V) => print_any (evalT tms).1 V (GD.out V hb) hib.1 hib.2 (by unfold maxLen; omega) (by unfold maxLen; omega))
          have hpv := printV_ok hok
          generalize printV (evalT tms).1 = pv at *
          obtain ⟨pt, pe⟩ := pv
          simp only at hpv
          subst hpv
          generalize evalT tms = r at *
          obtain ⟨⟨rn, rp, rm⟩, re⟩ := r
          unfold RV at EV
          unfold PV at PR
          unfold vlV at EV PR
          simp only at EV PR
          clear hck hn1 hn2 hlen hsz hsz2 hok hib hszv
          go_wp2_with fail
          refine PA.out.mono ?_
          rintro e w2 ⟨⟨v', rfl, hv'⟩, hb⟩
          have HB2 := Lib.hid (Below.thn HBR.out HBR.out.size hb)
          obtain ⟨A2, c2, rfl⟩ := tri_slice hv'
          have HV2 := Lib.hid hv'
          clear hb hv'
          go_wp2_with fail
          refine (CK.out _ _ HV2.out HB2.out).mono ?_
          rintro e w3 ⟨rfl, hb⟩
          have HB3 := Lib.hid (Below.thn HB2.out HB2.out.size hb)
          have HV3 := Lib.hid (HV2.out.keep hb)
          clear hb
          go_wp2_with fail
          refine (EV.out _ _ HV3.out HB3.out).mono ?_
          rintro e w4 ⟨rfl, hb⟩
          have HB4 := Lib.hid ((Below.thn HB3.out HB3.out.size hb).alloc (Nat.le_trans HB3.out.size hb.size) (.cells #[.int .i64 rn, .string rp, .string rm] 26))
          have hn := heap_alloc_new w4 (.cells #[.int .i64 rn, .string rp, .string rm] 26)
          obtain ⟨x0, x1, x2⟩ := val_cells hn
          clear hb hn
          by_cases hre : re = 0
          · subst hre
            go_wp2_with fail
            refine (PR.out _ HB4.out).mono ?_
            rintro e w5 ⟨rfl, hb⟩
            have HB5 := Lib.hid (Below.thn HB4.out HB4.out.size hb)
            clear hb
            go_wp2_with fail
            go_ret
            exact ⟨rfl, HB5.out⟩
          · have hre' : (re != 0) = true := by simp [hre]
            go_wp2_with fail
            go_ret
            exact ⟨rfl, HB4.out⟩
        · have hx' : (x != 0) = true := by simp [hx]
          go_wp2_with fail
          refine PA.out.mono ?_
          rintro e w2 ⟨⟨v', rfl, hv'⟩, hb⟩
          have HB2 := Lib.hid (Below.thn HBR.out HBR.out.size hb)
          obtain ⟨A2, c2, rfl⟩ := tri_slice hv'
          clear hb hv'
          go_wp2_with fail
          go_ret
          exact ⟨rfl, HB2.out⟩
end Go.Proofs.YtdkflmpdelfgoaaDoor
