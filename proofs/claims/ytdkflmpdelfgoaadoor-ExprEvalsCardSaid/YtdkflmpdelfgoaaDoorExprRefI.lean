/-
  The document's sign, number: what each call returns. Conditions: the operators' kinds; numbers of 64 bits.
-/
import Derived.Test.YtdkflmpdelfgoaaDoorExprH
import Derived.Test.YtdkflmpdelfgoaaDoorExprRefE
import Derived.Test.YtdkflmpdelfgoaaDoorExprJ
import Derived.Test.YtdkflmpdelfgoaaDoorExprI
namespace Go.Proofs.YtdkflmpdelfgoaaDoor
open Go.RowKit Go.Shelf
set_option linter.unusedVariables false
set_option linter.unusedSimpArgs false
attribute [local go_sem] Oper.semAt_some

set_option maxRecDepth 100000 in
set_option maxHeartbeats 4000000 in
theorem rsign_any (k : Nat) (hk : 3 ≤ k ∧ k ≤ 14) (w : World) :
    Calls Tryd.prog 38 #[.int .i64 (k : Int)] w fun e w' => e = .returned (.string (signB k)) ∧ w = w' := by
  obtain rfl | rfl | rfl | rfl | rfl | rfl | rfl | rfl | rfl | rfl | rfl | rfl : k = 3 ∨ k = 4 ∨ k = 5 ∨ k = 6 ∨ k = 7 ∨ k = 8 ∨ k = 9 ∨ k = 10 ∨ k = 11 ∨ k = 12 ∨ k = 13 ∨ k = 14 := by omega
  all_goals
    clear hk
    go_enter Tryd.func38, Tryd.ntmps38
    go_wp2_with fail
    go_ret
    exact ⟨rfl, rfl⟩

/-! ### number -/
def hexC (d : Nat) : UInt8 := UInt8.ofNat (if d < 10 then 48 + d else 87 + d)
def hexL (u : Nat) : Nat → List UInt8
  | 0 => []
  | i + 1 => hexC (u / 16 ^ i % 16) :: hexL u i
theorem hexL_len (u i : Nat) : (hexL u i).length = i := by
  induction i with
  | zero => rfl
  | succ i ih => simp [hexL, ih]
def hexN (u : Nat) : BA := ⟨(hexL u 16).toArray⟩
/-- a number as its text: decimal from 0, hexadecimal of 64 bits below -/
def saidB (n : Int) : BA := if 0 ≤ n then ⟨(Lib.decDigits n.toNat).toArray⟩ else ⟨#[48, 120]⟩ ++ hexN (n % 18446744073709551616).toNat
theorem digit_cut16 : ∀ k : Fin 16, (⟨#[48, 49, 50, 51, 52, 53, 54, 55, 56, 57, 97, 98, 99, 100, 101, 102]⟩ : ByteArray).extract k.val (k.val + 1) = ⟨#[hexC k.val]⟩ := by decide
def sxt (u i : Nat) : Nat := u / 16 ^ i
theorem sxt_succ (u i : Nat) : sxt u i / 16 = sxt u (i + 1) := by
  unfold sxt; rw [Nat.div_div_eq_div_mul, Nat.pow_succ]
theorem sxt_lt (u i : Nat) (h : u < 18446744073709551616) : sxt u i < 18446744073709551616 := Nat.lt_of_le_of_lt (Nat.div_le_self _ _) h
set_option maxRecDepth 100000 in
set_option maxHeartbeats 8000000 in
theorem rnumber_any (n : Int) (hn : -9223372036854775808 ≤ n ∧ n ≤ 9223372036854775807) (w : World) :
    Calls Tryd.prog 37 #[.int .i64 n] w fun e w' => e = .returned (.string (saidB n)) ∧ w = w' := by
  by_cases h0 : 0 ≤ n
  · obtain ⟨m, rfl⟩ : ∃ m : Nat, n = (m : Int) := ⟨n.toNat, by omega⟩
    rw [show saidB (m : Int) = ⟨(Lib.decDigits m).toArray⟩ by unfold saidB; rw [if_pos h0]; rfl]
    have DC := Lib.hid (fun V => rdec_any m (by omega) V)
    have wu : IntKind.u64.wrap (m : Int) = (m : Int) := by rw [IntKind.wrap_u64]; omega
    have hm0 : (0 : Int) ≤ (m : Int) := by omega
    clear hn h0
    go_enter Tryd.func37, Tryd.ntmps37
    go_wp2_with fail
    refine (DC.out _).mono ?_
    rintro e w1 ⟨rfl, rfl⟩
    go_wp2_with fail
    go_ret
    exact ⟨rfl, rfl⟩
  · obtain ⟨u, hu⟩ : ∃ u : Nat, n % 18446744073709551616 = (u : Int) := ⟨(n % 18446744073709551616).toNat, by omega⟩
    have HR := Lib.hid (show (⟨#[48, 120]⟩ ++ hexN u : BA) = saidB n by unfold saidB; rw [if_neg h0, hu]; rfl)
    have wu : IntKind.u64.wrap n = (u : Int) := by rw [IntKind.wrap_u64]; exact hu
    have hul : u < 18446744073709551616 := by omega
    have HS := Lib.hid (fun i => sxt_succ u i)
    have HT := Lib.hid (fun i => sxt_lt u i hul)
    have H0 := Lib.hid (show sxt u 0 = u by unfold sxt; simp)
    have hn0 : ¬ (0 ≤ n) := h0
    have HX := Lib.hid (fun i => show hexL u (i + 1) = hexC (sxt u i % 16) :: hexL u i from rfl)
    have HLN := Lib.hid (fun i => hexL_len u i)
    have HE := Lib.hid (fun (a : BA) (ha : a.data.toList = hexL u 16) => show a = hexN u from bytes_eq ha)
    generalize saidB n = R at *
    clear hn h0 hu hul
    go_enter Tryd.func37, Tryd.ntmps37
    go_wp2_with fail
    go_loop [5, 4, 3] (fun iv vv sv => ∃ (i : Nat) (acc : BA), i ≤ 16 ∧ iv = .int .i64 (i : Int) ∧ vv = .int .u64 (sxt u i : Int) ∧ sv = .string acc ∧ Hid (acc.data.toList = hexL u i)) (fun iv vv sv => 16 - (intOf iv).toNat)
    case atStart => exact ⟨0, ⟨#[]⟩, Nat.zero_le _, rfl, by rw [H0.out], rfl, Lib.hid rfl⟩
    case round =>
      obtain ⟨i, acc, hi, rfl, rfl, rfl, hI⟩ := hrel
      have w9 : IntKind.i64.wrap ((i : Int) + 1) = ((i + 1 : Nat) : Int) := by rw [IntWalk.i64_in _ (by omega)]; omega
      obtain ⟨m, hm⟩ : ∃ m, sxt u i = m := ⟨_, rfl⟩
      obtain ⟨q, hq⟩ : ∃ q, sxt u (i + 1) = q := ⟨_, rfl⟩
      obtain ⟨r, hr⟩ : ∃ r, m % 16 = r := ⟨_, rfl⟩
      obtain ⟨D, hD⟩ : ∃ D, hexC r = D := ⟨_, rfl⟩
      have HC := digit_cut16 ⟨r, by omega⟩
      simp only [hD] at HC
      have hd : m / 16 = q := by rw [← hm, ← hq]; exact HS.out i
      have hml := HT.out i
      rw [hm] at hml
      have hlen : acc.size ≤ 16 := by
        rw [size_list, hI.out, HLN.out]; exact hi
      have e1 : Int.tmod (m : Int) 16 = (r : Int) := by rw [show Int.tmod (m : Int) 16 = ((m % 16 : Nat) : Int) from rfl]; omega
      have e2 : IntKind.u64.wrap ((r : Int) + 1) = ((r + 1 : Nat) : Int) := by rw [IntKind.wrap_u64]; omega
      have e3 : Int.tdiv (m : Int) 16 = (q : Int) := by rw [show Int.tdiv (m : Int) 16 = ((m / 16 : Nat) : Int) from rfl]; omega
      have e4 : IntKind.u64.wrap (q : Int) = (q : Int) := by rw [IntKind.wrap_u64]; omega
      have hr16 : r < 16 := by omega
      by_cases hlt : (i : Int) < 16
      · have HN := Lib.hid (show (⟨#[D]⟩ ++ acc : BA).data.toList = hexL u (i + 1) by
          rw [ByteArray.data_append, Array.toList_append]
          show [D] ++ acc.data.toList = _
          rw [hI.out, HX.out, hm, hr, hD]; rfl)
        rw [hm]
        clear hd hI
        go_wp2_with fail
        go_round
        case rel => exact ⟨i + 1, _, by omega, by first | rfl | rw [← w9], by rw [hq], rfl, HN⟩
        case measure => simp [intOf]; omega
      · obtain rfl : i = 16 := by omega
        have HF := HE.out acc hI.out
        subst HF
        rw [hm]
        have hsz : (hexN u).size = 16 := by rw [size_list]; exact HLN.out 16
        clear hd hI hlt
        go_wp2_with fail
        go_ret
        exact ⟨by first | exact ret1s HR.out | rw [HR.out], rfl⟩
end Go.Proofs.YtdkflmpdelfgoaaDoor
namespace Go.Proofs.YtdkflmpdelfgoaaDoor
open Go.RowKit Go.Shelf
set_option linter.unusedVariables false
set_option linter.unusedSimpArgs false
attribute [local go_sem] Oper.semAt_some

theorem infoStr : (Tryd.prog.info? 9).map (fun i => (i.zero, i.size, i.bytes)) = some (some (.string ⟨#[]⟩), 1, 16) := by kernel_rfl
/-- the texts of the terms that name a symbol -/
def symsL (T : List Tm) : List BA := (T.filter fun t => decide (t.k = 2)).map fun t => t.s
def symsT (T : List Tm) : List BA := if checkT T = 0 then symsL T else []
theorem symsL_snoc (T : List Tm) (x : Tm) : symsL (T ++ [x]) = symsL T ++ (if x.k = 2 then [x.s] else []) := by
  unfold symsL
  rw [List.filter_append, List.map_append]
  congr 1
  by_cases h : x.k = 2
  · simp [h]
  · simp [h]
theorem symsL_len (T : List Tm) : (symsL T).length ≤ T.length := by
  unfold symsL
  rw [List.length_map]; exact List.length_filter_le _ _
structure SyI (w : World) (T : List Tm) (k : Nat) (lv : Value) (wr : World) : Prop where
  le : k ≤ T.length
  row : wr.ownsRow w.heap.size 9 1 lv (symsL (T.take k)).length ((symsL (T.take k)).map Value.string)
  bel : Below w.heap.size w wr
set_option maxRecDepth 100000 in
set_option maxHeartbeats 8000000 in
theorem rsyms_any (v : Value) (T : List Tm) (w : World) (h : TriO tmF w v T) (hl : T.length ≤ 281474976710656) (hs : ∀ x ∈ T, x.s.size ≤ maxLen) :
    Calls Tryd.prog 18 #[v] w fun e w' => ∃ u, e = .returned u ∧ w'.ownsRow w.heap.size 9 1 u (symsT T).length ((symsT T).map Value.string) ∧ Below w.heap.size w w' := by
  have CK := Lib.hid (rcheck_any v T w h hl hs)
  have HT := Lib.hid h
  obtain ⟨A, c, rfl⟩ := tri_slice h
  clear h hs
  by_cases hc : checkT T = 0
  · have HE := Lib.hid (show symsT T = symsL T by unfold symsT; rw [if_pos hc])
    rw [hc] at CK
    obtain ⟨-, hlen⟩ := checkT_ok hc
    clear hc
    go_enter Tryd.func18, Tryd.ntmps18
    go_wp2_with fail
    refine CK.out.mono ?_
    rintro e w1 ⟨rfl, rfl⟩
    go_wp2_with fail
    go_loopw [4, 3] (fun iv lv wr => ∃ k : Nat, iv = .int .i64 (k : Int) ∧ Hid (SyI w T k lv wr)) (fun iv lv _ => T.length - (intOf iv).toNat)
    case atStart => exact ⟨0, rfl, Lib.hid ⟨Nat.zero_le _, World.ownsRow_nil _ _ _ _, Below.refl _ _⟩⟩
    case round =>
      obtain ⟨k, rfl, hS⟩ := hrel
      have hrow := hS.out.row
      obtain ⟨vb, vc, rfl⟩ := own_sliceN hrow
      have hkl := hS.out.le
      by_cases hlt : (k : Int) < (T.length : Int)
      · have hlt' : k < T.length := by omega
        obtain ⟨g, off, cap, x, hx, hv, x1, x2, x3⟩ := tri_at (HT.out.keep hS.out.bel) hlt'
        cases hv
        simp only [tmF] at x1 x2 x3
        have w9 : IntKind.i64.wrap ((k : Int) + 1) = ((k + 1 : Nat) : Int) := by rw [IntWalk.i64_in _ (by omega)]; omega
        have hk0 : (0 : Int) ≤ (k : Int) := by omega
        have hSY := symsL_snoc (T.take k) x
        rw [show T.take k ++ [x] = T.take (k + 1) by rw [List.take_add_one, hx]; rfl] at hSY
        have hnl : (symsL (T.take k)).length ≤ k := Nat.le_trans (symsL_len _) (by rw [List.length_take]; omega)
        have HSY := Lib.hid hSY
        have HROW := Lib.hid hrow
        have hsz := hS.out.bel.size
        obtain ⟨xk, xn, xs⟩ := x
        simp only at x1 x2 x3 HSY
        clear hSY hrow hx x2
        obtain ⟨i0, hi, hiz0, hiz1, hiz2⟩ := info_parts infoStr
        obtain ⟨D, hD⟩ : ∃ D, symsL (T.take k) = D := ⟨_, rfl⟩
        rw [hD] at HSY HROW hnl ⊢
        by_cases h2 : xk = 2
        · subst h2
          rw [if_pos rfl] at HSY
          go_wp2_with (at_builtin; go_loud (refine wpList_append_own _ rfl _ _ 40 rfl w.heap.size 9 i0 (.string ⟨#[]⟩) 1 16 Tryd.underlying40 hi hiz0 hiz1 hiz2 rfl (by decide) _ _ _ rfl (HROW.out.alloc _) ⟨wr.heap.size, 0, none⟩ 1 1 [.string xs] rfl rfl (fun j u hu => World.news_of_block (heap_alloc_new wr _) j u hu) (by simp [Value.oneCell']) (by unfold maxLen; omega) (by omega) (by simp; omega) ?_; intro v' w3 hown3 hgrow3 _; obtain ⟨ub, uc, rfl⟩ := own_sliceN hown3))
          go_roundw
          case rel =>
            refine ⟨k + 1, by first | rfl | rw [← w9], Lib.hid ⟨by omega, ?_, ?_⟩⟩
            · rw [HSY.out, List.length_append, List.map_append]; exact hown3
            · exact (hS.out.bel.alloc hsz _).grown hgrow3 (by simp; omega) (fun g hg => (HROW.out.lt g hg).1)
          case measure => simp [intOf]; omega
        · have h2' : (xk == 2) = false := by rw [beq_eq_false_iff_ne]; exact h2
          rw [if_neg h2, List.append_nil] at HSY
          go_wp2_with fail
          go_roundw
          case rel => exact ⟨k + 1, by first | rfl | rw [← w9], Lib.hid ⟨by omega, by rw [HSY.out]; exact HROW.out, hS.out.bel⟩⟩
          case measure => simp [intOf]; omega
      · have hkl2 : k = T.length := by omega
        subst hkl2
        have HROW := hrow
        rw [List.take_length, ← HE.out] at HROW
        clear hrow
        go_wp2_with fail
        go_ret
        exact ⟨.slice vb (symsL T).length vc, rfl, by rw [HE.out] at HROW ⊢; exact HROW, hS.out.bel⟩
  · have HE := Lib.hid (show symsT T = [] by unfold symsT; rw [if_neg hc])
    have hc' : (checkT T != 0) = true := by rw [bne, beq_eq_false_iff_ne.2 hc]; rfl
    obtain ⟨q, hq⟩ : ∃ q, checkT T = q := ⟨_, rfl⟩
    rw [hq] at CK hc'
    clear hc hq
    go_enter Tryd.func18, Tryd.ntmps18
    go_wp2_with fail
    refine CK.out.mono ?_
    rintro e w1 ⟨rfl, rfl⟩
    go_wp2_with fail
    go_ret
    exact ⟨.slice none 0 0, rfl, by rw [HE.out]; exact World.ownsRow_nil _ _ _ _, Below.refl _ _⟩
end Go.Proofs.YtdkflmpdelfgoaaDoor
