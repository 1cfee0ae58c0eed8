/-
  What each call of the document's Name returns. No conditions.
-/
import Derived.Test.YtefglodkcddgiaaDoorNamesU
import Derived.Test.YtefglodkcddgiaaDoorNamesR
namespace Go.Proofs.YtefglodkcddgiaaDoor
open Go.RowKit Go.Shelf

theorem rlook_at {T : List NRow} {k : Nat} {x : NRow} {n : Int} (hx : T[k]? = some x) (hn : ∀ j y, j < k → T[j]? = some y → (y.2 : Int) ≠ n) (he : (x.2 : Int) = n) : rlook T n = some x.1 := by
  have hk : k < T.length := by
    rcases Nat.lt_or_ge k T.length with g | g
    · exact g
    · rw [List.getElem?_eq_none g] at hx; cases hx
  refine rlook_yes (pre := T.take k) ?_ (fun r hr => ?_) he
  · refine ⟨T.drop (k + 1), ?_⟩
    have : T[k] = x := by rw [List.getElem?_eq_getElem hk] at hx; exact Option.some.inj hx
    rw [← this, List.append_assoc, List.singleton_append, ← List.drop_eq_getElem_cons hk, List.take_append_drop]
  · obtain ⟨j, hj, hg⟩ := List.getElem_of_mem hr
    rw [List.length_take] at hj
    exact hn j r (by omega) (by rw [← hg, List.getElem_take, List.getElem?_eq_getElem])
theorem rlook_end {T : List NRow} {n : Int} (hn : ∀ j y, j < T.length → T[j]? = some y → (y.2 : Int) ≠ n) : rlook T n = none := by
  refine rlook_no fun r hr => ?_
  obtain ⟨j, hj, hg⟩ := List.getElem_of_mem hr
  exact hn j r hj (by rw [List.getElem?_eq_getElem hj, hg])

set_option maxHeartbeats 1000000 in
theorem rname_1out (n : Int) (w : World) (h : n < 0 ∨ 127 < n) :
    Calls Tryd.prog 16 #[.int .i64 1, .int .i64 n] w fun e w' => e = strOut (nameOf 1 n) ∧ Below w.heap.size w w' := by
  rw [nameOf_1, strOut_no (regTextOf_out (by omega))]
  rcases h with h | h
  all_goals
    go_enter Tryd.func16, Tryd.ntmps16
    go_wp2
    go_ret2
    exact ⟨rfl, Below.refl _ _⟩
set_option maxHeartbeats 1000000 in
theorem rname_1at (n : Int) (x p : Bool) (o : Option (List UInt8)) (w : World) (h0 : 0 ≤ n) (h1 : n < 128) (hx : (n / 32 % 2 == 1) = x) (hp : (n / 64 == 1) = p)
    (R : Hid (Calls Tryd.prog 12 #[.agg #[.int .i64 (n % 32), .bool x, .bool p]] w fun e w' => e = .returned (.tuple #[.string (strB o), .int .i64 (errO o)]) ∧ Below w.heap.size w w')) :
    Calls Tryd.prog 16 #[.int .i64 1, .int .i64 n] w fun e w' => e = .returned (.tuple #[.string (strB o), .int .i64 (errO o)]) ∧ Below w.heap.size w w' := by
  have d0 : 0 ≤ n / 32 := by omega
  have d1 : n / 32 ≤ 3 := by omega
  have h1' : n ≤ 127 := by omega
  go_enter Tryd.func16, Tryd.ntmps16
  go_wp2_with fail
  refine R.out.mono ?_
  rintro e w1 ⟨rfl, hb⟩
  go_wp2_with fail
  go_ret2
  exact ⟨rfl, hb⟩
theorem rname_1 (n : Int) (w : World) :
    Calls Tryd.prog 16 #[.int .i64 1, .int .i64 n] w fun e w' => e = strOut (nameOf 1 n) ∧ Below w.heap.size w w' := by
  by_cases h : n < 0 ∨ 127 < n
  · exact rname_1out n w h
  · obtain ⟨m, rfl⟩ : ∃ m : Nat, n = (m : Int) := ⟨n.toNat, by omega⟩
    rw [nameOf_1, reg_rlook m (by omega)]
    refine rname_1at (m : Int) (regX m) (regP m) _ w (by omega) (by omega) ?_ ?_ (Lib.hid (rregName_any (regN m) (regX m) (regP m) w))
    · unfold regX; rw [Bool.eq_iff_iff, beq_iff_eq, decide_eq_true_eq]; omega
    · unfold regP; rw [Bool.eq_iff_iff, beq_iff_eq, decide_eq_true_eq]; omega
set_option maxHeartbeats 2000000 in
theorem rname_x (k n : Int) (w : World) (h1 : k ≠ 1) (h6 : k ≠ 6) :
    Calls Tryd.prog 16 #[.int .i64 k, .int .i64 n] w fun e w' => e = strOut (nameOf k n) ∧ Below w.heap.size w w' := by
  have b1 : (k == 1) = false := by simp [h1]
  have b6 : (k != 6) = true := by simp [h6]
  have hTl := tbl_len k
  have HIN := Lib.hid (fun x (h : rlook (tbl k) n = some x) => nameOf_in h)
  have HOUT := Lib.hid (fun (h : rlook (tbl k) n = none) => nameOf_out h (fun g => h6 g.1))
  have HRT := Lib.hid (rtbl_of h1)
  generalize tbl k = T at *
  clear h1 h6
  have TB := Lib.hid (fun w => table_any k w)
  go_enter Tryd.func16, Tryd.ntmps16
  go_wp2_with fail
  refine (TB.out _).mono ?_
  rintro e w1 ⟨v, rfl, hS, hb1⟩
  rw [HRT.out] at hS
  have LV := slice_len hS
  go_wp2_with fail
  go_loop [7] (fun iv => ∃ i : Nat, i ≤ T.length ∧ iv = .int .i64 (i : Int) ∧ Hid (∀ j y, j < i → T[j]? = some y → (y.2 : Int) ≠ n)) (fun iv => T.length - (intOf iv).toNat)
  case atStart => exact ⟨0, Nat.zero_le _, rfl, Lib.hid (fun j y h => by omega)⟩
  case round =>
    obtain ⟨i, hi, rfl, hno⟩ := hrel
    by_cases hlt : i < T.length
    · obtain ⟨g, cap, x, hx, rfl, d0, d1⟩ := slice_at hS hlt
      have w9 : IntKind.i64.wrap ((i : Int) + 1) = ((i + 1 : Nat) : Int) := by rw [IntWalk.i64_in _ (by omega)]; omega
      have hlti : (i : Int) < (T.length : Int) := by omega
      by_cases he : (x.2 : Int) = n
      · have HE := Lib.hid (rlook_at hx hno.out he)
        have hee : ((x.2 : Int) == n) = true := by simp [he]
        clear he hx hS LV
        go_wp2
        go_ret2
        exact ⟨by rw [strOut_yes (HIN.out _ HE.out)]; rfl, hb1⟩
      · have hne : ((x.2 : Int) == n) = false := by simp [he]
        have HN2 := Lib.hid (show ∀ j y, j < i + 1 → T[j]? = some y → (y.2 : Int) ≠ n by
          intro j y h1 h2
          rcases Nat.lt_or_ge j i with g | g
          · exact hno.out j y g h2
          · obtain rfl : j = i := by omega
            rw [hx] at h2; rw [← Option.some.inj h2]; exact he)
        clear he hx hS
        go_wp2
        go_round
        case rel => exact ⟨i + 1, by omega, by first | rfl | rw [← w9], HN2⟩
        case measure => simp [intOf]; omega
    · have HE := Lib.hid (rlook_end (T := T) (n := n) (fun j y h1 h2 => hno.out j y (by omega) h2))
      have hge : ¬ i < T.length := hlt
      clear hS
      go_wp2
      go_ret2
      exact ⟨by rw [strOut_no (HOUT.out HE.out)]; rfl, hb1⟩
set_option maxHeartbeats 2000000 in
theorem rname_6lo (n : Int) (w : World) (h : n < 0) :
    Calls Tryd.prog 16 #[.int .i64 6, .int .i64 n] w fun e w' => e = strOut (nameOf 6 n) ∧ Below w.heap.size w w' := by
  have hTl := tbl_len 6
  have HIN := Lib.hid (fun x (h : rlook (tbl 6) n = some x) => nameOf_in h)
  have HOUT := Lib.hid (fun (h' : rlook (tbl 6) n = none) => nameOf_out h' (by omega))
  have HRT := Lib.hid (rtbl_of (k := 6) (by decide))
  obtain ⟨T, hT⟩ : ∃ T, tbl 6 = T := ⟨_, rfl⟩
  rw [hT] at hTl HIN HRT HOUT
  clear hT
  have TB := Lib.hid (fun w => table_any 6 w)
  go_enter Tryd.func16, Tryd.ntmps16
  go_wp2_with fail
  refine (TB.out _).mono ?_
  rintro e w1 ⟨v, rfl, hS, hb1⟩
  rw [HRT.out] at hS
  have LV := slice_len hS
  go_wp2_with fail
  go_loop [7] (fun iv => ∃ i : Nat, i ≤ T.length ∧ iv = .int .i64 (i : Int) ∧ Hid (∀ j y, j < i → T[j]? = some y → (y.2 : Int) ≠ n)) (fun iv => T.length - (intOf iv).toNat)
  case atStart => exact ⟨0, Nat.zero_le _, rfl, Lib.hid (fun j y h => by omega)⟩
  case round =>
    obtain ⟨i, hi, rfl, hno⟩ := hrel
    by_cases hlt : i < T.length
    · obtain ⟨g, cap, x, hx, rfl, d0, d1⟩ := slice_at hS hlt
      have w9 : IntKind.i64.wrap ((i : Int) + 1) = ((i + 1 : Nat) : Int) := by rw [IntWalk.i64_in _ (by omega)]; omega
      have hlti : (i : Int) < (T.length : Int) := by omega
      by_cases he : (x.2 : Int) = n
      · have HE := Lib.hid (rlook_at hx hno.out he)
        have hee : ((x.2 : Int) == n) = true := by simp [he]
        clear he hx hS LV
        go_wp2
        go_ret2
        exact ⟨by rw [strOut_yes (HIN.out _ HE.out)]; rfl, hb1⟩
      · have hne : ((x.2 : Int) == n) = false := by simp [he]
        have HN2 := Lib.hid (show ∀ j y, j < i + 1 → T[j]? = some y → (y.2 : Int) ≠ n by
          intro j y h1 h2
          rcases Nat.lt_or_ge j i with g | g
          · exact hno.out j y g h2
          · obtain rfl : j = i := by omega
            rw [hx] at h2; rw [← Option.some.inj h2]; exact he)
        clear he hx hS
        go_wp2
        go_round
        case rel => exact ⟨i + 1, by omega, by first | rfl | rw [← w9], HN2⟩
        case measure => simp [intOf]; omega
    · have HE := Lib.hid (rlook_end (T := T) (n := n) (fun j y h1 h2 => hno.out j y (by omega) h2))
      have hge : ¬ i < T.length := hlt
      clear hS
      go_wp2
      go_ret2
      exact ⟨by rw [strOut_no (HOUT.out HE.out)]; rfl, hb1⟩
set_option maxHeartbeats 2000000 in
theorem rname_6hi (n : Int) (w : World) (h : 32767 < n) :
    Calls Tryd.prog 16 #[.int .i64 6, .int .i64 n] w fun e w' => e = strOut (nameOf 6 n) ∧ Below w.heap.size w w' := by
  have hTl := tbl_len 6
  have HIN := Lib.hid (fun x (h : rlook (tbl 6) n = some x) => nameOf_in h)
  have HOUT := Lib.hid (fun (h' : rlook (tbl 6) n = none) => nameOf_out h' (by omega))
  have HRT := Lib.hid (rtbl_of (k := 6) (by decide))
  have hge6 : 32768 ≤ n := by omega
  have h0 : 0 ≤ n := by omega
  obtain ⟨T, hT⟩ : ∃ T, tbl 6 = T := ⟨_, rfl⟩
  rw [hT] at hTl HIN HRT HOUT
  clear hT
  have TB := Lib.hid (fun w => table_any 6 w)
  go_enter Tryd.func16, Tryd.ntmps16
  go_wp2_with fail
  refine (TB.out _).mono ?_
  rintro e w1 ⟨v, rfl, hS, hb1⟩
  rw [HRT.out] at hS
  have LV := slice_len hS
  go_wp2_with fail
  go_loop [7] (fun iv => ∃ i : Nat, i ≤ T.length ∧ iv = .int .i64 (i : Int) ∧ Hid (∀ j y, j < i → T[j]? = some y → (y.2 : Int) ≠ n)) (fun iv => T.length - (intOf iv).toNat)
  case atStart => exact ⟨0, Nat.zero_le _, rfl, Lib.hid (fun j y h => by omega)⟩
  case round =>
    obtain ⟨i, hi, rfl, hno⟩ := hrel
    by_cases hlt : i < T.length
    · obtain ⟨g, cap, x, hx, rfl, d0, d1⟩ := slice_at hS hlt
      have w9 : IntKind.i64.wrap ((i : Int) + 1) = ((i + 1 : Nat) : Int) := by rw [IntWalk.i64_in _ (by omega)]; omega
      have hlti : (i : Int) < (T.length : Int) := by omega
      by_cases he : (x.2 : Int) = n
      · have HE := Lib.hid (rlook_at hx hno.out he)
        have hee : ((x.2 : Int) == n) = true := by simp [he]
        clear he hx hS LV
        go_wp2
        go_ret2
        exact ⟨by rw [strOut_yes (HIN.out _ HE.out)]; rfl, hb1⟩
      · have hne : ((x.2 : Int) == n) = false := by simp [he]
        have HN2 := Lib.hid (show ∀ j y, j < i + 1 → T[j]? = some y → (y.2 : Int) ≠ n by
          intro j y h1 h2
          rcases Nat.lt_or_ge j i with g | g
          · exact hno.out j y g h2
          · obtain rfl : j = i := by omega
            rw [hx] at h2; rw [← Option.some.inj h2]; exact he)
        clear he hx hS
        go_wp2
        go_round
        case rel => exact ⟨i + 1, by omega, by first | rfl | rw [← w9], HN2⟩
        case measure => simp [intOf]; omega
    · have HE := Lib.hid (rlook_end (T := T) (n := n) (fun j y h1 h2 => hno.out j y (by omega) h2))
      have hge : ¬ i < T.length := hlt
      clear hS
      go_wp2
      go_ret2
      exact ⟨by rw [strOut_no (HOUT.out HE.out)]; rfl, hb1⟩
theorem form_cat {n : Int} {D0 D1 D2 D3 D4 : ByteArray} (h0 : 0 ≤ n) (x0 : D0.data.toList = dd (n / 16384 + 2).toNat) (x1 : D1.data.toList = dd (n / 2048 % 8).toNat) (x2 : D2.data.toList = dd (n / 128 % 16).toNat) (x3 : D3.data.toList = dd (n / 8 % 16).toNat) (x4 : D4.data.toList = dd (n % 8).toNat) :
    ((⟨#[115]⟩ : ByteArray) ++ D0 ++ ⟨#[95]⟩ ++ D1 ++ ⟨#[95, 99]⟩ ++ D2 ++ ⟨#[95, 99]⟩ ++ D3 ++ ⟨#[95]⟩ ++ D4).data.toList = sysText n.toNat := by
  simp only [app_data, x0, x1, x2, x3, x4]
  unfold sysText
  have e0 : (n / 16384 + 2).toNat = n.toNat / 16384 + 2 := by omega
  have e1 : (n / 2048 % 8).toNat = n.toNat / 2048 % 8 := by omega
  have e2 : (n / 128 % 16).toNat = n.toNat / 128 % 16 := by omega
  have e3 : (n / 8 % 16).toNat = n.toNat / 8 % 16 := by omega
  have e4 : (n % 8).toNat = n.toNat % 8 := by omega
  rw [e0, e1, e2, e3, e4]
  simp [joinU]
theorem text_D (m : Int) (h0 : 0 ≤ m) (h1 : m < 100) : ∃ D : ByteArray, D.data.toList = dd m.toNat ∧ D.size ≤ 2 ∧ ∀ w : World, Calls Tryd.prog 25 #[.int .i64 m] w fun e w' => ∃ q, e = .returned (.string D) ∧ w' = w.drewN q := by
  obtain ⟨n, rfl⟩ : ∃ n : Nat, m = (n : Int) := ⟨m.toNat, by omega⟩
  exact ⟨⟨(dd n).toArray⟩, by rw [Int.toNat_natCast], (dd_len n).2, fun w => text_any n w (by omega)⟩
set_option maxRecDepth 100000 in
set_option maxHeartbeats 2000000 in
theorem rname_6in (n : Int) (w : World) (h0 : 0 ≤ n) (h1 : n < 32768) :
    Calls Tryd.prog 16 #[.int .i64 6, .int .i64 n] w fun e w' => e = strOut (nameOf 6 n) ∧ Below w.heap.size w w' := by
  have hTl := tbl_len 6
  have HIN := Lib.hid (fun x (h : rlook (tbl 6) n = some x) => nameOf_in h)
  have HF := Lib.hid (fun (h' : rlook (tbl 6) n = none) => show nameOf 6 n = some (sysText n.toNat) by
    have e : ((n.toNat : Nat) : Int) = n := by omega
    rw [← e] at h' ⊢
    rw [Int.toNat_natCast]
    exact nameOf_form h' (by omega))
  have HRT := Lib.hid (rtbl_of (k := 6) (by decide))
  obtain ⟨T, hT⟩ : ∃ T, tbl 6 = T := ⟨_, rfl⟩
  rw [hT] at hTl HIN HRT HF
  have m0 : 0 ≤ n / 16384 := by omega
  have m1 : n / 16384 ≤ 1 := by omega
  have m2 : 0 ≤ n / 2048 := by omega
  have m3 : 0 ≤ n / 128 := by omega
  have m4 : 0 ≤ n / 8 := by omega
  obtain ⟨D0, x0, z0, t0⟩ := text_D (n / 16384 + 2) (by omega) (by omega)
  obtain ⟨D1, x1, z1, t1⟩ := text_D (n / 2048 % 8) (by omega) (by omega)
  obtain ⟨D2, x2, z2, t2⟩ := text_D (n / 128 % 16) (by omega) (by omega)
  obtain ⟨D3, x3, z3, t3⟩ := text_D (n / 8 % 16) (by omega) (by omega)
  obtain ⟨D4, x4, z4, t4⟩ := text_D (n % 8) (by omega) (by omega)
  have T0 := Lib.hid t0
  have T1 := Lib.hid t1
  have T2 := Lib.hid t2
  have T3 := Lib.hid t3
  have T4 := Lib.hid t4
  have X := Lib.hid (show _ ∧ _ ∧ _ ∧ _ ∧ _ from ⟨x0, x1, x2, x3, x4⟩)
  clear hT t0 t1 t2 t3 t4 x0 x1 x2 x3 x4
  have TB := Lib.hid (fun w => table_any 6 w)
  go_enter Tryd.func16, Tryd.ntmps16
  go_wp2_with fail
  refine (TB.out _).mono ?_
  rintro e w1 ⟨v, rfl, hS, hb1⟩
  rw [HRT.out] at hS
  have LV := slice_len hS
  go_wp2_with fail
  go_loop [7] (fun iv => ∃ i : Nat, i ≤ T.length ∧ iv = .int .i64 (i : Int) ∧ Hid (∀ j y, j < i → T[j]? = some y → (y.2 : Int) ≠ n)) (fun iv => T.length - (intOf iv).toNat)
  case atStart => exact ⟨0, Nat.zero_le _, rfl, Lib.hid (fun j y h => by omega)⟩
  case round =>
    obtain ⟨i, hi, rfl, hno⟩ := hrel
    by_cases hlt : i < T.length
    · obtain ⟨g, cap, x, hx, rfl, d0, d1⟩ := slice_at hS hlt
      have w9 : IntKind.i64.wrap ((i : Int) + 1) = ((i + 1 : Nat) : Int) := by rw [IntWalk.i64_in _ (by omega)]; omega
      have hlti : (i : Int) < (T.length : Int) := by omega
      by_cases he : (x.2 : Int) = n
      · have HE := Lib.hid (rlook_at hx hno.out he)
        have hee : ((x.2 : Int) == n) = true := by simp [he]
        clear he hx hS LV
        go_wp2
        go_ret2
        exact ⟨by rw [strOut_yes (HIN.out _ HE.out)]; rfl, hb1⟩
      · have hne : ((x.2 : Int) == n) = false := by simp [he]
        have HN2 := Lib.hid (show ∀ j y, j < i + 1 → T[j]? = some y → (y.2 : Int) ≠ n by
          intro j y h1 h2
          rcases Nat.lt_or_ge j i with g | g
          · exact hno.out j y g h2
          · obtain rfl : j = i := by omega
            rw [hx] at h2; rw [← Option.some.inj h2]; exact he)
        clear he hx hS
        go_wp2
        go_round
        case rel => exact ⟨i + 1, by omega, by first | rfl | rw [← w9], HN2⟩
        case measure => simp [intOf]; omega
    · have HE := Lib.hid (rlook_end (T := T) (n := n) (fun j y h1 h2 => hno.out j y (by omega) h2))
      have hge : ¬ i < T.length := hlt
      clear hS
      go_wp2_with fail
      refine (T0.out _).mono ?_
      rintro e w2 ⟨q0, rfl, rfl⟩
      go_wp2_with fail
      refine (T1.out _).mono ?_
      rintro e w2 ⟨q1, rfl, rfl⟩
      go_wp2_with fail
      refine (T2.out _).mono ?_
      rintro e w2 ⟨q2, rfl, rfl⟩
      go_wp2_with fail
      refine (T3.out _).mono ?_
      rintro e w2 ⟨q3, rfl, rfl⟩
      go_wp2_with fail
      refine (T4.out _).mono ?_
      rintro e w2 ⟨q4, rfl, rfl⟩
      go_wp2_with fail
      go_ret2
      refine ⟨(strOut_b (HF.out HE.out) ?_).symm, below_drewN hb1 _⟩
      obtain ⟨x0, x1, x2, x3, x4⟩ := X.out
      exact form_cat h0 x0 x1 x2 x3 x4
theorem rname_any (k n : Int) (w : World) :
    Calls Tryd.prog 16 #[.int .i64 k, .int .i64 n] w fun e w' => e = strOut (nameOf k n) ∧ Below w.heap.size w w' := by
  by_cases h1 : k = 1
  · subst h1; exact rname_1 n w
  by_cases h6 : k = 6
  · subst h6
    by_cases g : n < 0
    · exact rname_6lo n w g
    by_cases g2 : 32767 < n
    · exact rname_6hi n w g2
    exact rname_6in n w (by omega) (by omega)
  exact rname_x k n w h1 h6
end Go.Proofs.YtefglodkcddgiaaDoor
