/-
  What each call of the document's Number and Word returns. Condition: a text of fewer than 2^32 - 15 letters.
-/
import Derived.Test.YtefglodkcddgiaaDoorNamesT
namespace Go.Proofs.YtefglodkcddgiaaDoor
open Go.RowKit Go.Shelf

theorem slice_len {W : World} {v : Value} {T : List NRow} (h : SliceOf W v T) (V' : World) : Sem.run Tryd.prog (Builtin.len_ #[37] 3 #[v]) V' = .ok (.int .i64 (T.length : Int)) V' := by
  rcases h with ⟨h, h0⟩ | ⟨g, cap, h, _⟩
  · rw [h0, h]; simp [Builtin.len_, go_sem]
  · rw [h]; simp [Builtin.len_, go_sem]
theorem slice_at {W : World} {v : Value} {T : List NRow} (h : SliceOf W v T) {k : Nat} (hk : k < T.length) : ∃ g cap x, T[k]? = some x ∧ v = .slice (some ⟨g, 0, none⟩) T.length cap ∧ W.cell? ⟨g, k * 2, none⟩ = some (.string ⟨x.1.toArray⟩) ∧ W.cell? ⟨g, k * 2 + 1, none⟩ = some (.int .i64 (x.2 : Int)) := by
  rcases h with ⟨_, h0⟩ | ⟨g, cap, h, _, hc⟩
  · rw [h0] at hk; cases hk
  · obtain ⟨x, hx⟩ : ∃ x, T[k]? = some x := ⟨_, List.getElem?_eq_getElem hk⟩
    obtain ⟨a, b⟩ := hc k x hx
    exact ⟨g, cap, x, hx, h, a, b⟩
theorem tbl_len (k : Int) : (tbl k).length ≤ 66 := (allT_rise _ (tbl_mem k)).2.2
theorem rtbl_of {k : Int} (h : k ≠ 1) : rtbl k = tbl k := by unfold rtbl; rw [if_neg h]
theorem look_at {T : List NRow} {k : Nat} {x : NRow} {s : List UInt8} (hx : T[k]? = some x) (hn : ∀ j y, j < k → T[j]? = some y → y.1 ≠ s) (he : x.1 = s) : look T s = some x.2 := by
  have hk : k < T.length := by
    rcases Nat.lt_or_ge k T.length with g | g
    · exact g
    · rw [List.getElem?_eq_none g] at hx; cases hx
  refine look_yes (pre := T.take k) ?_ (fun r hr => ?_) he
  · refine ⟨T.drop (k + 1), ?_⟩
    have : T[k] = x := by rw [List.getElem?_eq_getElem hk] at hx; exact Option.some.inj hx
    rw [← this, List.append_assoc, List.singleton_append, ← List.drop_eq_getElem_cons hk, List.take_append_drop]
  · obtain ⟨j, hj, hg⟩ := List.getElem_of_mem hr
    rw [List.length_take] at hj
    exact hn j r (by omega) (by rw [← hg, List.getElem_take, List.getElem?_eq_getElem])
theorem look_end {T : List NRow} {s : List UInt8} (hn : ∀ j y, j < T.length → T[j]? = some y → y.1 ≠ s) : look T s = none := by
  refine look_no fun r hr => ?_
  obtain ⟨j, hj, hg⟩ := List.getElem_of_mem hr
  exact hn j r hj (by rw [List.getElem?_eq_getElem hj, hg])

set_option maxHeartbeats 1000000 in
theorem rnumber_1 (s : ByteArray) (w : World) :
    Calls Tryd.prog 14 #[.int .i64 1, .string s] w fun e w' => e = numOut (numOf 1 s.data.toList) ∧ Below w.heap.size w w' := by
  have R := rreg_any s w
  rw [numOf_1]
  cases hl : look regT s.data.toList with
  | some m =>
    have hm := regT_lt _ (look_mem hl)
    rw [regOut_yes hl] at R
    have N := Lib.hid (fun w => rregNumber_any (regN m) (regX m) (regP m) w (regN_bd m).1 (by have := (regN_bd m).2; omega))
    rw [reg_num m hm] at N
    have R' := Lib.hid R
    clear R hl hm
    go_enter Tryd.func14, Tryd.ntmps14
    go_wp2_with fail
    refine R'.out.mono ?_
    rintro e w1 ⟨rfl, hb⟩
    go_wp2_with fail
    refine (N.out _).mono ?_
    rintro e w2 ⟨rfl, hb2⟩
    go_wp2_with fail
    go_ret2
    exact ⟨rfl, (Below.thn hb hb.size ((Below.refl _ _).alloc (Nat.le_refl _) _)).trans (hb2.mono (by have := hb.size; simp; omega))⟩
  | none =>
    rw [out_none hl] at R
    have R' := Lib.hid R
    clear R hl
    go_enter Tryd.func14, Tryd.ntmps14
    go_wp2_with fail
    refine R'.out.mono ?_
    rintro e w1 ⟨rfl, hb⟩
    go_wp2_with fail
    go_ret2
    exact ⟨rfl, Below.thn hb hb.size ((Below.refl _ _).alloc (Nat.le_refl _) _)⟩
set_option maxHeartbeats 2000000 in
theorem rnumber_x (k : Int) (s : ByteArray) (w : World) (hs : s.size < 4294967281) (h1 : k ≠ 1) (h2 : k ≠ 2) (h6 : k ≠ 6) :
    Calls Tryd.prog 14 #[.int .i64 k, .string s] w fun e w' => e = numOut (numOf k s.data.toList) ∧ Below w.heap.size w w' := by
  have b1 : (k == 1) = false := by simp [h1]
  have b2 : (k == 2) = false := by simp [h2]
  have b6 : (k == 6) = false := by simp [h6]
  have hTl := tbl_len k
  have HIN := Lib.hid (fun n (h : look (tbl k) s.data.toList = some n) => numOf_in h2 h)
  have HOUT := Lib.hid (fun (h : look (tbl k) s.data.toList = none) => numOf_out h2 h6 h)
  have HRT := Lib.hid (rtbl_of h1)
  generalize tbl k = T at *
  clear h1 h2 h6
  have TB := Lib.hid (fun w => table_any k w)
  go_enter Tryd.func14, Tryd.ntmps14
  go_wp2_with fail
  refine (TB.out _).mono ?_
  rintro e w1 ⟨v, rfl, hS, hb1⟩
  rw [HRT.out] at hS
  have LV := slice_len hS
  go_wp2_with fail
  go_loop [9] (fun iv => ∃ i : Nat, i ≤ T.length ∧ iv = .int .i64 (i : Int) ∧ Hid (∀ j y, j < i → T[j]? = some y → y.1 ≠ s.data.toList)) (fun iv => T.length - (intOf iv).toNat)
  case atStart => exact ⟨0, Nat.zero_le _, rfl, Lib.hid (fun j y h => by omega)⟩
  case round =>
    obtain ⟨i, hi, rfl, hno⟩ := hrel
    by_cases hlt : i < T.length
    · obtain ⟨g, cap, x, hx, rfl, d0, d1⟩ := slice_at hS hlt
      have w9 : IntKind.i64.wrap ((i : Int) + 1) = ((i + 1 : Nat) : Int) := by rw [IntWalk.i64_in _ (by omega)]; omega
      obtain ⟨D, hD⟩ : ∃ D, (⟨x.1.toArray⟩ : ByteArray) = D := ⟨_, rfl⟩
      rw [hD] at d0
      have hlti : (i : Int) < (T.length : Int) := by omega
      by_cases he : x.1 = s.data.toList
      · have HE := Lib.hid (look_at hx hno.out he)
        obtain rfl : D = s := by rw [← hD]; exact bytes_eq he
        clear hD he hx hS LV
        go_wp2
        go_ret2
        exact ⟨by rw [numOut_yes (HIN.out _ HE.out)]; rfl, hb1⟩
      · have hne : (D.toList == s.toList) = false := by
          rw [beq_eq_false_iff_ne]; intro e
          rw [ByteArray.toList_eq, ByteArray.toList_eq, ← hD] at e
          exact he e
        have HN2 := Lib.hid (show ∀ j y, j < i + 1 → T[j]? = some y → y.1 ≠ s.data.toList by
          intro j y h1 h2
          rcases Nat.lt_or_ge j i with g | g
          · exact hno.out j y g h2
          · obtain rfl : j = i := by omega
            rw [hx] at h2; rw [← Option.some.inj h2]; exact he)
        clear hD he hx hS
        go_wp2
        go_round
        case rel => exact ⟨i + 1, by omega, by first | rfl | rw [← w9], HN2⟩
        case measure => simp [intOf]; omega
    · have HE := Lib.hid (look_end (T := T) (s := s.data.toList) (fun j y h1 h2 => hno.out j y (by omega) h2))
      have hge : ¬ i < T.length := hlt
      have RN := Lib.hid (rnum_any s w1 hs)
      clear hS
      go_wp2_with fail
      refine RN.out.mono ?_
      rintro e w2 ⟨u, b, rfl, hR, hb2⟩
      have HR := Lib.hid hR
      clear hR
      go_wp2_with fail
      go_ret2
      exact ⟨by rw [numOut_no (HOUT.out HE.out)]; rfl, Below.thn hb1 hb1.size hb2⟩
set_option maxHeartbeats 2000000 in
theorem rnumber_6 (s : ByteArray) (w : World) (hs : s.size < 4294967281) :
    Calls Tryd.prog 14 #[.int .i64 6, .string s] w fun e w' => e = numOut (numOf 6 s.data.toList) ∧ Below w.heap.size w w' := by
  have hTl := tbl_len 6
  have HIN := Lib.hid (fun n (h : look (tbl 6) s.data.toList = some n) => numOf_in (k := 6) (by decide) h)
  have HRT := Lib.hid (rtbl_of (k := 6) (by decide))
  have H6T := Lib.hid (show tbl 6 = sysT from rfl)
  obtain ⟨T, hT⟩ : ∃ T, tbl 6 = T := ⟨_, rfl⟩
  rw [hT] at hTl HIN HRT H6T
  clear hT
  have TB := Lib.hid (fun w => table_any 6 w)
  go_enter Tryd.func14, Tryd.ntmps14
  go_wp2_with fail
  refine (TB.out _).mono ?_
  rintro e w1 ⟨v, rfl, hS, hb1⟩
  rw [HRT.out] at hS
  have LV := slice_len hS
  go_wp2_with fail
  go_loop [9] (fun iv => ∃ i : Nat, i ≤ T.length ∧ iv = .int .i64 (i : Int) ∧ Hid (∀ j y, j < i → T[j]? = some y → y.1 ≠ s.data.toList)) (fun iv => T.length - (intOf iv).toNat)
  case atStart => exact ⟨0, Nat.zero_le _, rfl, Lib.hid (fun j y h => by omega)⟩
  case round =>
    obtain ⟨i, hi, rfl, hno⟩ := hrel
    by_cases hlt : i < T.length
    · obtain ⟨g, cap, x, hx, rfl, d0, d1⟩ := slice_at hS hlt
      have w9 : IntKind.i64.wrap ((i : Int) + 1) = ((i + 1 : Nat) : Int) := by rw [IntWalk.i64_in _ (by omega)]; omega
      obtain ⟨D, hD⟩ : ∃ D, (⟨x.1.toArray⟩ : ByteArray) = D := ⟨_, rfl⟩
      rw [hD] at d0
      have hlti : (i : Int) < (T.length : Int) := by omega
      by_cases he : x.1 = s.data.toList
      · have HE := Lib.hid (look_at hx hno.out he)
        obtain rfl : D = s := by rw [← hD]; exact bytes_eq he
        clear hD he hx hS LV
        go_wp2
        go_ret2
        exact ⟨by rw [numOut_yes (HIN.out _ HE.out)]; rfl, hb1⟩
      · have hne : (D.toList == s.toList) = false := by
          rw [beq_eq_false_iff_ne]; intro e
          rw [ByteArray.toList_eq, ByteArray.toList_eq, ← hD] at e
          exact he e
        have HN2 := Lib.hid (show ∀ j y, j < i + 1 → T[j]? = some y → y.1 ≠ s.data.toList by
          intro j y h1 h2
          rcases Nat.lt_or_ge j i with g | g
          · exact hno.out j y g h2
          · obtain rfl : j = i := by omega
            rw [hx] at h2; rw [← Option.some.inj h2]; exact he)
        clear hD he hx hS
        go_wp2
        go_round
        case rel => exact ⟨i + 1, by omega, by first | rfl | rw [← w9], HN2⟩
        case measure => simp [intOf]; omega
    · have HE := Lib.hid (look_end (T := T) (s := s.data.toList) (fun j y h1 h2 => hno.out j y (by omega) h2))
      have hge : ¬ i < T.length := hlt
      have RN := Lib.hid (rnum_any s w1 hs)
      clear hS
      go_wp2_with fail
      refine RN.out.mono ?_
      rintro e w2 ⟨u, b, rfl, hR, hb2⟩
      have HR := Lib.hid hR
      clear hR
      rcases HR.out with ⟨rfl, n, h6, rfl⟩ | ⟨rfl, h6⟩
      · have H6 := Lib.hid h6
        clear h6
        go_wp2_with fail
        go_ret2
        exact ⟨by rw [numOf_6 _ (by rw [← H6T.out]; exact HE.out), numOut_yes H6.out]; rfl, Below.thn hb1 hb1.size hb2⟩
      · have H6 := Lib.hid h6
        clear h6
        go_wp2_with fail
        go_ret2
        exact ⟨by rw [numOf_6 _ (by rw [← H6T.out]; exact HE.out), numOut_no H6.out]; rfl, Below.thn hb1 hb1.size hb2⟩
set_option maxHeartbeats 2000000 in
theorem rnumber_hs (w : World) :
    Calls Tryd.prog 14 #[.int .i64 2, .string ⟨#[104, 115]⟩] w fun e w' => e = numOut (numOf 2 (⟨#[104, 115]⟩ : ByteArray).data.toList) ∧ Below w.heap.size w w' := by
  have hTl := tbl_len 2
  have hs : (⟨#[99, 115]⟩ : ByteArray).size < 4294967281 := by decide
  have HIN := Lib.hid (fun n (h : look (tbl 2) (⟨#[99, 115]⟩ : ByteArray).data.toList = some n) => show numOf 2 (⟨#[104, 115]⟩ : ByteArray).data.toList = some n from (numOf_2 _).trans h)
  have HOUT := Lib.hid (fun (h : look (tbl 2) (⟨#[99, 115]⟩ : ByteArray).data.toList = none) => show numOf 2 (⟨#[104, 115]⟩ : ByteArray).data.toList = none from (numOf_2 _).trans h)
  have HRT := Lib.hid (rtbl_of (k := 2) (by decide))
  obtain ⟨T, hT⟩ : ∃ T, tbl 2 = T := ⟨_, rfl⟩
  rw [hT] at hTl HIN HRT HOUT
  clear hT
  have TB := Lib.hid (fun w => table_any 2 w)
  go_enter Tryd.func14, Tryd.ntmps14
  go_wp2_with fail
  refine (TB.out _).mono ?_
  rintro e w1 ⟨v, rfl, hS, hb1⟩
  rw [HRT.out] at hS
  have LV := slice_len hS
  obtain ⟨S, hSd⟩ : ∃ S : ByteArray, (⟨#[99, 115]⟩ : ByteArray) = S := ⟨_, rfl⟩
  have HSD := Lib.hid hSd
  clear hSd
  go_wp2_with fail
  rw [HSD.out]
  go_loop [9] (fun iv => ∃ i : Nat, i ≤ T.length ∧ iv = .int .i64 (i : Int) ∧ Hid (∀ j y, j < i → T[j]? = some y → y.1 ≠ S.data.toList)) (fun iv => T.length - (intOf iv).toNat)
  case atStart => exact ⟨0, Nat.zero_le _, rfl, Lib.hid (fun j y h => by omega)⟩
  case round =>
    obtain ⟨i, hi, rfl, hno⟩ := hrel
    by_cases hlt : i < T.length
    · obtain ⟨g, cap, x, hx, rfl, d0, d1⟩ := slice_at hS hlt
      have w9 : IntKind.i64.wrap ((i : Int) + 1) = ((i + 1 : Nat) : Int) := by rw [IntWalk.i64_in _ (by omega)]; omega
      obtain ⟨D, hD⟩ : ∃ D, (⟨x.1.toArray⟩ : ByteArray) = D := ⟨_, rfl⟩
      rw [hD] at d0
      have hlti : (i : Int) < (T.length : Int) := by omega
      by_cases he : x.1 = S.data.toList
      · have HE := Lib.hid (look_at hx hno.out he)
        obtain rfl : D = S := by rw [← hD]; exact bytes_eq he
        clear hD he hx hS LV
        go_wp2
        go_ret2
        exact ⟨by rw [numOut_yes (HIN.out _ (by have h := HE.out; rw [← HSD.out] at h; exact h))]; rfl, hb1⟩
      · have hne : (D.toList == S.toList) = false := by
          rw [beq_eq_false_iff_ne]; intro e
          rw [ByteArray.toList_eq, ByteArray.toList_eq, ← hD] at e
          exact he e
        have HN2 := Lib.hid (show ∀ j y, j < i + 1 → T[j]? = some y → y.1 ≠ S.data.toList by
          intro j y h1 h2
          rcases Nat.lt_or_ge j i with g | g
          · exact hno.out j y g h2
          · obtain rfl : j = i := by omega
            rw [hx] at h2; rw [← Option.some.inj h2]; exact he)
        clear hD he hx hS
        go_wp2
        go_round
        case rel => exact ⟨i + 1, by omega, by first | rfl | rw [← w9], HN2⟩
        case measure => simp [intOf]; omega
    · have HE := Lib.hid (look_end (T := T) (s := S.data.toList) (fun j y h1 h2 => hno.out j y (by omega) h2))
      have hge : ¬ i < T.length := hlt
      have RN := Lib.hid (rnum_any S w1 (by rw [← HSD.out]; exact hs))
      clear hS
      go_wp2_with fail
      refine RN.out.mono ?_
      rintro e w2 ⟨u, b, rfl, hR, hb2⟩
      have HR := Lib.hid hR
      clear hR
      go_wp2_with fail
      go_ret2
      exact ⟨by rw [numOut_no (HOUT.out (by have h := HE.out; rw [← HSD.out] at h; exact h))]; rfl, Below.thn hb1 hb1.size hb2⟩
set_option maxHeartbeats 2000000 in
theorem rnumber_lo (w : World) :
    Calls Tryd.prog 14 #[.int .i64 2, .string ⟨#[108, 111]⟩] w fun e w' => e = numOut (numOf 2 (⟨#[108, 111]⟩ : ByteArray).data.toList) ∧ Below w.heap.size w w' := by
  have hTl := tbl_len 2
  have hs : (⟨#[99, 99]⟩ : ByteArray).size < 4294967281 := by decide
  have HIN := Lib.hid (fun n (h : look (tbl 2) (⟨#[99, 99]⟩ : ByteArray).data.toList = some n) => show numOf 2 (⟨#[108, 111]⟩ : ByteArray).data.toList = some n from (numOf_2 _).trans h)
  have HOUT := Lib.hid (fun (h : look (tbl 2) (⟨#[99, 99]⟩ : ByteArray).data.toList = none) => show numOf 2 (⟨#[108, 111]⟩ : ByteArray).data.toList = none from (numOf_2 _).trans h)
  have HRT := Lib.hid (rtbl_of (k := 2) (by decide))
  obtain ⟨T, hT⟩ : ∃ T, tbl 2 = T := ⟨_, rfl⟩
  rw [hT] at hTl HIN HRT HOUT
  clear hT
  have TB := Lib.hid (fun w => table_any 2 w)
  go_enter Tryd.func14, Tryd.ntmps14
  go_wp2_with fail
  refine (TB.out _).mono ?_
  rintro e w1 ⟨v, rfl, hS, hb1⟩
  rw [HRT.out] at hS
  have LV := slice_len hS
  obtain ⟨S, hSd⟩ : ∃ S : ByteArray, (⟨#[99, 99]⟩ : ByteArray) = S := ⟨_, rfl⟩
  have HSD := Lib.hid hSd
  clear hSd
  go_wp2_with fail
  rw [HSD.out]
  go_loop [9] (fun iv => ∃ i : Nat, i ≤ T.length ∧ iv = .int .i64 (i : Int) ∧ Hid (∀ j y, j < i → T[j]? = some y → y.1 ≠ S.data.toList)) (fun iv => T.length - (intOf iv).toNat)
  case atStart => exact ⟨0, Nat.zero_le _, rfl, Lib.hid (fun j y h => by omega)⟩
  case round =>
    obtain ⟨i, hi, rfl, hno⟩ := hrel
    by_cases hlt : i < T.length
    · obtain ⟨g, cap, x, hx, rfl, d0, d1⟩ := slice_at hS hlt
      have w9 : IntKind.i64.wrap ((i : Int) + 1) = ((i + 1 : Nat) : Int) := by rw [IntWalk.i64_in _ (by omega)]; omega
      obtain ⟨D, hD⟩ : ∃ D, (⟨x.1.toArray⟩ : ByteArray) = D := ⟨_, rfl⟩
      rw [hD] at d0
      have hlti : (i : Int) < (T.length : Int) := by omega
      by_cases he : x.1 = S.data.toList
      · have HE := Lib.hid (look_at hx hno.out he)
        obtain rfl : D = S := by rw [← hD]; exact bytes_eq he
        clear hD he hx hS LV
        go_wp2
        go_ret2
        exact ⟨by rw [numOut_yes (HIN.out _ (by have h := HE.out; rw [← HSD.out] at h; exact h))]; rfl, hb1⟩
      · have hne : (D.toList == S.toList) = false := by
          rw [beq_eq_false_iff_ne]; intro e
          rw [ByteArray.toList_eq, ByteArray.toList_eq, ← hD] at e
          exact he e
        have HN2 := Lib.hid (show ∀ j y, j < i + 1 → T[j]? = some y → y.1 ≠ S.data.toList by
          intro j y h1 h2
          rcases Nat.lt_or_ge j i with g | g
          · exact hno.out j y g h2
          · obtain rfl : j = i := by omega
            rw [hx] at h2; rw [← Option.some.inj h2]; exact he)
        clear hD he hx hS
        go_wp2
        go_round
        case rel => exact ⟨i + 1, by omega, by first | rfl | rw [← w9], HN2⟩
        case measure => simp [intOf]; omega
    · have HE := Lib.hid (look_end (T := T) (s := S.data.toList) (fun j y h1 h2 => hno.out j y (by omega) h2))
      have hge : ¬ i < T.length := hlt
      have RN := Lib.hid (rnum_any S w1 (by rw [← HSD.out]; exact hs))
      clear hS
      go_wp2_with fail
      refine RN.out.mono ?_
      rintro e w2 ⟨u, b, rfl, hR, hb2⟩
      have HR := Lib.hid hR
      clear hR
      go_wp2_with fail
      go_ret2
      exact ⟨by rw [numOut_no (HOUT.out (by have h := HE.out; rw [← HSD.out] at h; exact h))]; rfl, Below.thn hb1 hb1.size hb2⟩
set_option maxHeartbeats 2000000 in
theorem rnumber_2 (s : ByteArray) (w : World) (hs : s.size < 4294967281) (h1 : s ≠ ⟨#[104, 115]⟩) (h2 : s ≠ ⟨#[108, 111]⟩) :
    Calls Tryd.prog 14 #[.int .i64 2, .string s] w fun e w' => e = numOut (numOf 2 s.data.toList) ∧ Below w.heap.size w w' := by
  have hTl := tbl_len 2
  have hu : usualS s.data.toList = s.data.toList := by
    unfold usualS
    rw [if_neg (fun e => h1 (bytes_eq e)), if_neg (fun e => h2 (bytes_eq e))]
  have g1 : (s.toList == [104, 115]) = false := lit_no h1
  have g2 : (s.toList == [108, 111]) = false := lit_no h2
  have HIN := Lib.hid (fun n (h : look (tbl 2) s.data.toList = some n) => show numOf 2 s.data.toList = some n from (numOf_2 _).trans (by rw [hu]; exact h))
  have HOUT := Lib.hid (fun (h : look (tbl 2) s.data.toList = none) => show numOf 2 s.data.toList = none from (numOf_2 _).trans (by rw [hu]; exact h))
  have HRT := Lib.hid (rtbl_of (k := 2) (by decide))
  obtain ⟨T, hT⟩ : ∃ T, tbl 2 = T := ⟨_, rfl⟩
  rw [hT] at hTl HIN HRT HOUT
  clear hT h1 h2 hu
  have TB := Lib.hid (fun w => table_any 2 w)
  go_enter Tryd.func14, Tryd.ntmps14
  go_wp2_with fail
  refine (TB.out _).mono ?_
  rintro e w1 ⟨v, rfl, hS, hb1⟩
  rw [HRT.out] at hS
  have LV := slice_len hS
  go_wp2_with fail
  go_loop [9] (fun iv => ∃ i : Nat, i ≤ T.length ∧ iv = .int .i64 (i : Int) ∧ Hid (∀ j y, j < i → T[j]? = some y → y.1 ≠ s.data.toList)) (fun iv => T.length - (intOf iv).toNat)
  case atStart => exact ⟨0, Nat.zero_le _, rfl, Lib.hid (fun j y h => by omega)⟩
  case round =>
    obtain ⟨i, hi, rfl, hno⟩ := hrel
    by_cases hlt : i < T.length
    · obtain ⟨g, cap, x, hx, rfl, d0, d1⟩ := slice_at hS hlt
      have w9 : IntKind.i64.wrap ((i : Int) + 1) = ((i + 1 : Nat) : Int) := by rw [IntWalk.i64_in _ (by omega)]; omega
      obtain ⟨D, hD⟩ : ∃ D, (⟨x.1.toArray⟩ : ByteArray) = D := ⟨_, rfl⟩
      rw [hD] at d0
      have hlti : (i : Int) < (T.length : Int) := by omega
      by_cases he : x.1 = s.data.toList
      · have HE := Lib.hid (look_at hx hno.out he)
        obtain rfl : D = s := by rw [← hD]; exact bytes_eq he
        clear hD he hx hS LV
        go_wp2
        go_ret2
        exact ⟨by rw [numOut_yes (HIN.out _ HE.out)]; rfl, hb1⟩
      · have hne : (D.toList == s.toList) = false := by
          rw [beq_eq_false_iff_ne]; intro e
          rw [ByteArray.toList_eq, ByteArray.toList_eq, ← hD] at e
          exact he e
        have HN2 := Lib.hid (show ∀ j y, j < i + 1 → T[j]? = some y → y.1 ≠ s.data.toList by
          intro j y h1 h2
          rcases Nat.lt_or_ge j i with g | g
          · exact hno.out j y g h2
          · obtain rfl : j = i := by omega
            rw [hx] at h2; rw [← Option.some.inj h2]; exact he)
        clear hD he hx hS
        go_wp2
        go_round
        case rel => exact ⟨i + 1, by omega, by first | rfl | rw [← w9], HN2⟩
        case measure => simp [intOf]; omega
    · have HE := Lib.hid (look_end (T := T) (s := s.data.toList) (fun j y h1 h2 => hno.out j y (by omega) h2))
      have hge : ¬ i < T.length := hlt
      have RN := Lib.hid (rnum_any s w1 hs)
      clear hS
      go_wp2_with fail
      refine RN.out.mono ?_
      rintro e w2 ⟨u, b, rfl, hR, hb2⟩
      have HR := Lib.hid hR
      clear hR
      go_wp2_with fail
      go_ret2
      exact ⟨by rw [numOut_no (HOUT.out HE.out)]; rfl, Below.thn hb1 hb1.size hb2⟩
theorem rnumber_any (k : Int) (s : ByteArray) (w : World) (hs : s.size < 4294967281) :
    Calls Tryd.prog 14 #[.int .i64 k, .string s] w fun e w' => e = numOut (numOf k s.data.toList) ∧ Below w.heap.size w w' := by
  by_cases h1 : k = 1
  · subst h1; exact rnumber_1 s w
  by_cases h2 : k = 2
  · subst h2
    by_cases g1 : s = ⟨#[104, 115]⟩
    · subst g1; exact rnumber_hs w
    by_cases g2 : s = ⟨#[108, 111]⟩
    · subst g2; exact rnumber_lo w
    exact rnumber_2 s w hs g1 g2
  by_cases h6 : k = 6
  · subst h6; exact rnumber_6 s w hs
  exact rnumber_x k s w hs h1 h2 h6
set_option maxHeartbeats 1000000 in
theorem rword_any (s : ByteArray) (w : World) (hs : s.size < 4294967281) :
    Calls Tryd.prog 18 #[.string s] w fun e w' => e = .returned (.bool (wordOf s.data.toList)) ∧ Below w.heap.size w w' := by
  have NA := Lib.hid (fun k w => rnumber_any k s w hs)
  clear hs
  go_enter Tryd.func18, Tryd.ntmps18
  go_wp2
  go_loopw [3] (fun iv wr => ∃ k : Nat, 1 ≤ k ∧ k ≤ 9 ∧ iv = .int .i64 (k : Int) ∧ Hid (wordOf s.data.toList = wordFrom s.data.toList k) ∧ Below w.heap.size w wr) (fun iv _ => 9 - (intOf iv).toNat)
  case atStart => exact ⟨1, by decide, by decide, rfl, Lib.hid rfl, Below.refl _ _⟩
  case round =>
    obtain ⟨k, hk1, hk, rfl, hw, hbr⟩ := hrel
    by_cases hlt : (k : Int) ≤ 8
    · have N := NA.out (k : Int) wr
      have w9 : IntKind.i64.wrap ((k : Int) + 1) = ((k + 1 : Nat) : Int) := by rw [IntWalk.i64_in _ (by omega)]; omega
      cases h : numOf (k : Int) s.data.toList with
      | some n =>
        rw [numOut_yes h] at N
        have HW := Lib.hid (hw.out.trans (wordFrom_yes (by omega) h))
        have N' := Lib.hid N
        clear N h
        go_wp2_with fail
        refine N'.out.mono ?_
        rintro e w1 ⟨rfl, hb⟩
        go_wp2_with fail
        go_ret
        exact ⟨by rw [HW.out]; rfl, Below.thn hbr hbr.size hb⟩
      | none =>
        rw [numOut_no h] at N
        have HW := Lib.hid (hw.out.trans (wordFrom_no h))
        have N' := Lib.hid N
        clear N h
        go_wp2_with fail
        refine N'.out.mono ?_
        rintro e w1 ⟨rfl, hb⟩
        go_wp2_with fail
        go_roundw
        case rel => exact ⟨k + 1, by omega, by omega, by first | rfl | rw [← w9], HW, Below.thn hbr hbr.size hb⟩
        case measure => simp [intOf]; omega
    · have hk9 : k = 9 := by omega
      have HW := Lib.hid (show wordOf s.data.toList = false by rw [hw.out, hk9, wordFrom_end])
      have hge : ¬ (k : Int) ≤ 8 := by omega
      clear hk9
      go_wp2
      go_ret
      exact ⟨by rw [HW.out]; rfl, hbr⟩
end Go.Proofs.YtefglodkcddgiaaDoor
