/-
  What each call of the program's Number and Word returns. Conditions: what the package-level variables hold (Good), and a text of fewer than 2^32 - 15 letters.
-/
import Derived.Test.YtefglodkcddgiaaDoorNamesN
namespace Go.Proofs.YtefglodkcddgiaaDoor
open Go.RowKit Go.Shelf

theorem numOf_1 (s : List UInt8) : numOf 1 s = look regT s := by
  unfold numOf
  rw [if_neg (by decide), show tbl 1 = regT from rfl]
  cases look regT s <;> rfl
theorem numOf_2 (s : List UInt8) : numOf 2 s = look condT (usualS s) := by
  unfold numOf
  rw [if_pos rfl, show tbl 2 = condT from rfl]
  cases look condT (usualS s) <;> rfl
theorem numOf_6 (s : List UInt8) (h : look sysT s = none) : numOf 6 s = sysLook s := by
  unfold numOf
  rw [if_neg (by decide), show tbl 6 = sysT from rfl, h]; rfl
theorem numOf_in {k : Int} {s : List UInt8} {n : Nat} (h2 : k ≠ 2) (h : look (tbl k) s = some n) : numOf k s = some n := by
  unfold numOf; rw [if_neg h2, h]
theorem numOf_out {k : Int} {s : List UInt8} (h2 : k ≠ 2) (h6 : k ≠ 6) (h : look (tbl k) s = none) : numOf k s = none := by
  unfold numOf; rw [if_neg h2, h]; simp only [if_neg h6]
theorem numOut_yes {o : Option Nat} {n : Nat} (h : o = some n) : numOut o = .returned (.tuple #[.int .i64 (n : Int), .int .i64 0]) := by subst h; rfl
theorem numOut_no {o : Option Nat} (h : o = none) : numOut o = .returned (.tuple #[.int .i64 0, .int .i64 30]) := by subst h; rfl
theorem regOut_yes {s : List UInt8} {m : Nat} (h : look regT s = some m) : regOut s = .returned (.tuple #[.agg #[.int .i64 (regN m), .bool (regX m), .bool (regP m)], .int .i64 0]) := by unfold regOut; rw [h]; rfl
theorem regN_bd (m : Nat) : 0 ≤ regN m ∧ regN m < 32 := by unfold regN; omega

set_option maxHeartbeats 1000000 in
theorem number_1 (s : ByteArray) (w : World) (hG : Good w) (hs : s.size ≤ 281474976710656) :
    Calls Tryd.prog 13 #[.int .i64 1, .string s] w fun e w' => e = numOut (numOf 1 s.data.toList) ∧ Below w.heap.size w w' := by
  have R := reg_any s w hG hs
  rw [numOf_1]
  cases hl : look regT s.data.toList with
  | some m =>
    have hm := regT_lt _ (look_mem hl)
    rw [regOut_yes hl] at R
    have N := Lib.hid (fun w => regNumber_any (regN m) (regX m) (regP m) w (regN_bd m).1 (by have := (regN_bd m).2; omega))
    rw [reg_num m hm] at N
    have R' := Lib.hid R
    clear R hl hm hG hs
    go_enter Tryd.func13, Tryd.ntmps13
    go_wp2_with fail
    refine R'.out.mono ?_
    rintro e w1 ⟨rfl, hb⟩
    go_wp2_with fail
    refine (N.out _).mono ?_
    rintro e w2 ⟨rfl, hb2⟩
    go_wp2_with fail
    go_ret2
    exact ⟨rfl, (Below.thn hb hb.size ((Below.refl _ _).alloc (Nat.le_refl _) _)).trans (hb2.mono (by have := hb.size; simp; omega))⟩
  | none =>
    rw [out_none hl] at R
    have N := Lib.hid (fun w => regNumber_any 0 false false w (by decide) (by decide))
    have R' := Lib.hid R
    clear R hl hG hs
    go_enter Tryd.func13, Tryd.ntmps13
    go_wp2_with fail
    refine R'.out.mono ?_
    rintro e w1 ⟨rfl, hb⟩
    go_wp2_with fail
    refine (N.out _).mono ?_
    rintro e w2 ⟨rfl, hb2⟩
    go_wp2_with fail
    go_ret2
    exact ⟨rfl, (Below.thn hb hb.size ((Below.refl _ _).alloc (Nat.le_refl _) _)).trans (hb2.mono (by have := hb.size; simp; omega))⟩
set_option maxHeartbeats 1000000 in
theorem number_2 (s : ByteArray) (w : World) :
    Calls Tryd.prog 13 #[.int .i64 2, .string s] w fun e w' => e = numOut (numOf 2 s.data.toList) ∧ Below w.heap.size w w' := by
  have F := find_any 2 ⟨(usualS s.data.toList).toArray⟩ w
  rw [show tbl 2 = condT from rfl] at F
  have U := Lib.hid (usual_any s w)
  rw [numOf_2]
  obtain ⟨o, ho⟩ : ∃ o, look condT (usualS s.data.toList) = o := ⟨_, rfl⟩
  rw [show (⟨(usualS s.data.toList).toArray⟩ : ByteArray).data.toList = usualS s.data.toList from rfl, ho] at F
  rw [ho]
  clear ho
  generalize (⟨(usualS s.data.toList).toArray⟩ : ByteArray) = D at *
  have F' := Lib.hid F
  clear F
  unfold numOut at *
  go_enter Tryd.func13, Tryd.ntmps13
  go_wp2_with fail
  refine U.out.mono ?_
  rintro e w1 ⟨rfl, rfl⟩
  go_wp2_with fail
  refine F'.out.mono ?_
  rintro e w2 ⟨rfl, hb⟩
  go_wp2_with fail
  go_ret2
  exact ⟨rfl, hb⟩
set_option maxHeartbeats 1000000 in
theorem number_in (k : Int) (s : ByteArray) (n : Nat) (w : World) (h1 : k ≠ 1) (h2 : k ≠ 2) (h : look (tbl k) s.data.toList = some n) :
    Calls Tryd.prog 13 #[.int .i64 k, .string s] w fun e w' => e = numOut (numOf k s.data.toList) ∧ Below w.heap.size w w' := by
  have F := find_any k s w
  rw [numOut_yes h] at F
  rw [numOut_yes (numOf_in h2 h)]
  have F' := Lib.hid F
  have b1 : (k == 1) = false := by simp [h1]
  have b2 : (k == 2) = false := by simp [h2]
  clear F h h1 h2
  go_enter Tryd.func13, Tryd.ntmps13
  go_wp2_with fail
  refine F'.out.mono ?_
  rintro e w1 ⟨rfl, hb⟩
  go_wp2_with fail
  go_ret2
  exact ⟨rfl, hb⟩
set_option maxHeartbeats 1000000 in
theorem number_out (k : Int) (s : ByteArray) (w : World) (h1 : k ≠ 1) (h2 : k ≠ 2) (h6 : k ≠ 6) (h : look (tbl k) s.data.toList = none) :
    Calls Tryd.prog 13 #[.int .i64 k, .string s] w fun e w' => e = numOut (numOf k s.data.toList) ∧ Below w.heap.size w w' := by
  have F := find_any k s w
  rw [numOut_no h] at F
  rw [numOut_no (numOf_out h2 h6 h)]
  have F' := Lib.hid F
  have b1 : (k == 1) = false := by simp [h1]
  have b2 : (k == 2) = false := by simp [h2]
  have b6 : (k != 6) = true := by simp [h6]
  clear F h h1 h2 h6
  go_enter Tryd.func13, Tryd.ntmps13
  go_wp2_with fail
  refine F'.out.mono ?_
  rintro e w1 ⟨rfl, hb⟩
  go_wp2_with fail
  go_ret2
  exact ⟨rfl, hb⟩
set_option maxHeartbeats 1000000 in
theorem number_6 (s : ByteArray) (w : World) (hG : Good w) (hs : s.size < 4294967281) (h : look sysT s.data.toList = none) :
    Calls Tryd.prog 13 #[.int .i64 6, .string s] w fun e w' => e = numOut (numOf 6 s.data.toList) ∧ Below w.heap.size w w' := by
  have F := find_any 6 s w
  rw [numOut_no (o := look (tbl 6) s.data.toList) h] at F
  rw [numOf_6 _ h]
  have F' := Lib.hid F
  have SN := Lib.hid (fun w (hG : Good w) => sysNo_any s w hG hs)
  generalize sysLook s.data.toList = o at *
  have HG := Lib.hid hG
  clear F h hG hs
  unfold numOut at *
  go_enter Tryd.func13, Tryd.ntmps13
  go_wp2_with fail
  refine F'.out.mono ?_
  rintro e w1 ⟨rfl, hb⟩
  go_wp2_with fail
  refine (SN.out _ (HG.out.thn hb)).mono ?_
  rintro e w2 ⟨rfl, hb2⟩
  go_wp2_with fail
  go_ret2
  exact ⟨rfl, Below.thn hb hb.size hb2⟩
theorem number_any (k : Int) (s : ByteArray) (w : World) (hG : Good w) (hs : s.size < 4294967281) :
    Calls Tryd.prog 13 #[.int .i64 k, .string s] w fun e w' => e = numOut (numOf k s.data.toList) ∧ Below w.heap.size w w' := by
  by_cases h1 : k = 1
  · subst h1; exact number_1 s w hG (by omega)
  by_cases h2 : k = 2
  · subst h2; exact number_2 s w
  cases h : look (tbl k) s.data.toList with
  | some n => exact number_in k s n w h1 h2 h
  | none =>
    by_cases h6 : k = 6
    · subst h6; exact number_6 s w hG hs h
    · exact number_out k s w h1 h2 h6 h

/-! ### Word -/
theorem wordFrom_yes {s : List UInt8} {k : Nat} (hk : k < 9) {n : Nat} (h : numOf (k : Int) s = some n) : wordFrom s k = true := by
  unfold wordFrom
  rw [List.any_eq_true]
  exact ⟨k, by simp [hk], by rw [h]; simp⟩
theorem wordFrom_no {s : List UInt8} {k : Nat} (h : numOf (k : Int) s = none) : wordFrom s k = wordFrom s (k + 1) := by
  unfold wordFrom
  rw [Bool.eq_iff_iff, List.any_eq_true, List.any_eq_true]
  constructor
  · rintro ⟨j, hj, h2⟩
    refine ⟨j, hj, ?_⟩
    simp only [Bool.and_eq_true, decide_eq_true_eq] at h2 ⊢
    refine ⟨?_, h2.2⟩
    rcases Nat.lt_or_ge k j with g | g
    · exact g
    · obtain rfl : j = k := by omega
      rw [h] at h2; exact absurd h2.2 (by simp)
  · rintro ⟨j, hj, h2⟩
    refine ⟨j, hj, ?_⟩
    simp only [Bool.and_eq_true, decide_eq_true_eq] at h2 ⊢
    exact ⟨by omega, h2.2⟩
theorem wordFrom_end (s : List UInt8) : wordFrom s 9 = false := by
  unfold wordFrom
  rw [List.any_eq_false]
  intro j hj
  simp at hj
  simp; omega
set_option maxHeartbeats 1000000 in
theorem word_any (s : ByteArray) (w : World) (hG : Good w) (hs : s.size < 4294967281) :
    Calls Tryd.prog 17 #[.string s] w fun e w' => e = .returned (.bool (wordOf s.data.toList)) ∧ Below w.heap.size w w' := by
  have NA := Lib.hid (fun k w (hG : Good w) => number_any k s w hG hs)
  have HG := Lib.hid hG
  clear hG hs
  go_enter Tryd.func17, Tryd.ntmps17
  go_wp2
  go_loopw [3] (fun iv wr => ∃ k : Nat, 1 ≤ k ∧ k ≤ 9 ∧ iv = .int .i64 (k : Int) ∧ Hid (wordOf s.data.toList = wordFrom s.data.toList k) ∧ Below w.heap.size w wr) (fun iv _ => 9 - (intOf iv).toNat)
  case atStart => exact ⟨1, by decide, by decide, rfl, Lib.hid rfl, Below.refl _ _⟩
  case round =>
    obtain ⟨k, hk1, hk, rfl, hw, hbr⟩ := hrel
    by_cases hlt : (k : Int) ≤ 8
    · have N := NA.out (k : Int) wr (HG.out.thn hbr)
      have w9 : IntKind.i64.wrap ((k : Int) + 1) = ((k + 1 : Nat) : Int) := by rw [IntWalk.i64_in _ (by omega)]; omega
      cases h : numOf (k : Int) s.data.toList with
      | some n =>
        rw [numOut_yes h] at N
        have HW := Lib.hid (hw.out.trans (wordFrom_yes (by omega) h))
        have N' := Lib.hid N
        clear N h
        go_wp2_with fail
        refine N'.out.mono ?_
        rintro e w1 ⟨rfl, hb⟩
        go_wp2_with fail
        go_ret
        exact ⟨by rw [HW.out]; rfl, Below.thn hbr hbr.size hb⟩
      | none =>
        rw [numOut_no h] at N
        have HW := Lib.hid (hw.out.trans (wordFrom_no h))
        have N' := Lib.hid N
        clear N h
        go_wp2_with fail
        refine N'.out.mono ?_
        rintro e w1 ⟨rfl, hb⟩
        go_wp2_with fail
        go_roundw
        case rel => exact ⟨k + 1, by omega, by omega, by first | rfl | rw [← w9], HW, Below.thn hbr hbr.size hb⟩
        case measure => simp [intOf]; omega
    · have hk9 : k = 9 := by omega
      have HW := Lib.hid (show wordOf s.data.toList = false by rw [hw.out, hk9, wordFrom_end])
      have hge : ¬ (k : Int) ≤ 8 := by omega
      clear hk9
      go_wp2
      go_ret
      exact ⟨by rw [HW.out]; rfl, hbr⟩
end Go.Proofs.YtefglodkcddgiaaDoor
