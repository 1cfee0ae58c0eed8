/-
  The document's Name and sign: what each call returns. Conditions: the sizes that each lemma states.
-/
import Derived.Test.YtjmdcimfmmfinaaDoorLexRefA
import Derived.Test.YtjmdcimfmmfinaaDoorLexG
namespace Go.Proofs.YtjmdcimfmmfinaaDoor
open Go.RowKit

theorem nameB_at {s : ByteArray} (h0 : 0 < s.size) : nameB s.data.toList = (isL s[0] && decide (run isLD s.data.toList = s.size)) := by
  cases hl : s.data.toList with
  | nil => rw [size_list, hl] at h0; simp at h0
  | cons c r =>
    obtain ⟨_, hc⟩ := head_byte hl
    rw [nameB_run, hc, size_list, hl]
set_option maxHeartbeats 1000000 in
theorem docName_any (s : ByteArray) (w : World) (hs : s.size ≤ maxLen) :
    Calls Tryd.prog 25 #[.string s] w fun e w' => e = .returned (.bool (nameB s.data.toList)) ∧ w = w' := by
  unfold maxLen at hs
  have C := Lib.hid (fun c w => rletter_any c w)
  have D := Lib.hid (fun c w => rdecimal_any c w)
  have hr := run_le isLD s.data.toList
  rw [← size_list] at hr
  have HR := Lib.hid hr
  clear hr
  go_enter Tryd.func25, Tryd.ntmps25
  go_wp2_with fail
  go_loop [3] (fun i => ∃ k : Nat, k ≤ s.size ∧ i = .int .i64 (k : Int) ∧ Hid (k ≤ run isLD s.data.toList) ∧ Hid (∀ h0 : 0 < s.size, 0 < k → isL (s[0]'h0) = true)) (fun i => s.size - (intOf i).toNat)
  case atStart => exact ⟨0, Nat.zero_le _, rfl, Lib.hid (Nat.zero_le _), Lib.hid (fun _ h => absurd h (Nat.lt_irrefl _))⟩
  case round =>
    obtain ⟨k, hk, rfl, hrun, hhead⟩ := hrel
    by_cases hlt : k < s.size
    · have w9 : IntKind.i64.wrap ((k : Int) + 1) = ((k + 1 : Nat) : Int) := by rw [IntWalk.i64_in _ (by omega)]; omega
      have CC := Lib.hid (fun w => (C.out s[k] w))
      cases hp : isL s[k] with
      | true =>
        have HS := Lib.hid (run_take_succ isLD s.data.toList k (by rw [← size_list]; exact hlt) hrun.out (by rw [← get_list hlt]; simp [isLD, hp]))
        have HH := Lib.hid (fun (h0 : 0 < s.size) (_ : 0 < k + 1) => show isL (s[0]'h0) = true from by
          rcases Nat.eq_zero_or_pos k with h | h
          · subst h; exact hp
          · exact hhead.out h0 h)
        rw [hp] at CC
        clear hp
        go_wp2_with fail
        refine (CC.out _).mono ?_
        rintro e w' ⟨rfl, rfl⟩
        go_wp2_with fail
        go_round
        case rel => exact ⟨k + 1, by omega, by first | rfl | rw [← w9], HS, HH⟩
        case measure => simp [intOf]; omega
      | false =>
        rcases Nat.eq_zero_or_pos k with h | h
        · subst h
          have HS := Lib.hid (show nameB s.data.toList = false by rw [nameB_at hlt, hp]; rfl)
          rw [hp] at CC
          clear hp
          go_wp2_with fail
          refine (CC.out _).mono ?_
          rintro e w' ⟨rfl, rfl⟩
          go_wp2_with fail
          go_ret
          exact ⟨ret1b (by rw [HS.out]), rfl⟩
        · have hk0 : ((k : Int) == 0) = false := by simp; omega
          have DD := Lib.hid (fun w => (D.out s[k] w))
          cases hd : isD s[k] with
          | true =>
            have HS := Lib.hid (run_take_succ isLD s.data.toList k (by rw [← size_list]; exact hlt) hrun.out (by rw [← get_list hlt]; simp [isLD, hd]))
            have HH := Lib.hid (fun (h0 : 0 < s.size) (_ : 0 < k + 1) => hhead.out h0 h)
            rw [hp] at CC
            rw [hd] at DD
            clear hp hd
            go_wp2_with fail
            refine (CC.out _).mono ?_
            rintro e w' ⟨rfl, rfl⟩
            go_wp2_with fail
            refine (DD.out _).mono ?_
            rintro e w' ⟨rfl, rfl⟩
            go_wp2_with fail
            go_round
            case rel => exact ⟨k + 1, by omega, by first | rfl | rw [← w9], HS, HH⟩
            case measure => simp [intOf]; omega
          | false =>
            have hst := run_stop isLD s.data.toList k (by rw [← size_list]; exact hlt) hrun.out (by rw [← get_list hlt]; simp [isLD, hp, hd])
            have HS := Lib.hid (show nameB s.data.toList = false by rw [nameB_at (by omega), hst]; simp; omega)
            rw [hp] at CC
            rw [hd] at DD
            clear hp hd hst
            go_wp2_with fail
            refine (CC.out _).mono ?_
            rintro e w' ⟨rfl, rfl⟩
            go_wp2_with fail
            refine (DD.out _).mono ?_
            rintro e w' ⟨rfl, rfl⟩
            go_wp2_with fail
            go_ret
            exact ⟨ret1b (by rw [HS.out]), rfl⟩
    · have hks : k = s.size := by omega
      have HS := Lib.hid (show decide (0 < (s.size : Int)) = nameB s.data.toList by
        rcases Nat.eq_zero_or_pos s.size with h | h
        · have : s.data.toList = [] := List.length_eq_zero_iff.1 (by rw [← size_list]; exact h)
          rw [this, h]; rfl
        · have h1 := hrun.out
          have h2 := HR.out
          rw [nameB_at h, hhead.out h (by omega)]
          simp; omega)
      go_wp2_with fail
      go_ret
      exact ⟨ret1b (by rw [← HS.out]; simp), rfl⟩

theorem sign_index : ∀ (i : Nat), i < 18 → ∀ w : World, (Instr.index 9 (.string ⟨#[44, 91, 93, 33, 35, 58, 43, 45, 42, 47, 37, 38, 124, 94, 126, 40, 41, 61]⟩) (.int .i64 (i : Int))).run Tryd.prog w = .ok (.int .u8 ((signL.getD i 0).toNat : Int)) w := by
  intro i hi w
  exact match i, hi with
  | 0, _ => by kernel_rfl
  | 1, _ => by kernel_rfl
  | 2, _ => by kernel_rfl
  | 3, _ => by kernel_rfl
  | 4, _ => by kernel_rfl
  | 5, _ => by kernel_rfl
  | 6, _ => by kernel_rfl
  | 7, _ => by kernel_rfl
  | 8, _ => by kernel_rfl
  | 9, _ => by kernel_rfl
  | 10, _ => by kernel_rfl
  | 11, _ => by kernel_rfl
  | 12, _ => by kernel_rfl
  | 13, _ => by kernel_rfl
  | 14, _ => by kernel_rfl
  | 15, _ => by kernel_rfl
  | 16, _ => by kernel_rfl
  | 17, _ => by kernel_rfl
  | _ + 18, h => absurd h (by omega)
theorem sign_mem {c : UInt8} {i : Nat} (hi : i < 18) (h : ((signL.getD i 0).toNat : Int) = (c.toNat : Int)) : signL.contains c = true := by
  have e : signL.getD i 0 = c := UInt8.toNat_inj.1 (by omega)
  rw [List.contains_iff_mem, ← e, List.getD_eq_getElem?_getD, List.getElem?_eq_getElem (show i < signL.length from hi)]
  exact List.getElem_mem _
theorem sign_not {c : UInt8} (h : ∀ i, i < 18 → ((signL.getD i 0).toNat : Int) ≠ (c.toNat : Int)) : signL.contains c = false := by
  rw [Bool.eq_false_iff]
  intro hc
  rw [List.contains_iff_mem] at hc
  obtain ⟨i, hi, he⟩ := List.getElem_of_mem hc
  refine h i hi ?_
  rw [List.getD_eq_getElem?_getD, List.getElem?_eq_getElem hi, he]; rfl
theorem list_take2 {s : ByteArray} {l : Bs} (h : s.data.toList = l) : (s.extract 0 2).data.toList = l.take 2 := list_take h 2
theorem sign_head (c : UInt8) (r : Bs) : signN (c :: r) = if ((c == 60 && r.head? == some 60) || (c == 62 && r.head? == some 62)) = true then 2 else if signL.contains c = true then 1 else 0 := rfl
set_option maxRecDepth 100000 in
set_option maxHeartbeats 4000000 in
theorem docSign_any (s : ByteArray) (w : World) (hs : s.size ≤ maxLen) :
    Calls Tryd.prog 36 #[.string s] w fun e w' => e = .returned (.int .i64 (signN s.data.toList : Int)) ∧ ∃ m, w' = w.drewN m := by
  unfold maxLen at hs
  cases hl : s.data.toList with
  | nil =>
    obtain rfl := empty_yes hl
    go_enter Tryd.func36, Tryd.ntmps36
    go_wp2_with fail
    go_loopw [3] (fun i wr => ∃ k q : Nat, k ≤ 18 ∧ i = .int .i64 (k : Int) ∧ wr = w.drewN q) (fun i _ => 18 - (intOf i).toNat)
    case atStart => exact ⟨0, 0, Nat.zero_le _, rfl, rfl⟩
    case round =>
      obtain ⟨k, q, hk, rfl, rfl⟩ := hrel
      by_cases hlt : (k : Int) < 18
      · have w9 : IntKind.i64.wrap ((k : Int) + 1) = ((k + 1 : Nat) : Int) := by rw [IntWalk.i64_in _ (by omega)]; omega
        go_wp2_with fail
        go_quiet (fail)
        go_wp2_with fail
        exact ⟨⟨k + 1, q + nq, by omega, by simp, rfl⟩, by simp [intOf]; omega⟩
      · go_wp2_with fail
        go_ret
        exact ⟨rfl, q, rfl⟩
  | cons c r =>
    obtain ⟨h0, gx⟩ := head_byte hl
    have h0' : 0 < (s.size : Int) := by omega
    have hsz : s.size = r.length + 1 := by rw [size_list, hl]; rfl
    cases h2 : ((c == 60 && r.head? == some 60) || (c == 62 && r.head? == some 62)) with
    | true =>
      have R := Lib.hid (show signN (c :: r) = 2 by rw [sign_head, if_pos h2])
      cases r with
      | nil => simp at h2
      | cons d r =>
        have h1 : (1 : Int) < (s.size : Int) := by simp at hsz; omega
        have hE : (s.extract 0 2).data.toList = [c, d] := by rw [list_take2 hl]; rfl
        have e1 : ((s.extract 0 2).toList == [60, 60]) = (c == 60 && d == 60) := by rw [ByteArray.toList_eq, hE, Bool.eq_iff_iff]; simp
        have e2 : ((s.extract 0 2).toList == [62, 62]) = (c == 62 && d == 62) := by rw [ByteArray.toList_eq, hE, Bool.eq_iff_iff]; simp
        simp only [List.head?_cons, Option.some_beq_some] at h2
        cases hx : (c == 60 && d == 60) with
        | true =>
          rw [hx] at e1
          clear hl gx hE hsz h2 hx e2
          go_enter Tryd.func36, Tryd.ntmps36
          go_wp2_with fail
          go_ret
          exact ⟨ret1 (by rw [R.out]; rfl), 0, rfl⟩
        | false =>
          rw [hx] at e1 h2
          rw [Bool.false_or] at h2
          rw [h2] at e2
          clear hl gx hE hsz h2 hx
          go_enter Tryd.func36, Tryd.ntmps36
          go_wp2_with fail
          go_ret
          exact ⟨ret1 (by rw [R.out]; rfl), 0, rfl⟩
    | false =>
      have R := Lib.hid (show signN (c :: r) = if signL.contains c = true then 1 else 0 by rw [sign_head, h2]; rfl)
      have hE : Hid (1 < s.size → ((s.extract 0 2).toList == [60, 60]) = false ∧ ((s.extract 0 2).toList == [62, 62]) = false) := Lib.hid (by
        intro h1
        cases r with
        | nil => simp at hsz; omega
        | cons d r =>
          rw [ByteArray.toList_eq, list_take2 hl]
          simp only [List.head?_cons, Option.some_beq_some] at h2
          show (([c, d] : Bs) == [60, 60]) = false ∧ (([c, d] : Bs) == [62, 62]) = false
          cases hx : (c == 60 && d == 60) with
          | true => rw [hx] at h2; cases h2
          | false =>
            rw [hx, Bool.false_or] at h2
            exact ⟨by rw [← hx, Bool.eq_iff_iff]; simp, by rw [← h2, Bool.eq_iff_iff]; simp⟩)
      have K := hE
      have n1 := c.toNat_lt
      clear hl h2 hsz hE
      by_cases h1 : 1 < s.size
      · obtain ⟨e1, e2⟩ := K.out h1
        have h1' : (1 : Int) < (s.size : Int) := by omega
        clear K
        go_enter Tryd.func36, Tryd.ntmps36
        go_wp2_with fail
        go_loopw [3] (fun i wr => ∃ k q : Nat, k ≤ 18 ∧ i = .int .i64 (k : Int) ∧ wr = w.drewN q ∧ Hid (∀ j, j < k → ((signL.getD j 0).toNat : Int) ≠ (c.toNat : Int))) (fun i _ => 18 - (intOf i).toNat)
        case atStart => exact ⟨0, 0, Nat.zero_le _, rfl, rfl, Lib.hid (fun j hj => absurd hj (Nat.not_lt_zero _))⟩
        case round =>
          obtain ⟨k, q, hk, rfl, rfl, hno⟩ := hrel
          by_cases hlt : k < 18
          · have X := sign_index k hlt
            have hlt' : (k : Int) < 18 := by omega
            by_cases he : ((signL.getD k 0).toNat : Int) = (c.toNat : Int)
            · have hm := Lib.hid (sign_mem hlt he)
              have he' : (((signL.getD k 0).toNat : Int) == (c.toNat : Int)) = true := by simpa using he
              clear he
              generalize ((signL.getD k 0).toNat : Int) = v at *
              go_wp2_with fail
              go_quiet (fail)
              go_wp2_with fail
              go_ret
              exact ⟨ret1 (by rw [R.out, hm.out]; rfl), q + nq, by simp⟩
            · have HN := Lib.hid (fun j (hj : j < k + 1) => show ((signL.getD j 0).toNat : Int) ≠ (c.toNat : Int) from by
                rcases Nat.lt_or_ge j k with h | h
                · exact hno.out j h
                · obtain rfl : j = k := by omega
                  exact he)
              have he' : (((signL.getD k 0).toNat : Int) == (c.toNat : Int)) = false := by simpa using he
              clear he
              generalize ((signL.getD k 0).toNat : Int) = v at *
              go_wp2_with fail
              go_quiet (fail)
              go_wp2_with fail
              exact ⟨⟨k + 1, q + nq, by omega, by simp, rfl, HN⟩, by simp [intOf]; omega⟩
          · have hm := Lib.hid (sign_not (fun i hi => hno.out i (by omega)))
            have hlt' : 18 ≤ (k : Int) := by omega
            go_wp2_with fail
            go_ret
            exact ⟨ret1 (by rw [R.out, hm.out]; rfl), q, rfl⟩
      · have h1' : (s.size : Int) ≤ 1 := by omega
        clear K
        go_enter Tryd.func36, Tryd.ntmps36
        go_wp2_with fail
        go_loopw [3] (fun i wr => ∃ k q : Nat, k ≤ 18 ∧ i = .int .i64 (k : Int) ∧ wr = w.drewN q ∧ Hid (∀ j, j < k → ((signL.getD j 0).toNat : Int) ≠ (c.toNat : Int))) (fun i _ => 18 - (intOf i).toNat)
        case atStart => exact ⟨0, 0, Nat.zero_le _, rfl, rfl, Lib.hid (fun j hj => absurd hj (Nat.not_lt_zero _))⟩
        case round =>
          obtain ⟨k, q, hk, rfl, rfl, hno⟩ := hrel
          by_cases hlt : k < 18
          · have X := sign_index k hlt
            have hlt' : (k : Int) < 18 := by omega
            by_cases he : ((signL.getD k 0).toNat : Int) = (c.toNat : Int)
            · have hm := Lib.hid (sign_mem hlt he)
              have he' : (((signL.getD k 0).toNat : Int) == (c.toNat : Int)) = true := by simpa using he
              clear he
              generalize ((signL.getD k 0).toNat : Int) = v at *
              go_wp2_with fail
              go_quiet (fail)
              go_wp2_with fail
              go_ret
              exact ⟨ret1 (by rw [R.out, hm.out]; rfl), q + nq, by simp⟩
            · have HN := Lib.hid (fun j (hj : j < k + 1) => show ((signL.getD j 0).toNat : Int) ≠ (c.toNat : Int) from by
                rcases Nat.lt_or_ge j k with h | h
                · exact hno.out j h
                · obtain rfl : j = k := by omega
                  exact he)
              have he' : (((signL.getD k 0).toNat : Int) == (c.toNat : Int)) = false := by simpa using he
              clear he
              generalize ((signL.getD k 0).toNat : Int) = v at *
              go_wp2_with fail
              go_quiet (fail)
              go_wp2_with fail
              exact ⟨⟨k + 1, q + nq, by omega, by simp, rfl, HN⟩, by simp [intOf]; omega⟩
          · have hm := Lib.hid (sign_not (fun i hi => hno.out i (by omega)))
            have hlt' : 18 ≤ (k : Int) := by omega
            go_wp2_with fail
            go_ret
            exact ⟨ret1 (by rw [R.out, hm.out]; rfl), q, rfl⟩
end Go.Proofs.YtjmdcimfmmfinaaDoor
