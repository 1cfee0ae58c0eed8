/-
  The document's IsSym, decimal: what each call returns. Conditions: the sizes that each lemma states.
-/
import Derived.Test.YtdkflmpdelfgoaaDoorExprRefA
namespace Go.Proofs.YtdkflmpdelfgoaaDoor
open Go.RowKit Go.Shelf
set_option linter.unusedVariables false
attribute [local go_sem] Oper.semAt_some

def letterI (n : Int) : Bool := (decide (97 ≤ n) && decide (n ≤ 122)) || (decide (65 ≤ n) && decide (n ≤ 90)) || n == 95 || n == 46 || n == 36
theorem letterI_eq : ∀ c : UInt8, letterI (c.toNat : Int) = isL c := all_bytes (by decide +kernel)
def decI (n : Int) : Bool := decide (48 ≤ n) && decide (n ≤ 57)
theorem decI_eq : ∀ c : UInt8, decI (c.toNat : Int) = isD c := all_bytes (by decide +kernel)
def headB : Bs → Bool
  | [] => false
  | c :: _ => isL c
def preB (k : Nat) (l : Bs) : Bool := (l.take k).all isLD && (decide (k = 0) || headB l)
def goB (c : UInt8) (k : Nat) : Bool := isL c || (isD c && !decide (k = 0))
theorem preB_0 (l : Bs) : preB 0 l = true := by simp [preB]
theorem preB_succ {l : Bs} {k : Nat} (hk : k < l.length) (h : preB k l = true) (hg : goB l[k] k = true) : preB (k + 1) l = true := by
  simp only [preB, goB, Bool.and_eq_true, Bool.or_eq_true, decide_eq_true_eq, Bool.not_eq_true', decide_eq_false_iff_not] at *
  refine ⟨?_, Or.inr ?_⟩
  · rw [List.take_succ_eq_append_getElem hk, List.all_append, h.1]
    simp only [List.all_cons, List.all_nil, Bool.and_true, Bool.true_and, isLD, Bool.or_eq_true]
    rcases hg with h1 | h1
    · exact Or.inl h1
    · exact Or.inr h1.1
  · cases l with
    | nil => simp at hk
    | cons c r =>
      rcases Nat.eq_zero_or_pos k with h0 | h0
      · subst h0
        rcases hg with h1 | h1
        · exact h1
        · exact absurd rfl h1.2
      · rcases h.2 with h1 | h1
        · omega
        · exact h1
theorem preB_end {l : Bs} (h : preB l.length l = true) : nameB l = !l.isEmpty := by
  cases l with
  | nil => rfl
  | cons c r =>
    rw [preB, List.take_length] at h
    simp only [List.all_cons, Bool.and_eq_true, List.length_cons, Bool.or_eq_true, decide_eq_true_eq] at h
    simp only [nameB, List.isEmpty_cons, Bool.not_false, Bool.and_eq_true]
    rcases h.2 with h1 | h1
    · omega
    · exact ⟨h1, h.1.2⟩
theorem goB_no {l : Bs} {k : Nat} (hk : k < l.length) (hg : goB l[k] k = false) : nameB l = false := by
  cases l with
  | nil => simp at hk
  | cons c r =>
    rw [Bool.eq_false_iff]
    intro h
    simp only [nameB, Bool.and_eq_true, List.all_eq_true] at h
    cases k with
    | zero => simp [goB, h.1] at hg
    | succ k =>
      have hk' : k < r.length := by simpa using hk
      have := h.2 r[k] (List.getElem_mem _)
      simp [goB, isLD] at hg this
      simp_all
theorem letter_int {c : UInt8} {n : Int} (h : (c.toNat : Int) = n) : isL c = letterI n := by rw [← h, letterI_eq]
theorem digit_int {c : UInt8} {n : Int} (h : (c.toNat : Int) = n) : isD c = decI n := by rw [← h, decI_eq]
set_option maxHeartbeats 8000000 in
theorem rIsSym_any (s : ByteArray) (w : World) (hs : s.size ≤ maxLen) :
    Calls Tryd.prog 26 #[.string s] w fun e w' => e = .returned (.bool (symB s.data.toList)) ∧ w = w' := by
  unfold maxLen at hs
  go_enter Tryd.func26, Tryd.ntmps26
  go_wp2_with fail
  go_loop [3] (fun i => ∃ k : Nat, k ≤ s.size ∧ i = .int .i64 (k : Int) ∧ Hid (preB k s.data.toList = true)) (fun i => s.size - (intOf i).toNat)
  case atStart => exact ⟨0, Nat.zero_le _, rfl, Lib.hid (preB_0 _)⟩
  case round =>
    obtain ⟨k, hk, rfl, hrun⟩ := hrel
    by_cases hlt : k < s.size
    · have w9 : IntKind.i64.wrap ((k : Int) + 1) = ((k + 1 : Nat) : Int) := by rw [IntWalk.i64_in _ (by omega)]; omega
      have hkl : k < s.data.toList.length := by rw [← size_list]; exact hlt
      have HS := Lib.hid (fun hg => preB_succ hkl hrun.out hg)
      have HN := Lib.hid (fun hg => goB_no hkl hg)
      rw [← get_list hlt] at HS HN
      obtain ⟨n, hn⟩ : ∃ n : Int, ((s[k]'hlt).toNat : Int) = n := ⟨_, rfl⟩
      have G := Lib.hid (show goB (s[k]'hlt) k = (letterI n || (decI n && !decide (k = 0))) by rw [goB, letter_int hn, digit_int hn])
      rw [G.out] at HS HN
      clear G hkl
      have h0 : 0 ≤ n := by omega
      have h1 : n < 256 := by have := (s[k]'hlt).toNat_lt; omega
      unfold letterI decI at HS HN
      go_wp2
      all_goals first
        | (go_round
           case rel => exact ⟨k + 1, by omega, by first | rfl | rw [← w9], Lib.hid (HS.out (by simp_all <;> omega))⟩
           case measure => simp [intOf]; omega)
        | (go_ret
           exact ⟨ret1b (by rw [symB, HN.out (by simp_all <;> omega), Bool.and_false]), rfl⟩)
    · obtain rfl : k = s.size := by omega
      have HE := Lib.hid (preB_end (l := s.data.toList) (by rw [← size_list]; exact hrun.out))
      clear hs hk hlt hrun
      by_cases he : s = E0
      · subst he
        clear HE
        go_wp2_with fail
        go_ret
        exact ⟨rfl, rfl⟩
      · have he' := lit_no (l := []) he
        have HN := Lib.hid (show nameB s.data.toList = true by
          rw [HE.out]
          cases hl : s.data.toList with
          | nil => exact absurd (empty_yes hl) he
          | cons c r => rfl)
        clear HE he
        by_cases h5 : s.size ≤ 512
        · have HV := Lib.hid (show symB s.data.toList = true by unfold symB; rw [← size_list, decide_eq_true h5, HN.out]; rfl)
          have h6 : (s.size : Int) ≤ 512 := by omega
          clear HN h5
          go_wp2_with fail
          go_ret
          exact ⟨ret1b HV.out.symm, rfl⟩
        · have HV := Lib.hid (show symB s.data.toList = false by unfold symB; rw [← size_list, decide_eq_false h5]; rfl)
          have h6 : ¬ ((s.size : Int) ≤ 512) := by omega
          clear HN h5
          go_wp2_with fail
          go_ret
          exact ⟨ret1b HV.out.symm, rfl⟩
/-! ### decimal -/
theorem dec_step (n : Nat) : Lib.decDigits n = (if n < 10 then [] else Lib.decDigits (n / 10)) ++ [UInt8.ofNat (48 + n % 10)] := by
  rw [Lib.decDigits]
  by_cases h : n < 10
  · rw [dif_pos h, if_pos h, Nat.mod_eq_of_lt h]; rfl
  · rw [dif_neg h, if_neg h]
theorem dec_len (n : Nat) (h : n < 18446744073709551616) : (Lib.decDigits n).length ≤ 20 := by
  rw [Lib.decDigits_length]
  rcases Nat.eq_zero_or_pos n with h0 | h0
  · rw [h0]; simp [Lib.nDigits_small]
  · have := Lib.numDigits_eq n h0 h; split at this <;> omega
theorem digit_cut : ∀ k : Fin 10, (⟨#[48, 49, 50, 51, 52, 53, 54, 55, 56, 57, 97, 98, 99, 100, 101, 102]⟩ : ByteArray).extract k.val (k.val + 1) = ⟨#[UInt8.ofNat (48 + k.val)]⟩ := by decide
/-- the loop's state: the digits that are still to come are those of m -/
def DecI (n m : Nat) (acc : Bs) : Prop := m < 18446744073709551616 ∧ Lib.decDigits m ++ acc = Lib.decDigits n
set_option maxRecDepth 100000 in
set_option maxHeartbeats 8000000 in
theorem rdec_any (n : Nat) (h64 : n < 18446744073709551616) (w : World) :
    Calls Tryd.prog 49 #[.int .u64 (n : Int)] w fun e w' => e = .returned (.string ⟨(Lib.decDigits n).toArray⟩) ∧ w = w' := by
  have HL := Lib.hid (dec_len n h64)
  have H0 := Lib.hid (show DecI n n [] from ⟨h64, List.append_nil _⟩)
  clear h64
  go_enter Tryd.func49, Tryd.ntmps49
  go_wp2_with fail
  go_loop [0, 3] (fun u a => ∃ (m : Nat) (acc : BA), u = .int .u64 (m : Int) ∧ a = .string acc ∧ Hid (DecI n m acc.data.toList)) (fun u a => (intOf u).toNat)
  case atStart => exact ⟨n, ⟨#[]⟩, rfl, rfl, H0⟩
  case round =>
    obtain ⟨m, acc, rfl, rfl, hI⟩ := hrel
    obtain ⟨r, hr⟩ : ∃ r, m % 10 = r := ⟨_, rfl⟩
    obtain ⟨q, hq⟩ : ∃ q, m / 10 = q := ⟨_, rfl⟩
    obtain ⟨D, hD⟩ : ∃ D, UInt8.ofNat (48 + r) = D := ⟨_, rfl⟩
    have HC := digit_cut ⟨r, by omega⟩
    simp only [hD] at HC
    have hm := hI.out.1
    have hlen : acc.size ≤ 20 := by
      have e := congrArg List.length hI.out.2
      have h1 := HL.out
      rw [List.length_append, ← size_list] at e
      omega
    have e1 : Int.tmod (m : Int) 10 = (r : Int) := by rw [show Int.tmod (m : Int) 10 = ((m % 10 : Nat) : Int) from rfl]; omega
    have e2 : IntKind.u64.wrap ((r : Int) + 1) = ((r + 1 : Nat) : Int) := by rw [IntKind.wrap_u64]; omega
    have e3 : Int.tdiv (m : Int) 10 = (q : Int) := by rw [show Int.tdiv (m : Int) 10 = ((m / 10 : Nat) : Int) from rfl]; omega
    have e4 : IntKind.u64.wrap (q : Int) = (q : Int) := by rw [IntKind.wrap_u64]; omega
    have hr10 : r < 10 := by omega
    go_wp2_with fail
    · rename_i hq0 _
      have hq0' : q = 0 := by simpa using hq0
      have HF := Lib.hid (show (⟨#[D]⟩ ++ acc : BA) = ⟨(Lib.decDigits n).toArray⟩ from bytes_eq (by
        rw [ByteArray.data_append, Array.toList_append]
        show [D] ++ acc.data.toList = Lib.decDigits n
        rw [← hI.out.2, Lib.decDigits_one (by omega), show m = r by omega, hD]))
      go_ret
      exact ⟨ret1s HF.out, rfl⟩
    · rename_i hq0
      have hq0' : q ≠ 0 := by simpa using hq0
      refine ⟨⟨q, _, rfl, rfl, Lib.hid ⟨by omega, ?_⟩⟩, by simp only [intOf]; omega⟩
      rw [ByteArray.data_append, Array.toList_append]
      show Lib.decDigits q ++ ([D] ++ acc.data.toList) = Lib.decDigits n
      have e := dec_step m
      rw [if_neg (by omega), hq, hr, hD] at e
      rw [← hI.out.2, e, List.append_assoc]
end Go.Proofs.YtdkflmpdelfgoaaDoor
