/-
  What each call of the program's code and number returns. Conditions: what the variables of the library hold (Good), and the sizes that each lemma states.
-/
import Derived.Test.YtdkflmpdelfgoaaGreatDoorLexG
namespace Go.Proofs.YtdkflmpdelfgoaaGreatDoor
open Go.RowKit

theorem byte_at {s : ByteArray} {l : Bs} (h : s.data.toList = l) (k : Nat) (hk : k < l.length) : ∃ h0 : k < s.size, s[k]'h0 = l[k] := by
  have h0 : k < s.size := by rw [size_list, h]; exact hk
  refine ⟨h0, ?_⟩
  rw [get_list h0]
  simp [h]
def CodeOut (s : Bs) (e : Ending) : Prop := ∃ (v : Int) (n : Int) (ok : Bool), e = .returned (.tuple #[.int .u64 v, .int .i64 n, .bool ok]) ∧ NumOut (numB s) v n ok
theorem u8_eq {a b : UInt8} : ((a.toNat : Int) == (b.toNat : Int)) = (a == b) := by
  rw [Bool.eq_iff_iff, beq_iff_eq, beq_iff_eq, ← UInt8.toNat_inj]; omega
theorem u8_ne {a b : UInt8} (h : a ≠ b) : ((a.toNat : Int) != (b.toNat : Int)) = true := by
  rw [bne_iff_ne]; intro e; exact h (UInt8.toNat_inj.1 (by omega))
theorem code_no {s : Bs} (h0 : s.head? = some 39) (h : ∀ (a c : UInt8) (r : Bs), s = a :: c :: 39 :: r → ¬ (stands c 39 = true ∧ okEnd r = true)) : CodeOut s (.returned (.tuple #[.int .u64 0, .int .i64 0, .bool false])) := by
  refine ⟨_, _, _, rfl, .inr ⟨rfl, ?_⟩⟩
  unfold numB
  rw [if_pos h0]
  match s with
  | [] => rfl
  | [_] => rfl
  | [_, _] => rfl
  | a :: c :: t :: r =>
    simp only
    rw [if_neg]
    rintro ⟨h1, h2, h3⟩
    subst h1
    exact h a c r rfl ⟨h2, h3⟩
theorem code_yes {a c : UInt8} {r : Bs} (h0 : a = 39) (h2 : stands c 39 = true) (h3 : okEnd r = true) : CodeOut (a :: c :: 39 :: r) (.returned (.tuple #[.int .u64 (c.toNat : Int), .int .i64 3, .bool true])) := by
  refine ⟨_, _, _, rfl, .inl ⟨rfl, c.toNat, 3, ?_, rfl, rfl⟩⟩
  subst h0
  unfold numB
  rw [if_pos (by rfl)]
  simp [h2, h3]
set_option maxHeartbeats 4000000 in
theorem code_any (s : ByteArray) (w : World) (hs : s.size ≤ maxLen) (hh : s.data.toList.head? = some 39) :
    Calls Tryz.prog 70 #[.string s] w fun e w' => CodeOut s.data.toList e ∧ w = w' := by
  unfold maxLen at hs
  match hl : s.data.toList with
  | [] => rw [hl] at hh; cases hh
  | [a] =>
    have R := Lib.hid (code_no (s := [a]) (by rw [← hl]; exact hh) (fun a c r e => by simp at e))
    have h3 : (s.size : Int) < 3 := by rw [size_list, hl]; simp
    clear hl hh
    go_enter Tryz.func70, Tryz.ntmps70
    go_wp2_with fail
    go_ret3
    exact ⟨R.out, rfl⟩
  | [a, b] =>
    have R := Lib.hid (code_no (s := [a, b]) (by rw [← hl]; exact hh) (fun a c r e => by simp at e))
    have h3 : (s.size : Int) < 3 := by rw [size_list, hl]; simp
    clear hl hh
    go_enter Tryz.func70, Tryz.ntmps70
    go_wp2_with fail
    go_ret3
    exact ⟨R.out, rfl⟩
  | a :: c :: t :: r =>
    obtain rfl : a = 39 := by rw [hl] at hh; simpa using hh
    have hwc : IntKind.u64.wrap (c.toNat : Int) = (c.toNat : Int) := by
      have := c.toNat_lt
      rw [IntKind.wrap_u64]; omega
    have h3 : 3 ≤ (s.size : Int) := by rw [size_list, hl]; simp only [List.length_cons]; omega
    obtain ⟨k2, g2⟩ := byte_at hl 2 (by simp)
    obtain ⟨k1, g1⟩ := byte_at hl 1 (by simp)
    simp only [List.getElem_cons_succ, List.getElem_cons_zero] at g1 g2
    have k1' : 1 < (s.size : Int) := by omega
    have k2' : 2 < (s.size : Int) := by omega
    by_cases ht : t = 39
    · subst ht
      have S := Lib.hid (fun w => stands_any c 39 w)
      change Hid (∀ w, Calls _ _ #[.int .u8 (c.toNat : Int), .int .u8 39] w _) at S
      cases hst : stands c 39 with
      | false =>
        rw [hst] at S
        have R := Lib.hid (code_no (s := 39 :: c :: 39 :: r) rfl (fun a' c' r' e => by
          simp only [List.cons.injEq] at e; obtain ⟨_, rfl, _, _⟩ := e; rw [hst]; rintro ⟨h, _⟩; cases h))
        clear hl hh hst
        go_enter Tryz.func70, Tryz.ntmps70
        go_wp2_with fail
        refine (S.out _).mono ?_
        rintro e w' ⟨rfl, rfl⟩
        go_wp2_with fail
        go_ret3
        exact ⟨R.out, rfl⟩
      | true =>
        rw [hst] at S
        cases r with
        | nil =>
          have R := Lib.hid (code_yes (a := 39) (c := c) (r := []) rfl hst rfl)
          have h33 : (s.size : Int) ≤ 3 := by rw [size_list, hl]; simp
          clear hl hh hst
          go_enter Tryz.func70, Tryz.ntmps70
          go_wp2_with fail
          refine (S.out _).mono ?_
          rintro e w' ⟨rfl, rfl⟩
          go_wp2_with fail
          go_ret3
          exact ⟨R.out, rfl⟩
        | cons x r =>
          have h34 : 3 < (s.size : Int) := by rw [size_list, hl]; simp only [List.length_cons]; omega
          obtain ⟨k3, g3⟩ := byte_at hl 3 (by simp)
          simp only [List.getElem_cons_succ, List.getElem_cons_zero] at g3
          have H := Lib.hid (fun w => has_any 6 x w (by decide))
          rw [hasB_6] at H
          cases hx : isLD x with
          | true =>
            rw [hx] at H
            have R := Lib.hid (code_no (s := 39 :: c :: 39 :: x :: r) rfl (fun a' c' r' e => by
              simp only [List.cons.injEq] at e; obtain ⟨_, rfl, _, rfl⟩ := e; simp [okEnd, hx]))
            clear hl hh hst hx
            go_enter Tryz.func70, Tryz.ntmps70
            go_wp2_with fail
            refine (S.out _).mono ?_
            rintro e w' ⟨rfl, rfl⟩
            go_wp2_with fail
            refine (H.out _).mono ?_
            rintro e w' ⟨rfl, rfl⟩
            go_wp2_with fail
            go_ret3
            exact ⟨R.out, rfl⟩
          | false =>
            rw [hx] at H
            have R := Lib.hid (code_yes (a := 39) (c := c) (r := x :: r) rfl hst (by simp [okEnd, hx]))
            clear hl hh hst hx
            go_enter Tryz.func70, Tryz.ntmps70
            go_wp2_with fail
            refine (S.out _).mono ?_
            rintro e w' ⟨rfl, rfl⟩
            go_wp2_with fail
            refine (H.out _).mono ?_
            rintro e w' ⟨rfl, rfl⟩
            go_wp2_with fail
            go_ret3
            exact ⟨R.out, rfl⟩
    · have R := Lib.hid (code_no (s := 39 :: c :: t :: r) rfl (fun a' c' r' e => by
        simp only [List.cons.injEq] at e; exact absurd e.2.2.1 ht))
      have b39 : ((t.toNat : Int) != 39) = true := u8_ne (b := 39) ht
      clear hl hh ht
      go_enter Tryz.func70, Tryz.ntmps70
      go_wp2_with fail
      go_ret3
      exact ⟨R.out, rfl⟩
end Go.Proofs.YtdkflmpdelfgoaaGreatDoor
