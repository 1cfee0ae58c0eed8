/-
  What each call of the program's escaped and within returns. Conditions: what the variables of the library hold (Good), and the sizes that each lemma states.
-/
import Derived.Test.YtdkflmpdelfgoaaGreatDoorLexI
namespace Go.Proofs.YtdkflmpdelfgoaaGreatDoor
open Go.RowKit

def WOut (o : Option (UInt8 × Nat)) (e : Ending) : Prop := ∃ (v n : Int) (ok : Bool), e = .returned (.tuple #[.int .u8 v, .int .i64 n, .bool ok]) ∧ ((ok = true ∧ ∃ (b : UInt8) (m : Nat), o = some (b, m) ∧ v = (b.toNat : Int) ∧ n = (m : Int)) ∨ (ok = false ∧ o = none))
theorem w_no {o : Option (UInt8 × Nat)} (h : o = none) (v n : Int) : WOut o (.returned (.tuple #[.int .u8 v, .int .i64 n, .bool false])) := ⟨v, n, false, rfl, .inr ⟨rfl, h⟩⟩
theorem w_yes {o : Option (UInt8 × Nat)} {b : UInt8} {m : Nat} (h : o = some (b, m)) : WOut o (.returned (.tuple #[.int .u8 (b.toNat : Int), .int .i64 (m : Int), .bool true])) := ⟨_, _, true, rfl, .inl ⟨rfl, b, m, h, rfl, rfl⟩⟩
theorem byteOf_ways : ∀ d : UInt8, (d = 48 ∧ byteOf d = some 0) ∨ (d = 116 ∧ byteOf d = some 9) ∨ (d = 110 ∧ byteOf d = some 10) ∨ (d = 114 ∧ byteOf d = some 13) ∨ (d = 34 ∧ byteOf d = some 34) ∨ (d = 92 ∧ byteOf d = some 92) ∨ (byteOf d = none ∧ Lib.indexByte shortL d = -1) := all_bytes (by decide +kernel)
theorem toU8 (d : UInt8) : ((d.toNat : Int).toNat.toUInt8) = d := by simp
theorem within1_esc (d : UInt8) (r : Bs) : within1 (92 :: d :: r) = match byteOf d with
    | some b => some (b, 2)
    | none => if d = 120 then (match r with
        | h1 :: h2 :: _ => match hexV h1, hexV h2 with
          | some a, some b => some (UInt8.ofNat (16 * a + b), 4)
          | _, _ => none
        | _ => none) else none := rfl
theorem hexV_lt {c : UInt8} {d : Nat} (h : hexV c = some d) : d < 16 := by
  unfold hexV at h
  split at h
  · cases h; omega
  · split at h
    · cases h; omega
    · split at h
      · cases h; omega
      · cases h
theorem pS_two (h1 h2 : UInt8) : pS 16 255 [h1, h2] = match hexV h1, hexV h2 with
    | some a, some b => some (some (16 * a + b))
    | _, _ => none := by
  unfold pS
  rw [if_neg (by simp), pF]
  cases ha : hexV h1 with
  | none => rfl
  | some a =>
    have := hexV_lt ha
    simp only
    rw [if_pos this, if_neg (by omega), pF]
    cases hb : hexV h2 with
    | none => rfl
    | some b =>
      have := hexV_lt hb
      simp only
      rw [if_pos this, if_neg (by omega), pF]
      simp only [Nat.zero_mul, Nat.zero_add]
      rw [Nat.mul_comm]
theorem short_any (k : Int) (d : UInt8) (h : Lib.indexByte shortL d = k) (w : World) :
    Calls Tryz.prog 108 #[.string ⟨#[48, 116, 110, 114, 34, 92]⟩, .int .u8 (d.toNat : Int)] w fun e w' => e = .returned (.int .i64 k) ∧ w = w' :=
  (Tryz.strings_IndexByte ⟨#[48, 116, 110, 114, 34, 92]⟩ (d.toNat : Int) w).mono fun e w' ⟨he, hw⟩ => ⟨by rw [he, toU8]; exact ret1 h, hw.symm⟩
set_option maxHeartbeats 4000000 in
theorem escaped_any (s : ByteArray) (r : Bs) (w : World) (hG : Good w) (hs : s.size ≤ 281474976710656) (hl : s.data.toList = 92 :: r) :
    Calls Tryz.prog 98 #[.string s] w fun e w' => WOut (within1 (92 :: r)) e ∧ Below w.heap.size w w' := by
  cases r with
  | nil =>
    have h2 : (s.size : Int) < 2 := by rw [size_list, hl]; simp
    have R := Lib.hid (w_no (o := within1 [92]) rfl 0 0)
    clear hl hG
    go_enter Tryz.func98, Tryz.ntmps98
    go_wp2_with fail
    go_ret3
    exact ⟨R.out, Below.refl _ _⟩
  | cons d r =>
    obtain ⟨k1, g1⟩ := byte_at hl 1 (by simp)
    simp only [List.getElem_cons_succ, List.getElem_cons_zero] at g1
    have k1' : 1 < (s.size : Int) := by omega
    have h2 : 2 ≤ (s.size : Int) := by omega
    rcases byteOf_ways d with ⟨rfl, hb⟩ | ⟨rfl, hb⟩ | ⟨rfl, hb⟩ | ⟨rfl, hb⟩ | ⟨rfl, hb⟩ | ⟨rfl, hb⟩ | ⟨hb, hi⟩
    · have I := Lib.hid (short_any 0 48 (by decide +kernel))
      have R := Lib.hid (w_yes (o := within1 (92 :: 48 :: r)) (b := 0) (m := 2) (by rw [within1_esc, hb]))
      clear hl hG hb
      go_enter Tryz.func98, Tryz.ntmps98
      go_wp2_with fail
      refine (I.out _).mono ?_
      rintro e w' ⟨rfl, rfl⟩
      go_wp2_with fail
      go_ret3
      exact ⟨R.out, Below.refl _ _⟩
    · have I := Lib.hid (short_any 1 116 (by decide +kernel))
      have R := Lib.hid (w_yes (o := within1 (92 :: 116 :: r)) (b := 9) (m := 2) (by rw [within1_esc, hb]))
      clear hl hG hb
      go_enter Tryz.func98, Tryz.ntmps98
      go_wp2_with fail
      refine (I.out _).mono ?_
      rintro e w' ⟨rfl, rfl⟩
      go_wp2_with fail
      go_ret3
      exact ⟨R.out, Below.refl _ _⟩
    · have I := Lib.hid (short_any 2 110 (by decide +kernel))
      have R := Lib.hid (w_yes (o := within1 (92 :: 110 :: r)) (b := 10) (m := 2) (by rw [within1_esc, hb]))
      clear hl hG hb
      go_enter Tryz.func98, Tryz.ntmps98
      go_wp2_with fail
      refine (I.out _).mono ?_
      rintro e w' ⟨rfl, rfl⟩
      go_wp2_with fail
      go_ret3
      exact ⟨R.out, Below.refl _ _⟩
    · have I := Lib.hid (short_any 3 114 (by decide +kernel))
      have R := Lib.hid (w_yes (o := within1 (92 :: 114 :: r)) (b := 13) (m := 2) (by rw [within1_esc, hb]))
      clear hl hG hb
      go_enter Tryz.func98, Tryz.ntmps98
      go_wp2_with fail
      refine (I.out _).mono ?_
      rintro e w' ⟨rfl, rfl⟩
      go_wp2_with fail
      go_ret3
      exact ⟨R.out, Below.refl _ _⟩
    · have I := Lib.hid (short_any 4 34 (by decide +kernel))
      have R := Lib.hid (w_yes (o := within1 (92 :: 34 :: r)) (b := 34) (m := 2) (by rw [within1_esc, hb]))
      clear hl hG hb
      go_enter Tryz.func98, Tryz.ntmps98
      go_wp2_with fail
      refine (I.out _).mono ?_
      rintro e w' ⟨rfl, rfl⟩
      go_wp2_with fail
      go_ret3
      exact ⟨R.out, Below.refl _ _⟩
    · have I := Lib.hid (short_any 5 92 (by decide +kernel))
      have R := Lib.hid (w_yes (o := within1 (92 :: 92 :: r)) (b := 92) (m := 2) (by rw [within1_esc, hb]))
      clear hl hG hb
      go_enter Tryz.func98, Tryz.ntmps98
      go_wp2_with fail
      refine (I.out _).mono ?_
      rintro e w' ⟨rfl, rfl⟩
      go_wp2_with fail
      go_ret3
      exact ⟨R.out, Below.refl _ _⟩
    · have I := Lib.hid (short_any (-1) d hi)
      have E1 := within1_esc d r
      rw [hb] at E1
      simp only at E1
      by_cases hx : d = 120
      · subst hx
        match r with
        | [] =>
          have h4 : (s.size : Int) < 4 := by rw [size_list, hl]; simp
          have R := Lib.hid (w_no (o := within1 [92, 120]) rfl 0 0)
          clear hl hG hb E1 hi
          go_enter Tryz.func98, Tryz.ntmps98
          go_wp2_with fail
          refine (I.out _).mono ?_
          rintro e w' ⟨rfl, rfl⟩
          go_wp2_with fail
          go_ret3
          exact ⟨R.out, Below.refl _ _⟩
        | [a] =>
          have h4 : (s.size : Int) < 4 := by rw [size_list, hl]; simp
          have R := Lib.hid (w_no (o := within1 [92, 120, a]) rfl 0 0)
          clear hl hG hb E1 hi
          go_enter Tryz.func98, Tryz.ntmps98
          go_wp2_with fail
          refine (I.out _).mono ?_
          rintro e w' ⟨rfl, rfl⟩
          go_wp2_with fail
          go_ret3
          exact ⟨R.out, Below.refl _ _⟩
        | x :: y :: r =>
          have h4 : 4 ≤ (s.size : Int) := by rw [size_list, hl]; simp only [List.length_cons]; omega
          have hE : (s.extract 2 4).data.toList = [x, y] := by rw [extract_list, hl]; rfl
          obtain ⟨E, hEE⟩ : ∃ E, s.extract 2 4 = E := ⟨_, rfl⟩
          rw [hEE] at hE
          have P := parse_16b E w hG (by rw [size_list, hE]; simp)
          rw [hE, pS_two] at P
          have PH := Lib.hid P
          have HE := Lib.hid hEE
          rw [if_pos rfl] at E1
          simp only at E1
          clear P hE hEE hl hG hb hi
          cases ha : hexV x with
          | none =>
            rw [ha] at PH E1
            simp only at E1
            have R := Lib.hid (fun v => w_no E1 v 4)
            clear ha E1
            go_enter Tryz.func98, Tryz.ntmps98
            go_wp2_with fail
            refine (I.out _).mono ?_
            rintro e w' ⟨rfl, rfl⟩
            go_wp2_with fail
            rw [HE.out]
            refine PH.out.mono ?_
            rintro e w1 ⟨⟨v, hv, -⟩ | ⟨-, u, T, p, rfl⟩, hb⟩
            · cases hv
            have HB := Lib.hid hb
            clear hb
            go_wp2_with fail
            go_quiet (fail)
            go_wp2_with fail
            go_ret3
            exact ⟨R.out _, below_drewN HB.out _⟩
          | some a =>
            cases hb : hexV y with
            | none =>
              rw [ha, hb] at PH E1
              simp only at E1
              have R := Lib.hid (fun v => w_no E1 v 4)
              clear ha hb E1
              go_enter Tryz.func98, Tryz.ntmps98
              go_wp2_with fail
              refine (I.out _).mono ?_
              rintro e w' ⟨rfl, rfl⟩
              go_wp2_with fail
              rw [HE.out]
              refine PH.out.mono ?_
              rintro e w1 ⟨⟨v, hv, -⟩ | ⟨-, u, T, p, rfl⟩, hb⟩
              · cases hv
              have HB := Lib.hid hb
              clear hb
              go_wp2_with fail
              go_quiet (fail)
              go_wp2_with fail
              go_ret3
              exact ⟨R.out _, below_drewN HB.out _⟩
            | some b =>
              rw [ha, hb] at PH E1
              simp only at E1 PH
              have hlt : 16 * a + b < 256 := by have := hexV_lt ha; have := hexV_lt hb; omega
              have hT : ((UInt8.ofNat (16 * a + b)).toNat : Int) = ((16 * a + b : Nat) : Int) := by simp; omega
              have R := w_yes E1
              rw [hT] at R
              obtain ⟨q, hq⟩ : ∃ q, 16 * a + b = q := ⟨_, rfl⟩
              rw [hq] at R PH hlt
              have RH := Lib.hid R
              have hwr : IntKind.u8.wrap (q : Int) = (q : Int) := by simp [IntKind.wrap, IntKind.bits, IntKind.signed]; omega
              clear ha hb E1 R hT hq hlt
              go_enter Tryz.func98, Tryz.ntmps98
              go_wp2_with fail
              refine (I.out _).mono ?_
              rintro e w' ⟨rfl, rfl⟩
              go_wp2_with fail
              rw [HE.out]
              refine PH.out.mono ?_
              rintro e w1 ⟨⟨v, hv, rfl⟩ | ⟨hno, u, T, p, rfl⟩, hb⟩
              · obtain rfl : q = v := by simpa using hv
                have HB := Lib.hid hb
                clear hb hv
                go_wp2_with fail
                go_quiet (fail)
                go_wp2_with fail
                go_ret3
                exact ⟨RH.out, below_drewN HB.out _⟩
              · exact absurd rfl (hno q)
      · rw [if_neg hx] at E1
        have R := Lib.hid (w_no E1 0 0)
        have b120 : ((d.toNat : Int) != 120) = true := u8_ne (b := 120) hx
        clear hl hG hb E1 hx hi
        go_enter Tryz.func98, Tryz.ntmps98
        go_wp2_with fail
        refine (I.out _).mono ?_
        rintro e w' ⟨rfl, rfl⟩
        go_wp2_with fail
        go_ret3
        exact ⟨R.out, Below.refl _ _⟩

set_option maxHeartbeats 4000000 in
theorem within_any (s : ByteArray) (c : UInt8) (r : Bs) (w : World) (hG : Good w) (hs : s.size ≤ 281474976710656) (hl : s.data.toList = c :: r) :
    Calls Tryz.prog 85 #[.string s] w fun e w' => WOut (within1 (c :: r)) e ∧ Below w.heap.size w w' := by
  obtain ⟨h0, gx⟩ := head_byte hl
  have h0' : 0 < (s.size : Int) := by omega
  by_cases hc : c = 92
  · subst hc
    have E := Lib.hid (escaped_any s r w hG hs hl)
    clear hl hG
    go_enter Tryz.func85, Tryz.ntmps85
    go_wp2_with fail
    refine E.out.mono ?_
    rintro e w1 ⟨⟨v, n, ok, rfl, ho⟩, hb⟩
    have HO := Lib.hid ho
    have HB := Lib.hid hb
    clear ho hb
    go_wp2_with fail
    go_ret3
    exact ⟨⟨v, n, ok, rfl, HO.out⟩, HB.out⟩
  · have b92 : ((c.toNat : Int) == 92) = false := by
      have := u8_eq (a := c) (b := 92)
      rw [show (((92 : UInt8).toNat : Nat) : Int) = 92 from rfl] at this
      rw [this]; simpa using hc
    have S := Lib.hid (fun w => stands_any c 34 w)
    change Hid (∀ w, Calls _ _ #[.int .u8 (c.toNat : Int), .int .u8 34] w _) at S
    have E1 : within1 (c :: r) = if stands c 34 then some (c, 1) else none := by unfold within1; simp only; rw [if_neg hc]
    cases hst : stands c 34 with
    | true =>
      rw [hst] at S E1
      have R := Lib.hid (w_yes E1)
      clear hl hG hc hst E1
      go_enter Tryz.func85, Tryz.ntmps85
      go_wp2_with fail
      refine (S.out _).mono ?_
      rintro e w' ⟨rfl, rfl⟩
      go_wp2_with fail
      go_ret3
      exact ⟨R.out, Below.refl _ _⟩
    | false =>
      rw [hst] at S E1
      have R := Lib.hid (w_no E1 0 0)
      clear hl hG hc hst E1
      go_enter Tryz.func85, Tryz.ntmps85
      go_wp2_with fail
      refine (S.out _).mono ?_
      rintro e w' ⟨rfl, rfl⟩
      go_wp2_with fail
      go_ret3
      exact ⟨R.out, Below.refl _ _⟩
end Go.Proofs.YtdkflmpdelfgoaaGreatDoor
