/-
  The document's based and number: what each call returns. Conditions: a text of at most 4096 bytes; number: one that is not empty.
-/
import Derived.Test.YtjmdcimfmmfinaaDoorLexRefC
import Derived.Test.YtjmdcimfmmfinaaDoorLexNum
namespace Go.Proofs.YtjmdcimfmmfinaaDoor
open Go.RowKit

def BOut (o : Option (Nat × Nat)) : Ending := match o with
  | some (v, k) => .returned (.tuple #[.int .u64 (v : Int), .int .i64 (k : Int)])
  | none => .returned (.tuple #[.int .u64 0, .int .i64 (-1)])
set_option maxRecDepth 100000 in
set_option maxHeartbeats 4000000 in
theorem rbased_any (s : ByteArray) (b : Nat) (w : World) (hs : s.size ≤ 4096) (hb : 2 ≤ b) (hb16 : b ≤ 16) :
    Calls Tryd.prog 75 #[.string s, .int .i64 (b : Int)] w fun e w' => e = BOut (basedF b 0 0 s.data.toList) ∧ w = w' := by
  have X := Lib.hid (fun c w => rhex_any c w)
  have wb : IntKind.u64.wrap (b : Int) = (b : Int) := by rw [IntKind.wrap_u64]; omega
  have b0 : ((b : Int) == 0) = false := by simp; omega
  go_enter Tryd.func75, Tryd.ntmps75
  go_wp2_with fail
  go_loop [6, 7] (fun nv kv => ∃ a k : Nat, k ≤ s.size ∧ nv = .int .u64 (a : Int) ∧ kv = .int .i64 (k : Int) ∧ Hid (a < 18446744073709551616) ∧ Hid (basedF b 0 0 s.data.toList = basedF b a k (s.data.toList.drop k))) (fun _ kv => s.size - (intOf kv).toNat)
  case atStart => exact ⟨0, 0, Nat.zero_le _, rfl, rfl, Lib.hid (by decide), Lib.hid (by rw [List.drop_zero])⟩
  case round =>
    obtain ⟨a, k, hk, rfl, rfl, ha, hrel⟩ := hrel
    by_cases hlt : k < s.size
    · have hd := drop_cons_get hlt
      obtain ⟨c, hcc⟩ : ∃ c, s[k] = c := ⟨_, rfl⟩
      have XC := Lib.hid (fun w => X.out c w)
      have hlt' : (k : Int) < (s.size : Int) := by omega
      rw [hcc] at hd
      cases hv : hexV c with
      | none =>
        have R := Lib.hid (show basedF b 0 0 s.data.toList = some (a, k) by rw [hrel.out, hd, basedF, hv])
        rw [show hexJ c = -1 by unfold hexJ; rw [hv]] at XC
        clear hd hv hrel ha
        go_wp2_with fail
        refine (XC.out _).mono ?_
        rintro e' w' ⟨rfl, rfl⟩
        go_wp2_with fail
        go_ret2
        exact ⟨by rw [R.out]; rfl, rfl⟩
      | some d =>
        have hd16 := hexV_lt hv
        rw [show hexJ c = (d : Int) by unfold hexJ; rw [hv]] at XC
        by_cases hdb : d < b
        · have hdb' : (d : Int) < (b : Int) := by omega
          have wd : IntKind.u64.wrap (d : Int) = (d : Int) := by rw [IntKind.wrap_u64]; omega
          obtain ⟨q, hq⟩ : ∃ q, (18446744073709551615 - d) / b = q := ⟨_, rfl⟩
          have ws : IntKind.u64.wrap (18446744073709551615 - (d : Int)) = ((18446744073709551615 - d : Nat) : Int) := by rw [IntKind.wrap_u64]; omega
          have hal := ha.out
          have hq' : ((18446744073709551615 - d : Nat) : Int) / (b : Int) = (q : Int) := by rw [← hq, Int.natCast_ediv]
          have hq64 : q < 18446744073709551616 := by
            rw [← hq]; exact Nat.lt_of_le_of_lt (Nat.div_le_self _ _) (by omega)
          have wq : IntKind.u64.wrap (q : Int) = (q : Int) := by rw [IntKind.wrap_u64]; omega
          have hiff : q < a ↔ 18446744073709551616 ≤ a * b + d := by
            rw [← hq, Nat.div_lt_iff_lt_mul (by omega)]; omega
          by_cases hbig : q < a
          · have hbig' : (q : Int) < (a : Int) := by omega
            have R := Lib.hid (show basedF b 0 0 s.data.toList = none by rw [hrel.out, hd, basedF, hv]; simp only; rw [if_pos hdb, if_neg (by have := hiff.1 hbig; omega)])
            clear hd hv hrel ha hiff
            go_wp2_with fail
            refine (XC.out _).mono ?_
            rintro e' w' ⟨rfl, rfl⟩
            go_wp2_with fail
            refine (XC.out _).mono ?_
            rintro e' w' ⟨rfl, rfl⟩
            go_wp2_with fail
            refine (XC.out _).mono ?_
            rintro e' w' ⟨rfl, rfl⟩
            go_wp2_with fail
            go_ret2
            exact ⟨by rw [R.out]; rfl, rfl⟩
          · have hlo : a * b + d < 18446744073709551616 := by
              rcases Nat.lt_or_ge (a * b + d) 18446744073709551616 with h | h
              · exact h
              · exact absurd (hiff.2 h) hbig
            have R := Lib.hid (show basedF b 0 0 s.data.toList = basedF b (a * b + d) (k + 1) (s.data.toList.drop (k + 1)) by rw [hrel.out, hd, basedF, hv]; simp only; rw [if_pos hdb, if_pos hlo])
            have v1 : IntKind.u64.wrap ((a : Int) * (b : Int)) = (a : Int) * (b : Int) := by
              rw [← Int.natCast_mul, IntKind.wrap_u64]; omega
            have v2 : IntKind.u64.wrap ((a : Int) * (b : Int) + (d : Int)) = ((a * b + d : Nat) : Int) := by
              rw [← Int.natCast_mul, IntKind.wrap_u64]; omega
            have w9 : IntKind.i64.wrap ((k : Int) + 1) = ((k + 1 : Nat) : Int) := by rw [IntWalk.i64_in _ (by omega)]; omega
            have HL := Lib.hid hlo
            have hbig' : (a : Int) ≤ (q : Int) := by omega
            have hbig2 : ¬ ((q : Int) < (a : Int)) := by omega
            clear hd hv hrel ha hiff hlo
            go_wp2_with fail
            refine (XC.out _).mono ?_
            rintro e' w' ⟨rfl, rfl⟩
            go_wp2_with fail
            refine (XC.out _).mono ?_
            rintro e' w' ⟨rfl, rfl⟩
            go_wp2_with fail
            refine (XC.out _).mono ?_
            rintro e' w' ⟨rfl, rfl⟩
            go_wp2_with fail
            exact ⟨⟨a * b + d, k + 1, by omega, by first | rfl | rw [← v2] | (rw [v2]) | simp, by first | rfl | rw [← w9] | simp, HL, R⟩, by simp [intOf]; omega⟩
        · have hdb' : (b : Int) ≤ (d : Int) := by omega
          have R := Lib.hid (show basedF b 0 0 s.data.toList = some (a, k) by rw [hrel.out, hd, basedF, hv]; simp only; rw [if_neg hdb])
          clear hd hv hrel ha
          go_wp2_with fail
          refine (XC.out _).mono ?_
          rintro e' w' ⟨rfl, rfl⟩
          go_wp2_with fail
          refine (XC.out _).mono ?_
          rintro e' w' ⟨rfl, rfl⟩
          go_wp2_with fail
          go_ret2
          exact ⟨by rw [R.out]; rfl, rfl⟩
    · have R := Lib.hid (show basedF b 0 0 s.data.toList = some (a, k) by
        rw [hrel.out, List.drop_eq_nil_of_le (by rw [← size_list]; omega)]; rfl)
      have hlt' : (s.size : Int) ≤ (k : Int) := by omega
      clear hrel ha
      go_wp2_with fail
      go_ret2
      exact ⟨by rw [R.out]; rfl, rfl⟩
end Go.Proofs.YtjmdcimfmmfinaaDoor
