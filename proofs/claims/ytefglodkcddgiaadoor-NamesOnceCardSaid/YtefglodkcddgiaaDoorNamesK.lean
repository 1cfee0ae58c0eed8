/-
  The iterator over the names of registers. No conditions.
-/
import Derived.Test.YtefglodkcddgiaaDoorNamesG
namespace Go.Proofs.YtefglodkcddgiaaDoor
open Go.RowKit Go.Shelf
attribute [local go_sem] Oper.semAt_some

/-- the registers whose numbers lie below k -/
def regTo (k : Nat) : List NRow := (List.range k).filterMap fun m => (regText (regN m) (regX m) (regP m)).map fun t => (t, m)
theorem regTo_all : regTo 128 = regT := rfl
theorem regTo_yes {k : Nat} {t : List UInt8} (hk : k < 128) (h : rlook regT (k : Int) = some t) : regTo (k + 1) = regTo k ++ [(t, k)] := by
  rw [reg_rlook k hk] at h
  unfold regTo
  rw [List.range_succ, List.filterMap_append]
  simp [h]
theorem regTo_no {k : Nat} (hk : k < 128) (h : rlook regT (k : Int) = none) : regTo (k + 1) = regTo k := by
  rw [reg_rlook k hk] at h
  unfold regTo
  rw [List.range_succ, List.filterMap_append]
  simp [h]
theorem regTo_prefix {j k : Nat} (h : j ≤ k) : regTo j <+: regTo k := by
  unfold regTo
  rw [show k = j + (k - j) by omega, List.range_add, List.filterMap_append]
  exact List.prefix_append _ _
theorem regTo_one : ∀ k : Nat, k < 128 → rlook regT (k : Int) ≠ none → (regTo k).length < regT.length := by decide +kernel

set_option maxRecDepth 100000 in
set_option maxHeartbeats 4000000 in
theorem registers_tells : Tells 41 regT := fun n n₀ w hn => fun l J Jx V hV hJ hJx hY h0 => by
  refine callsIn_of_wp Tryd.func41 rfl trivial ?_ rfl
  simp only [Tryd.ntmps41, List.size_toArray, List.length_cons, List.length_nil, Nat.reduceAdd, Nat.reduceSub, Array.replicate_succ, Array.replicate_zero, List.push_toArray, List.append_toArray, List.nil_append, List.cons_append]
  gi_wp2
  gi_loopw [5] (fun p wr => ∃ k : Nat, p = .int .i64 (k : Int) ∧ k ≤ 128 ∧ J (regTo k) wr) (fun p _ => 128 - (intOf p).toNat)
  case atStart => exact ⟨0, rfl, by decide, h0⟩
  case round =>
    obtain ⟨k, rfl, hk, hJs⟩ := hrel
    by_cases hlt : (k : Int) < 128
    · have RT := Lib.hid (regText_any (k : Int) wr)
      have w9 : IntKind.i64.wrap ((k : Int) + 1) = ((k + 1 : Nat) : Int) := by rw [IntWalk.i64_in _ (by omega)]; omega
      cases hr : rlook regT (k : Int) with
      | some t =>
        rw [strOut_yes hr] at RT
        have hT := Lib.hid (regTo_yes (by omega) hr)
        have hl := Lib.hid (regTo_one k (by omega) (by rw [hr]; simp))
        clear hr
        gi_wp2_with fail
        refine ⟨trivial, (fun h => absurd h (by decide)), ?_⟩
        refine (callsIn_wide.2 RT.out).mono ?_
        rintro e W2 ⟨rfl, hb⟩
        have hJ2 : J (regTo k) W2 := hJ _ wr W2 none hJs (below_grown hb) (fun r e => by cases e)
        obtain ⟨fn, tmps, assign, body, hy1, hR⟩ := hY (regTo k) (t, k) W2 hJ2 hl.out
        dsimp only [encR] at hy1
        gi_wp2
        refine ⟨fun h => absurd h (by decide), ?_⟩
        refine hR.mono ?_
        rintro e W3 (⟨rfl, hJ3, hk3⟩ | ⟨rfl, hJx3⟩)
        · gi_wp2
          go_roundw
          case rel => exact ⟨k + 1, by first | rfl | rw [← w9], by omega, by rw [hT.out]; exact hJ3⟩
          case measure => simp [intOf]; omega
        · gi_wp2
          refine bodyPost_ret (results_none rfl _ _ _) rfl ?_
          exact ⟨⟨_, rfl⟩, .inr ⟨_, by rw [← hT.out, ← regTo_all]; exact regTo_prefix (by omega), hJx3⟩⟩
      | none =>
        rw [strOut_no hr] at RT
        have hT := Lib.hid (regTo_no (by omega) hr)
        clear hr
        gi_wp2_with fail
        refine ⟨trivial, (fun h => absurd h (by decide)), ?_⟩
        refine (callsIn_wide.2 RT.out).mono ?_
        rintro e W2 ⟨rfl, hb⟩
        have hJ2 : J (regTo k) W2 := hJ _ wr W2 none hJs (below_grown hb) (fun r e => by cases e)
        gi_wp2
        refine ⟨fun _ h => (by cases h), ?_⟩
        gi_wp2
        go_roundw
        case rel => exact ⟨k + 1, by first | rfl | rw [← w9], by omega, by rw [hT.out]; exact hJ2⟩
        case measure => simp [intOf]; omega
    · have A1 := Lib.hid (show k = 128 by omega)
      gi_wp2
      go_end0
      rw [A1.out, regTo_all] at hJs
      first
        | exact ⟨⟨_, rfl⟩, .inl ⟨_, rfl, hJs⟩⟩
        | exact ⟨⟨_, rfl⟩, .inl hJs⟩
end Go.Proofs.YtefglodkcddgiaaDoor
