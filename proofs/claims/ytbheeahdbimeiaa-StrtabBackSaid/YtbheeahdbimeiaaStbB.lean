/-
  What each call of the document's zero returns. Conditions: how the arguments lie.
-/
import Derived.Test.YtbheeahdbimeiaaStbA
namespace Go.Proofs.Ytbheeahdbimeiaa
open Go.RowKit
set_option linter.unusedVariables false
set_option linter.unusedSimpArgs false

/-- a name has a byte 0 -/
def zeroB (s : BA) : Bool := s.data.toList.any (· == 0)
set_option maxHeartbeats 1000000 in
theorem rzero_any (s : BA) (w : World) (hs : s.size ≤ 4611686018427387904) :
    Calls Try.prog 28 #[.string s] w fun e w' => e = .returned (.bool (zeroB s)) ∧ w = w' := by
  go_enter Try.func28, Try.ntmps28
  go_wp2_with fail
  go_loopw [3] (fun iv wr => ∃ (k : Nat), k ≤ s.size ∧ iv = .int .i64 (k : Int) ∧ Hid ((s.data.toList.take k).any (· == 0) = false) ∧ wr = w) (fun iv _ => s.size - (intOf iv).toNat)
  case atStart => exact ⟨0, Nat.zero_le _, rfl, Lib.hid rfl, rfl⟩
  case round =>
    obtain ⟨k, hk, rfl, HZ, rfl⟩ := hrel
    by_cases hlt : (k : Int) < (s.size : Int)
    · have kp : (0 : Int) ≤ (k : Int) := by omega
      have hks : k < s.size := by omega
      have hd : s.data.toList[k]? = some (s[k]'hks) := by rw [Array.getElem?_toList]; exact Array.getElem?_eq_getElem hks
      have w9 : IntKind.i64.wrap ((k : Int) + 1) = ((k + 1 : Nat) : Int) := by rw [IntWalk.i64_in _ (by omega)]; omega
      obtain ⟨b, hb⟩ : ∃ b, s[k]'hks = b := ⟨_, rfl⟩
      have HD := Lib.hid (hb ▸ hd)
      clear hd
      by_cases h0 : b = 0
      · subst h0
        go_wp2_with fail
        go_ret
        exact ⟨ret1b (by unfold zeroB; exact (List.any_eq_true.2 ⟨_, List.mem_of_getElem? HD.out, by decide⟩).symm), rfl⟩
      · have hbn : (((b.toNat : Nat) : Int) == 0) = false := by
          have : b.toNat ≠ 0 := fun h => h0 (UInt8.toNat_inj.1 (by rw [h]; rfl))
          simp; omega
        have HN := Lib.hid (show (s.data.toList.take (k + 1)).any (· == 0) = false by
          obtain ⟨h1, h2⟩ := List.getElem?_eq_some_iff.1 HD.out
          rw [List.take_succ_eq_append_getElem h1, List.any_append, HZ.out, h2]
          simp [h0])
        go_wp2_with fail
        go_roundw
        case rel => exact ⟨k + 1, by omega, by first | rfl | rw [← w9], HN, by first | rfl | trivial⟩
        case measure => simp [intOf]; omega
    · have e : k = s.size := by omega
      subst e
      have HE := Lib.hid (show zeroB s = false by
        have := HZ.out
        rwa [List.take_of_length_le (by rw [Array.length_toList]; exact Nat.le_refl _)] at this)
      go_wp2_with fail
      go_ret
      exact ⟨ret1b HE.out.symm, rfl⟩
/-- where a name comes first among others -/
def firstI (L : List BA) (i : Nat) : Nat := ((List.range i).find? fun k => decide (L.getD k default = L.getD i default)).getD i
theorem firstI_le (L : List BA) (i : Nat) : firstI L i ≤ i := by
  unfold firstI
  cases h : (List.range i).find? fun k => decide (L.getD k default = L.getD i default) with
  | none => exact Nat.le_refl _
  | some k => have := List.mem_range.1 (List.mem_of_find?_eq_some h); exact Nat.le_of_lt this
theorem firstI_found {L : List BA} {i k : Nat} (hk : k < i) (h : L.getD k default = L.getD i default) (hno : ∀ j, j < k → L.getD j default ≠ L.getD i default) : firstI L i = k := by
  unfold firstI
  have : ((List.range i).find? fun k => decide (L.getD k default = L.getD i default)) = some k := by
    rw [List.find?_eq_some_iff_append]
    refine ⟨decide_eq_true h, List.range k, (List.range (i - k - 1)).map (· + (k + 1)), ?_, fun j hj => by rw [decide_eq_false (hno j (List.mem_range.1 hj))]; rfl⟩
    have : i = k + (1 + (i - k - 1)) := by omega
    conv => lhs; rw [this]
    rw [List.range_add, List.range_add]
    simp [Function.comp_def, Nat.add_comm, Nat.add_left_comm]
  rw [this]; rfl
theorem firstI_none {L : List BA} {i : Nat} (hno : ∀ j, j < i → L.getD j default ≠ L.getD i default) : firstI L i = i := by
  unfold firstI
  have : ((List.range i).find? fun k => decide (L.getD k default = L.getD i default)) = none := by
    rw [List.find?_eq_none]
    intro j hj
    rw [decide_eq_false (hno j (List.mem_range.1 hj))]
    decide
  rw [this]; rfl
theorem ba_ext {a b : BA} (h : a.data.toList = b.data.toList) : a = b := by
  obtain ⟨⟨x⟩⟩ := a
  obtain ⟨⟨y⟩⟩ := b
  simp only at h
  subst h; rfl
theorem ba_ne {a b : BA} (h : ¬ a = b) : (ByteArray.toList a == ByteArray.toList b) = false := by
  rw [ByteArray.toList_eq, ByteArray.toList_eq]
  cases e : (a.data.toList == b.data.toList)
  · rfl
  · exact absurd (ba_ext (by simpa using e)) h
set_option maxHeartbeats 1000000 in
theorem rfirst_any (v : Value) (L : List BA) (i : Nat) (w : World) (hL : StrO w v L) (hi : i < L.length) :
    Calls Try.prog 29 #[v, .int .i64 (i : Int)] w fun e w' => e = .returned (.int .i64 ((firstI L i : Nat) : Int)) ∧ Below w.heap.size w w' := by
  have HL := Lib.hid hL
  obtain ⟨aa, ca, rfl⟩ := hL.slice
  have hl6 : L.length ≤ maxLen := by have := RowsO.len HL.out; rwa [List.length_map] at this
  unfold maxLen at hl6
  clear hL
  go_enter Try.func29, Try.ntmps29
  go_wp2_with fail
  go_loopw [5] (fun iv wr => ∃ (k m : Nat), k ≤ i ∧ iv = .int .i64 (k : Int) ∧ Hid (∀ j, j < k → L.getD j default ≠ L.getD i default) ∧ wr = w.drewN m) (fun iv _ => i - (intOf iv).toNat)
  case atStart => exact ⟨0, 0, Nat.zero_le _, rfl, Lib.hid (fun j hj => by omega), rfl⟩
  case round =>
    obtain ⟨k, m, hk, rfl, HN, rfl⟩ := hrel
    by_cases hlt : (k : Int) < (i : Int)
    · obtain ⟨g, off, cap, y, hy, hv, hg, y0⟩ := HL.out.at (k := k) (by omega)
      cases hv
      obtain ⟨g', off', cap', z, hz, hv, hg', z0⟩ := HL.out.at (k := i) hi
      cases hv
      have w9 : IntKind.i64.wrap ((k : Int) + 1) = ((k + 1 : Nat) : Int) := by rw [IntWalk.i64_in _ (by omega)]; omega
      have kp : (0 : Int) ≤ (k : Int) := by omega
      have ip : (0 : Int) ≤ (i : Int) := by omega
      have kl : (k : Int) < (L.length : Int) := by omega
      have il : (i : Int) < (L.length : Int) := by omega
      have HY := Lib.hid (show L.getD k default = y by simp [List.getD, hy])
      have HZ := Lib.hid (show L.getD i default = z by simp [List.getD, hz])
      clear hy hz
      by_cases hyz : y = z
      · subst hyz
        have HE := Lib.hid (firstI_found (show k < i by omega) (HY.out.trans HZ.out.symm) HN.out)
        go_wp2_with fail
        go_quiet (fail)
        go_wp2_with fail
        go_ret
        exact ⟨ret1 (by rw [HE.out]), below_drewN (below_drewN (Below.refl _ _) _) _⟩
      · have hb := ba_ne hyz
        go_wp2_with fail
        go_quiet (fail)
        go_wp2_with fail
        go_roundw
        case rel => exact ⟨k + 1, _, by omega, by first | rfl | rw [← w9], Lib.hid (fun j hj => by rcases Nat.lt_succ_iff_lt_or_eq.1 hj with h | h; exact HN.out j h; subst h; rw [HY.out, HZ.out]; exact hyz), by first | rfl | trivial⟩
        case measure => simp [intOf]; omega
    · have e : k = i := by omega
      subst e
      have HE := Lib.hid (firstI_none HN.out)
      go_wp2_with fail
      go_ret
      exact ⟨ret1 (by rw [HE.out]), below_drewN (Below.refl _ _) _⟩
end Go.Proofs.Ytbheeahdbimeiaa
