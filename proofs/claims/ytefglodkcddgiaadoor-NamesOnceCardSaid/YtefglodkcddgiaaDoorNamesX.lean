/-
  slices.Equal at two slices of the same rows: true; the document's All. No conditions beyond those that each lemma states.
-/
import Derived.Test.YtefglodkcddgiaaDoorNamesW
import Derived.BigQuiet
namespace Go.Proofs.YtefglodkcddgiaaDoor
open Go.RowKit Go.Shelf

set_option maxRecDepth 100000 in
set_option maxHeartbeats 4000000 in
theorem equal_rows (s1 s2 : Value) (T : List NRow) (w : World) (h1 : SliceOf w s1 T) (h2 : SliceOf w s2 T) (hlen : T.length ≤ 66) :
    Calls Tryd.prog 19 #[s1, s2] w fun e w' => e = .returned (.bool true) ∧ Below w.heap.size w w' := by
  have LN1 := slice_len h1
  have LN2 := slice_len h2
  have R1 := Lib.hid h1
  have R2 := Lib.hid h2
  clear h1 h2
  go_enter Tryd.func19, Tryd.ntmps19
  go_wp2_with fail
  go_loopw [13] (fun i wr => ∃ k q : Nat, k ≤ T.length ∧ i = .int .i64 (k : Int) ∧ wr = w.drewN q) (fun i _ => T.length - (intOf i).toNat)
  case atStart => exact ⟨0, 0, Nat.zero_le _, rfl, rfl⟩
  case round =>
    obtain ⟨k, q, hk, rfl, rfl⟩ := hrel
    obtain ⟨X, hX⟩ : ∃ X, w.drewN q = X := ⟨_, rfl⟩
    rw [hX]
    have HX := Lib.hid hX
    clear hX
    by_cases hlt : (k : Int) < (T.length : Int)
    · have hlt' : k < T.length := by omega
      have c1 : ∀ p, w.cell? p = X.cell? p := fun p => by rw [← HX.out]; simp
      obtain ⟨g1, cap1, x, hx, rfl, x1, x2⟩ := slice_at R1.out hlt'
      obtain ⟨g2, cap2, x', hx', rfl, y1, y2⟩ := slice_at R2.out hlt'
      obtain rfl : x = x' := Option.some.inj (hx.symm.trans hx')
      rw [c1] at x1 x2 y1 y2
      obtain ⟨D, hD⟩ : ∃ D, (⟨x.1.toArray⟩ : ByteArray) = D := ⟨_, rfl⟩
      rw [hD] at x1 y1
      obtain ⟨b, hb⟩ : ∃ b, x.2 = b := ⟨_, rfl⟩
      rw [hb] at x2 y2
      have w9 : IntKind.i64.wrap ((k : Int) + 1) = ((k + 1 : Nat) : Int) := by rw [IntWalk.i64_in _ (by omega)]; omega
      clear hx hx' hD hb c1
      go_wp2_with fail
      go_quiet (fail)
      go_wp2_with fail
      all_goals exact ⟨⟨k + 1, q + nq, by omega, by first | rfl | rw [← w9], by rw [← HX.out]; simp⟩, by simp [intOf]; omega⟩
    · go_wp2_with fail
      go_ret
      exact ⟨rfl, by rw [← HX.out]; exact below_drewN (Below.refl _ _) q⟩

theorem own_keep {B : Nat} {e : TypeId} {k : Nat} {v : Value} {n : Nat} {xs : List Value} {w w' : World} (h : w.ownsRow B e k v n xs) (hb : Below w.heap.size w w') : w'.ownsRow B e k v n xs :=
  h.kept (row := none) ⟨hb.os, hb.tape, hb.output, hb.size, fun j hj _ => hb.block j hj⟩ (by cases hv : v.ownBlock <;> simp)
theorem regTo_len (n : Nat) : (regTo n).length ≤ n := by
  have h := List.length_filterMap_le (fun m => (regText (regN m) (regX m) (regP m)).map fun t => (t, m)) (List.range n)
  rw [List.length_range] at h
  exact h

set_option maxRecDepth 100000 in
set_option maxHeartbeats 4000000 in
theorem rall_1 (w : World) :
    Calls Tryd.prog 21 #[.int .i64 1] w fun e w' => ∃ v, e = .returned v ∧ SliceOf w' v regT ∧ Below w.heap.size w w' := by
  obtain ⟨i0, hi, hz0, hz1, hz2⟩ := info_parts infoRow
  have NM := Lib.hid (fun (n : Int) (w : World) => rname_1 n w)
  go_enter Tryd.func21, Tryd.ntmps21
  go_wp2_with fail
  go_loopw [3, 4] (fun lv nv wr => ∃ n : Nat, n ≤ 128 ∧ nv = .int .i64 (n : Int) ∧ wr.ownsRow w.heap.size 39 2 lv (regTo n).length (rowsC (regTo n)) ∧ Below w.heap.size w wr) (fun _ nv _ => 128 - (intOf nv).toNat)
  case atStart => exact ⟨0, by omega, rfl, World.ownsRow_nil _ _ _ _, Below.refl _ _⟩
  case round =>
    obtain ⟨n, hn, rfl, hown, hbr⟩ := hrel
    by_cases hlt : (n : Int) < 128
    · have hlt' : n < 128 := by omega
      have w9 : IntKind.i64.wrap ((n : Int) + 1) = ((n + 1 : Nat) : Int) := by rw [IntWalk.i64_in _ (by omega)]; omega
      have hlen := regTo_len n
      cases hT : rlook regT (n : Int) with
      | none =>
        have HN := Lib.hid (fun w => (NM.out (n : Int) w).mono fun e w' h => (show e = .returned (.tuple #[.string ⟨#[]⟩, .int .i64 30]) ∧ Below w.heap.size w w' from ⟨by rw [h.1, nameOf_1, hT]; rfl, h.2⟩))
        have HT := Lib.hid (regTo_no hlt' hT)
        clear hT
        go_wp2_with fail
        refine (HN.out _).mono ?_
        rintro e w1 ⟨rfl, hb⟩
        have hown1 := own_keep hown hb
        have hbr1 := Below.thn hbr hbr.size hb
        go_wp2_with fail
        go_roundw
        case rel => exact ⟨n + 1, by omega, by first | rfl | rw [← w9], by rw [HT.out]; exact hown1, hbr1⟩
        case measure => simp [intOf]; omega
      | some t =>
        obtain ⟨D, hD⟩ : ∃ D, (⟨t.toArray⟩ : ByteArray) = D := ⟨_, rfl⟩
        have HN := Lib.hid (fun w => (NM.out (n : Int) w).mono fun e w' h => (show e = .returned (.tuple #[.string D, .int .i64 0]) ∧ Below w.heap.size w w' from ⟨by rw [h.1, nameOf_1, hT, ← hD]; rfl, h.2⟩))
        have HT := Lib.hid (regTo_yes hlt' hT)
        have HD := Lib.hid hD
        clear hT hD
        go_wp2_with fail
        refine (HN.out _).mono ?_
        rintro e w1 ⟨rfl, hb⟩
        have hown1 := own_keep hown hb
        have hbr1 := Below.thn hbr hbr.size hb
        have hz := hbr1.size
        have hcap : (regTo n).length + 1 ≤ 129 := by omega
        go_wp2_with (at_builtin; refine wpList_append_own _ rfl _ _ 37 rfl w.heap.size 39 i0 (.agg #[.string ⟨#[]⟩, .int .i64 0]) 2 24 Tryd.underlying37 hi hz0 hz1 hz2 rfl (by decide) _ _ _ rfl (hown1.alloc _) ⟨w1.heap.size, 0, none⟩ 1 1 [.string D, .int .i64 (n : Int)] rfl rfl (cell_two_new _ _ _ _) (by simp [Value.oneCell']) (by unfold maxLen; omega) (by omega) (by simp; omega) ?_; intro v' w1' hown' hgrow _)
        go_roundw
        case rel =>
          refine ⟨n + 1, by omega, by first | rfl | rw [← w9], ?_, (hbr1.alloc hz _).grown hgrow (by simp; omega) (own_base hown1)⟩
          rw [HT.out, rowsC_snoc, List.length_append, HD.out]
          exact hown'
        case measure => simp [intOf]; omega
    · obtain rfl : n = 128 := by omega
      rw [regTo_all] at hown
      go_wp2_with fail
      go_ret
      exact ⟨_, rfl, slice_of_own hown, hbr⟩
theorem rall_any (k : Int) (w : World) :
    Calls Tryd.prog 21 #[.int .i64 k] w fun e w' => ∃ v, e = .returned v ∧ SliceOf w' v (tbl k) ∧ Below w.heap.size w w' := by
  by_cases h : k = 1
  · subst h; exact rall_1 w
  · have b1 : (k != 1) = true := by simp [h]
    have TB := Lib.hid (fun w => table_any k w)
    rw [rtbl_of h] at TB
    generalize tbl k = T at *
    clear h
    go_enter Tryd.func21, Tryd.ntmps21
    go_wp2_with fail
    refine (TB.out _).mono ?_
    rintro e w1 ⟨v, rfl, hS, hb⟩
    go_wp2_with fail
    go_ret
    exact ⟨_, rfl, hS, hb⟩
end Go.Proofs.YtefglodkcddgiaaDoor
