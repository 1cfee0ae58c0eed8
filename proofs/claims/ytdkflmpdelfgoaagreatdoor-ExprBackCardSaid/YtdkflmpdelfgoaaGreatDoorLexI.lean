/-
  What each call of the program's number returns. Conditions: what the variables of the library hold (Good), and the sizes that each lemma states.
-/
import Derived.Test.YtdkflmpdelfgoaaGreatDoorLexH
namespace Go.Proofs.YtdkflmpdelfgoaaGreatDoor
open Go.RowKit

/-- a piece as a value -/
def pcV (k : Int) (t : Bs) (n : Int) (p z e : Int) : Value := .agg #[.int .i64 k, .string ⟨t.toArray⟩, .int .u64 n, .int .i64 p, .int .i64 z, .int .i64 e]
def NumPc (s : Bs) (e : Ending) : Prop := (∃ v n : Nat, numB s = some (v, n) ∧ e = .returned (pcV 2 [] v 0 n 0)) ∨ (numB s = none ∧ e = .returned (pcV 0 [] 0 0 0 81))
theorem dig_num {s : Bs} (h : s.head? ≠ some 39) : numB s = (parseD (s.take (run isLD s))).map fun v => (v, run isLD s) := by
  unfold numB; rw [if_neg h]
theorem below_set6 {B : Nat} {w w1 : World} {b : Nat} (h : Below B w w1) (hb : B ≤ b) (v0 v1 v2 v3 v4 v5 : Value) :
    Below B w ((((((w1.setCell ⟨b, 0, none⟩ v0).setCell ⟨b, 1, none⟩ v1).setCell ⟨b, 2, none⟩ v2).setCell ⟨b, 3, none⟩ v3).setCell ⟨b, 4, none⟩ v4).setCell ⟨b, 5, none⟩ v5) :=
  (((((h.setCell (p := ⟨b, 0, none⟩) hb v0).setCell (p := ⟨b, 1, none⟩) hb v1).setCell (p := ⟨b, 2, none⟩) hb v2).setCell (p := ⟨b, 3, none⟩) hb v3).setCell (p := ⟨b, 4, none⟩) hb v4).setCell (p := ⟨b, 5, none⟩) hb v5
theorem num_yes {s : Bs} {v n : Int} (h : NumOut (numB s) v n true) : NumPc s (.returned (pcV 2 [] v 0 n 0)) := by
  rcases h with ⟨_, u, m, h1, rfl, rfl⟩ | ⟨h, _⟩
  · exact .inl ⟨u, m, h1, rfl⟩
  · cases h
theorem num_no {s : Bs} {v n : Int} (h : NumOut (numB s) v n false) : NumPc s (.returned (pcV 0 [] 0 0 0 81)) := by
  rcases h with ⟨h, _⟩ | ⟨_, h1⟩
  · cases h
  · exact .inr ⟨h1, rfl⟩
set_option maxHeartbeats 4000000 in
theorem number_any (s : ByteArray) (c : UInt8) (r : Bs) (w : World) (hG : Good w) (hs : s.size ≤ 281474976710656) (hl : s.data.toList = c :: r) :
    Calls Tryz.prog 50 #[.string s] w fun e w' => NumPc (c :: r) e ∧ Below w.heap.size w w' := by
  have D := Lib.hid (fun w1 (hb : Below w.heap.size w w1) => digits_any s w1 (hG.thn hb) hs)
  rw [hl] at D
  obtain ⟨h0, gx⟩ := head_byte hl
  have h0' : 0 < (s.size : Int) := by omega
  have HB0 := Lib.hid (below1 w (.cells #[.int .i64 0, .string ⟨#[]⟩, .int .u64 0, .int .i64 0, .int .i64 0, .int .i64 0] 64))
  by_cases hc : c = 39
  · subst hc
    have C := Lib.hid (fun w => code_any s w (by unfold maxLen; omega) (by rw [hl]; rfl))
    rw [hl] at C
    clear hl hG
    go_enter Tryz.func50, Tryz.ntmps50
    go_wp2_with fail
    refine (D.out _ HB0.out).mono ?_
    rintro e w1 ⟨⟨v, n, ok, rfl, -⟩, hb⟩
    have hb1 := Lib.hid (Below.thn HB0.out HB0.out.size hb)
    obtain ⟨hcc, hff⟩ := bcell hb
    simp only [World.size_alloc] at hcc hff
    have hz : w.heap.size < w1.heap.size := by have := hb.size; simp at this; omega
    clear hb
    go_wp2_with fail
    refine (C.out _).mono ?_
    rintro e w2 ⟨⟨v, n, ok, rfl, ho⟩, rfl⟩
    cases ok with
    | true =>
      have HO := Lib.hid (num_yes ho)
      clear ho
      go_wp2_with fail
      exact bodyPost_ret (v := pcV 2 [] v 0 n 0) (by simp [results, Tryz.results50, hcc, pcV, go_sem]) rfl ⟨HO.out, below_set6 hb1.out (Nat.le_refl _) _ _ _ _ _ _⟩
    | false =>
      have HO := Lib.hid (num_no ho)
      clear ho
      go_wp2_with fail
      exact bodyPost_ret (v := pcV 0 [] 0 0 0 81) (by simp [results, Tryz.results50, hcc, pcV, go_sem]) rfl ⟨HO.out, below_set6 hb1.out (Nat.le_refl _) _ _ _ _ _ _⟩
  · have hb39 : ((c.toNat : Int) == 39) = false := by
      have := u8_eq (a := c) (b := 39)
      rw [show (((39 : UInt8).toNat : Nat) : Int) = 39 from rfl] at this
      rw [this]; simpa using hc
    have DN := Lib.hid (dig_num (s := c :: r) (by simpa using hc))
    clear hl hG hc
    go_enter Tryz.func50, Tryz.ntmps50
    go_wp2_with fail
    refine (D.out _ HB0.out).mono ?_
    rintro e w1 ⟨⟨v, n, ok, rfl, ho⟩, hb⟩
    rw [← DN.out] at ho
    have hb1 := Lib.hid (Below.thn HB0.out HB0.out.size hb)
    obtain ⟨hcc, hff⟩ := bcell hb
    simp only [World.size_alloc] at hcc hff
    have hz : w.heap.size < w1.heap.size := by have := hb.size; simp at this; omega
    clear hb
    cases ok with
    | true =>
      have HO := Lib.hid (num_yes ho)
      clear ho
      go_wp2_with fail
      exact bodyPost_ret (v := pcV 2 [] v 0 n 0) (by simp [results, Tryz.results50, hcc, pcV, go_sem]) rfl ⟨HO.out, below_set6 hb1.out (Nat.le_refl _) _ _ _ _ _ _⟩
    | false =>
      have HO := Lib.hid (num_no ho)
      clear ho
      go_wp2_with fail
      exact bodyPost_ret (v := pcV 0 [] 0 0 0 81) (by simp [results, Tryz.results50, hcc, pcV, go_sem]) rfl ⟨HO.out, below_set6 hb1.out (Nat.le_refl _) _ _ _ _ _ _⟩
end Go.Proofs.YtdkflmpdelfgoaaGreatDoor
