/-
  What each call of Unquote, Clone, copied and of the readers name, quotes, sign returns, and of skipped. Conditions: what the variables of the library hold (Good), and the sizes that each lemma states.
-/
import Derived.Test.YtdkflmpdelfgoaaGreatDoorLexL
namespace Go.Proofs.YtdkflmpdelfgoaaGreatDoor
open Go.RowKit

theorem clone_any (s : ByteArray) (w : World) (hs : s.size ≤ 281474976710656) :
    Calls Tryz.prog 45 #[.string s] w fun e w' => e = .returned (.string s) ∧ Below w.heap.size w w' := by
  have C := Lib.hid (Tryz.stringslite_Clone s w hs)
  clear hs
  go_enter Tryz.func45, Tryz.ntmps45
  go_wp2_with fail
  refine C.out.mono ?_
  rintro e w1 ⟨rfl, hb⟩
  have HB := Lib.hid hb
  clear hb
  go_wp2_with fail
  go_ret
  exact ⟨rfl, HB.out⟩
theorem copied_any (s : ByteArray) (n : Nat) (w : World) (hs : s.size ≤ 281474976710656) (hn : n ≤ s.size) :
    Calls Tryz.prog 68 #[.string s, .int .i64 (n : Int)] w fun e w' => e = .returned (.string ⟨(s.data.toList.take n).toArray⟩) ∧ Below w.heap.size w w' := by
  have hE : s.extract 0 n = ⟨(s.data.toList.take n).toArray⟩ := bytes_eq (by rw [list_take rfl])
  have C := clone_any (s.extract 0 n) w (by rw [size_list, list_take rfl, List.length_take]; rw [← size_list]; omega)
  have CH := Lib.hid C
  have HE := Lib.hid hE
  have hn' : (n : Int) ≤ (s.size : Int) := by omega
  clear C hE hs
  go_enter Tryz.func68, Tryz.ntmps68
  go_wp2_with fail
  refine CH.out.mono ?_
  rintro e w1 ⟨rfl, hb⟩
  have HB := Lib.hid hb
  clear hb
  go_wp2_with fail
  go_ret
  exact ⟨ret1s HE.out, HB.out⟩

def UnqOut (o : Option Bs) (e : Ending) : Prop := (∃ b : Bs, o = some b ∧ e = .returned (.tuple #[.string ⟨b.toArray⟩, .int .i64 0])) ∨ (o = none ∧ e = .returned (.tuple #[.string ⟨#[]⟩, .int .i64 82]))
/-- what a reader answers -/
def PcOut (o : Option (Int × Bs × Nat × Nat)) (err : Int) (e : Ending) : Prop := (∃ (k : Int) (t : Bs) (n z : Nat), o = some (k, t, n, z) ∧ e = .returned (pcV k t n 0 z 0)) ∨ (o = none ∧ e = .returned (pcV 0 [] 0 0 0 err))
set_option maxHeartbeats 2000000 in
theorem rname_any (s : ByteArray) (w : World) (hs : s.size ≤ 281474976710656) :
    Calls Tryz.prog 49 #[.string s] w fun e w' => PcOut (some (1, s.data.toList.take (run isLD s.data.toList), 0, run isLD s.data.toList)) 0 e ∧ Below w.heap.size w w' := by
  have K := Lib.hid (fun w => count_any 6 s w (by decide) (by unfold maxLen; omega))
  rw [show hasB 6 = isLD from funext hasB_6] at K
  have hn := run_le isLD s.data.toList
  rw [← size_list] at hn
  generalize run isLD s.data.toList = n at *
  have C := Lib.hid (fun w => copied_any s n w hs hn)
  generalize s.data.toList.take n = t at *
  obtain ⟨D, hD⟩ : ∃ D, (⟨t.toArray⟩ : ByteArray) = D := ⟨_, rfl⟩
  have R : PcOut (some (1, t, 0, n)) 0 (.returned (pcV 1 t 0 0 n 0)) := .inl ⟨1, t, 0, n, rfl, rfl⟩
  unfold pcV at R
  rw [hD] at C R
  have RH := Lib.hid R
  clear hs R hD
  go_enter Tryz.func49, Tryz.ntmps49
  go_wp2_with fail
  refine (K.out _).mono ?_
  rintro e w' ⟨rfl, rfl⟩
  go_wp2_with fail
  refine (C.out _).mono ?_
  rintro e w1 ⟨rfl, hb⟩
  have hb1 := Lib.hid (Below.thn (below1 w _) (below1 w _).size hb)
  obtain ⟨hcc, hff⟩ := bcell hb
  simp only [World.size_alloc] at hcc hff
  have hz : w.heap.size < w1.heap.size := by have := hb.size; simp at this; omega
  clear hb
  go_wp2_with fail
  exact bodyPost_ret (v := .agg #[.int .i64 1, .string D, .int .u64 0, .int .i64 0, .int .i64 (n : Int), .int .i64 0]) (by simp [results, Tryz.results49, hcc, go_sem]) rfl ⟨RH.out, below_set6 hb1.out (Nat.le_refl _) _ _ _ _ _ _⟩
set_option maxHeartbeats 2000000 in
theorem rquotes_any (s : ByteArray) (w : World) (hG : Good w) (hs : s.size ≤ 281474976710656 / 4) :
    Calls Tryz.prog 51 #[.string s] w fun e w' => PcOut ((quotesB s.data.toList).map fun x => (3, x.1, 0, x.2)) 82 e ∧ Below w.heap.size w w' := by
  have U := Lib.hid (fun w1 (hb : Below w.heap.size w w1) => unquoted_any s w1 (hG.thn hb) hs)
  have HB0 := Lib.hid (below1 w (.cells #[.int .i64 0, .string ⟨#[]⟩, .int .u64 0, .int .i64 0, .int .i64 0, .int .i64 0] 64))
  generalize quotesB s.data.toList = o at *
  clear hG hs
  go_enter Tryz.func51, Tryz.ntmps51
  go_wp2_with fail
  refine (U.out _ HB0.out).mono ?_
  rintro e w1 ⟨⟨b, n, rfl, rfl⟩ | ⟨rfl, rfl⟩, hb⟩
  all_goals
    have hb1 := Lib.hid (Below.thn HB0.out HB0.out.size hb)
    obtain ⟨hcc, hff⟩ := bcell hb
    simp only [World.size_alloc] at hcc hff
    have hz : w.heap.size < w1.heap.size := by have := hb.size; simp at this; omega
    clear hb
  · have R : PcOut ((some (b, n)).map fun x => (3, x.1, 0, x.2)) 82 (.returned (pcV 3 b 0 0 n 0)) := .inl ⟨3, b, 0, n, rfl, rfl⟩
    obtain ⟨D, hD⟩ : ∃ D, (⟨b.toArray⟩ : ByteArray) = D := ⟨_, rfl⟩
    unfold pcV at R
    rw [hD] at R ⊢
    have RH := Lib.hid R
    clear R hD
    go_wp2_with fail
    exact bodyPost_ret (v := .agg #[.int .i64 3, .string D, .int .u64 0, .int .i64 0, .int .i64 (n : Int), .int .i64 0]) (by simp [results, Tryz.results51, hcc, go_sem]) rfl ⟨RH.out, below_set6 hb1.out (Nat.le_refl _) _ _ _ _ _ _⟩
  · have RH := Lib.hid (show PcOut ((none : Option (Bs × Nat)).map fun x => ((3 : Int), x.1, 0, x.2)) 82 (.returned (pcV 0 [] 0 0 0 82)) from .inr ⟨rfl, rfl⟩)
    go_wp2_with fail
    exact bodyPost_ret (v := pcV 0 [] 0 0 0 82) (by simp [results, Tryz.results51, hcc, pcV, go_sem]) rfl ⟨RH.out, below_set6 hb1.out (Nat.le_refl _) _ _ _ _ _ _⟩
end Go.Proofs.YtdkflmpdelfgoaaGreatDoor
