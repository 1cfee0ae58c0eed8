/-
  Text: what each call returns. Conditions: what the variables of the library hold (Good), a text of at most 2^40 bytes, a number of 64 bits.
-/
import Derived.Test.YtjmdcimfmmfinaaDoorLexFmt
import Derived.Test.YtjmdcimfmmfinaaDoorLexM
import Derived.Test.YtjmdcimfmmfinaaDoorLexN
import Derived.Test.YtjmdcimfmmfinaaDoorLexR
import Derived.Test.YtjmdcimfmmfinaaDoorLexPrintM
namespace Go.Proofs.YtjmdcimfmmfinaaDoor
open Go.RowKit Go.Shelf
set_option linter.unusedVariables false
attribute [local go_sem] Oper.semAt_some

def textO (k : Int) (t : Bs) (n : Nat) (p : Int) : Bs := if checkB k t (n : Int) p = true then textB ⟨k, t, n, p⟩ else []
theorem errC_ne {b : Bool} : (errC b != 0) = !b := by cases b <;> rfl
set_option maxRecDepth 100000 in
set_option maxHeartbeats 4000000 in
theorem text_any (k : Int) (t : ByteArray) (n : Nat) (p : Int) (w : World) (hG : Good w) (ht : t.size ≤ 1099511627776) (hn : n < 18446744073709551616) :
    Calls Tryd.prog 20 #[.agg #[.int .i64 k, .string t, .int .u64 (n : Int), .int .i64 p]] w fun e w' => e = .returned (.string ⟨(textO k t.data.toList n p).toArray⟩) ∧ Below w.heap.size w w' := by
  have CK := Lib.hid (fun w => check_any k t (n : Int) p w (by unfold maxLen; omega))
  have GD := Lib.hid (fun w1 (h : Below w.heap.size w w1) => hG.thn h)
  have FM := Lib.hid (fun w hG => fmt_any n hn w hG)
  have QU := Lib.hid (fun w => quote_any t w ht)
  have CL := Lib.hid (fun w => clone_any t w (by omega))
  have htB : (⟨t.data.toList.toArray⟩ : ByteArray) = t := by simp
  unfold textO textB
  cases hc : checkB k t.data.toList (n : Int) p with
  | false =>
    rw [hc] at CK
    rw [if_neg (by decide)]
    clear hc hG ht hn htB
    go_enter Tryd.func20, Tryd.ntmps20
    go_wp2_with fail
    refine (CK.out _).mono ?_
    rintro e w1 ⟨rfl, hb1⟩
    have HB := Lib.hid (Below.thn (below1 w _) (by simp) hb1)
    clear hb1
    rw [show errC false = 1 from rfl]
    go_wp2_with fail
    go_ret
    exact ⟨rfl, HB.out⟩
  | true =>
    rw [hc] at CK
    rw [if_pos rfl]
    simp only
    by_cases k2 : k = 2
    · subst k2
      rw [if_pos rfl]
      clear hc hG ht hn htB
      go_enter Tryd.func20, Tryd.ntmps20
      go_wp2_with fail
      refine (CK.out _).mono ?_
      rintro e w1 ⟨rfl, hb1⟩
      have HB := Lib.hid (Below.thn (below1 w _) (by simp) hb1)
      have q0 : w1.cell? ⟨w.heap.size, 0, none⟩ = some (.int .i64 2) := (hb1.cell (p := ⟨w.heap.size, 0, none⟩) (by simp)).trans (cell_four_new w _ _ _ _ _ 0 _ rfl)
      have q2 : w1.cell? ⟨w.heap.size, 2, none⟩ = some (.int .u64 (n : Int)) := (hb1.cell (p := ⟨w.heap.size, 2, none⟩) (by simp)).trans (cell_four_new w _ _ _ _ _ 2 _ rfl)
      clear hb1
      rw [show errC true = 0 from rfl]
      go_wp2_with fail
      refine (FM.out _ (GD.out _ HB.out)).mono ?_
      rintro e w2 ⟨rfl, hb2⟩
      have HB2 := Lib.hid (Below.thn HB.out HB.out.size hb2)
      clear hb2
      go_wp2_with fail
      go_ret
      exact ⟨rfl, HB2.out⟩
    by_cases k3 : k = 3
    · subst k3
      rw [if_neg (by decide), if_pos rfl]
      clear hc hG ht hn htB
      go_enter Tryd.func20, Tryd.ntmps20
      go_wp2_with fail
      refine (CK.out _).mono ?_
      rintro e w1 ⟨rfl, hb1⟩
      have HB := Lib.hid (Below.thn (below1 w _) (by simp) hb1)
      have q0 : w1.cell? ⟨w.heap.size, 0, none⟩ = some (.int .i64 3) := (hb1.cell (p := ⟨w.heap.size, 0, none⟩) (by simp)).trans (cell_four_new w _ _ _ _ _ 0 _ rfl)
      have q1 : w1.cell? ⟨w.heap.size, 1, none⟩ = some (.string t) := (hb1.cell (p := ⟨w.heap.size, 1, none⟩) (by simp)).trans (cell_four_new w _ _ _ _ _ 1 _ rfl)
      clear hb1
      rw [show errC true = 0 from rfl]
      go_wp2_with fail
      refine (QU.out _).mono ?_
      rintro e w2 ⟨rfl, hb2⟩
      have HB2 := Lib.hid (Below.thn HB.out HB.out.size hb2)
      clear hb2
      go_wp2_with fail
      go_ret
      exact ⟨rfl, HB2.out⟩
    · rw [if_neg k2, if_neg k3]
      have b2 : (k == 2) = false := by simp [k2]
      have b3 : (k == 3) = false := by simp [k3]
      rw [htB]
      clear hc hG ht hn htB k2 k3
      go_enter Tryd.func20, Tryd.ntmps20
      go_wp2_with fail
      refine (CK.out _).mono ?_
      rintro e w1 ⟨rfl, hb1⟩
      have HB := Lib.hid (Below.thn (below1 w _) (by simp) hb1)
      have q0 : w1.cell? ⟨w.heap.size, 0, none⟩ = some (.int .i64 k) := (hb1.cell (p := ⟨w.heap.size, 0, none⟩) (by simp)).trans (cell_four_new w _ _ _ _ _ 0 _ rfl)
      have q1 : w1.cell? ⟨w.heap.size, 1, none⟩ = some (.string t) := (hb1.cell (p := ⟨w.heap.size, 1, none⟩) (by simp)).trans (cell_four_new w _ _ _ _ _ 1 _ rfl)
      clear hb1
      rw [show errC true = 0 from rfl]
      go_wp2_with fail
      refine (CL.out _).mono ?_
      rintro e w2 ⟨rfl, hb2⟩
      have HB2 := Lib.hid (Below.thn HB.out HB.out.size hb2)
      clear hb2
      go_wp2_with fail
      go_ret
      exact ⟨rfl, HB2.out⟩
end Go.Proofs.YtjmdcimfmmfinaaDoor
