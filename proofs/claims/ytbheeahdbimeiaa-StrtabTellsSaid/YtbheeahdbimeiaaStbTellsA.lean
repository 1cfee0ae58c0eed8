/-
  The law of what stands in a table. Conditions: how the bytes lie.
-/
import Derived.Test.YtbheeahdbimeiaaStbV
import Derived.Test.YtbheeahdbimeiaaStbO
import Derived.Test.YtbheeahdbimeiaaStbP
namespace Go.Proofs.Ytbheeahdbimeiaa
open Go.RowKit Go.Maps
set_option linter.unusedVariables false
set_option linter.unusedSimpArgs false

set_option maxRecDepth 100000 in
set_option maxHeartbeats 8000000 in
theorem tells_law (v : Value) (T : BA) (o : Int) (s : BA) (w : World) (ht : BysO w v (nmOf T)) :
    Calls Try.prog 4 #[v, .int .i64 o, .string s] w fun e w' => e = .returned (.bool true) ∧ Below w.heap.size w w' := by
  have LV := Lib.hid (live_any w)
  by_cases hs : T.size ≤ 1000
  · have hl : T.size ≤ 1048576 := by omega
    have A1 := Lib.hid (fun W (hb : Below w.heap.size w W) => at_any v T o W (ht.keep hb) hl)
    have A2 := Lib.hid (fun W (hb : Below w.heap.size w W) => rat_any v T o W (ht.keep hb) hl)
    have F1 := Lib.hid (fun W (hb : Below w.heap.size w W) => find_any v T s W (ht.keep hb) hl)
    have F2 := Lib.hid (fun W (hb : Below w.heap.size w W) => rfind_any v T s W (ht.keep hb) hl)
    have C1 := Lib.hid (fun W (hb : Below w.heap.size w W) => check_any v T W (ht.keep hb) hl)
    have C2 := Lib.hid (fun W (hb : Below w.heap.size w W) => rcheck_any v T W (ht.keep hb) hl)
    have R1 := Lib.hid (fun W (hb : Below w.heap.size w W) => lrows_any v T W (ht.keep hb) hl)
    have R2 := Lib.hid (fun W (hb : Below w.heap.size w W) => rnames_any v T W (ht.keep hb) hl)
    have RE := Lib.hid (fun u v R B C W h1 h2 h3 => rowsEq_same u v R B C W h1 h2 h3)
    have HRL := Lib.hid (show (namR T).length ≤ 1048576 by
      have := (namesB_sizes T hl).2
      unfold namesB at this
      rw [List.length_map] at this
      unfold namR
      split
      · exact this
      · simp)
    have hsl : ¬ ((1000 : Int) < ((nmOf T).length : Int)) := by rw [nm_len]; omega
    obtain ⟨aa, ca, rfl⟩ := ht.slice
    unfold AtP at A1 A2
    unfold FndP at F1 F2
    generalize namR T = R at *
    generalize atR T o = A at *
    generalize fndR T s = F at *
    generalize chkE T = E at *
    clear ht
    generalize (nmOf T).length = N at *
    go_enter Try.func4, Try.ntmps4
    go_wp2_with fail
    refine LV.out.mono ?_
    rintro e w1 ⟨rfl, hb1⟩
    have HB1 := Lib.hid hb1
    clear hb1
    go_wp2_with fail
    refine (A1.out _ HB1.out).mono ?_
    rintro e w2 ⟨rfl, hb2⟩
    have HB2 := Lib.hid (Below.thn HB1.out HB1.out.size hb2)
    clear hb2
    go_wp2_with fail
    refine (A2.out _ HB2.out).mono ?_
    rintro e w3 ⟨rfl, hb3⟩
    have HB3 := Lib.hid (Below.thn HB2.out HB2.out.size hb3)
    clear hb3
    go_wp2_with fail
    refine (F1.out _ HB3.out).mono ?_
    rintro e w4 ⟨rfl, hb4⟩
    have HB4 := Lib.hid (Below.thn HB3.out HB3.out.size hb4)
    clear hb4
    go_wp2_with fail
    refine (F2.out _ HB4.out).mono ?_
    rintro e w5 ⟨rfl, hb5⟩
    have HB5 := Lib.hid (Below.thn HB4.out HB4.out.size hb5)
    clear hb5
    obtain ⟨a1, a2⟩ := A
    obtain ⟨f1, f2⟩ := F
    go_wp2_with fail
    refine (C1.out _ HB5.out).mono ?_
    rintro e w6 ⟨rfl, hb6⟩
    have HB6 := Lib.hid (Below.thn HB5.out HB5.out.size hb6)
    clear hb6
    go_wp2_with fail
    refine (C2.out _ HB6.out).mono ?_
    rintro e w7 ⟨rfl, hb7⟩
    have HB7 := Lib.hid (Below.thn HB6.out HB6.out.size hb7)
    clear hb7
    go_wp2_with fail
    refine (R1.out _ HB7.out).mono ?_
    rintro e w8 ⟨⟨v1, rfl, h1⟩, hb8⟩
    have HB8 := Lib.hid (Below.thn HB7.out HB7.out.size hb8)
    have H1 := Lib.hid h1
    obtain ⟨ra, rc, rfl⟩ := own_sliceN h1
    clear hb8 h1
    go_wp2_with fail
    refine (R2.out _ HB8.out).mono ?_
    rintro e w9 ⟨⟨v2, rfl, h2⟩, hb9⟩
    have HB9 := Lib.hid (Below.thn HB8.out HB8.out.size hb9)
    have H1' := Lib.hid (own_keep H1.out hb9)
    have H2 := Lib.hid h2
    obtain ⟨qa, qc, rfl⟩ := own_sliceN h2
    clear hb9 h2
    go_wp2_with fail
    refine (RE.out _ _ _ _ _ _ H1'.out H2.out HRL.out).mono ?_
    rintro e w10 ⟨rfl, hb10⟩
    have HB10 := Lib.hid (Below.thn HB9.out HB9.out.size hb10)
    clear hb10
    go_wp2_with fail
    go_ret
    exact ⟨rfl, HB10.out⟩
  · have hsl : (1000 : Int) < ((nmOf T).length : Int) := by rw [nm_len]; omega
    obtain ⟨aa, ca, rfl⟩ := ht.slice
    clear ht hs
    generalize (nmOf T).length = N at *
    go_enter Try.func4, Try.ntmps4
    go_wp2_with fail
    refine LV.out.mono ?_
    rintro e w1 ⟨rfl, hb1⟩
    have HB1 := Lib.hid hb1
    clear hb1
    go_wp2_with fail
    go_ret
    exact ⟨rfl, HB1.out⟩
end Go.Proofs.Ytbheeahdbimeiaa
