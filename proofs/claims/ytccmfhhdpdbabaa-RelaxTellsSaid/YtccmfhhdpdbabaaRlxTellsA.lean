/-
  RelaxTells: what each call returns. Conditions: how the arguments lie.
-/
import Derived.Test.YtccmfhhdpdbabaaRlxO
namespace Go.Proofs.Ytccmfhhdpdbabaa
open Go.RowKit
set_option linter.unusedVariables false
set_option linter.unusedSimpArgs false

theorem few_any (v : Value) (L : List It) (w : World) (hL : ItsO w v L) :
    Calls Try.prog 9 #[v] w fun e w' => e = .returned (.bool (decide ((L.length : Int) ≤ 300))) ∧ w = w' := by
  obtain ⟨aa, ca, rfl⟩ := hL.slice
  clear hL
  go_enter Try.func9, Try.ntmps9
  go_wp2_with fail
  go_ret
  exact ⟨rfl, rfl⟩
theorem two_offs {w W : World} {L : List It} {B : List Bool} {e : Ending} (h : OffP w L B e W) : ∃ v D, e = .returned (.tuple #[v, .int .i64 (offE L B)]) ∧ NusO W v D ∧ D = (if offE L B = 0 then offL L B else []) ∧ Below w.heap.size w W := by
  rcases h with ⟨⟨hE, rfl⟩ | ⟨hE, hok, hlen, v', rfl, hown⟩, hb⟩
  · exact ⟨_, [], rfl, .inl ⟨.inl rfl, rfl⟩, by rw [if_neg hE], hb⟩
  · exact ⟨v', offL L B, by rw [hE], nus_of_own (offL_len L B).symm hown, by rw [if_pos hE], hb⟩
set_option maxRecDepth 100000 in
set_option maxHeartbeats 8000000 in
theorem tells_law (v b : Value) (L : List It) (B : List Bool) (n : Int) (w : World) (hL : ItsO w v L) (hB : BosO w b B) :
    Calls Try.prog 3 #[v, b, .int .i64 n] w fun e w' => e = .returned (.bool true) ∧ Below w.heap.size w w' := by
  have LV := Lib.hid (live_any w)
  have FW := Lib.hid (fun W (hb : Below w.heap.size w W) => few_any v L W (hL.keep hb))
  have O1 := Lib.hid (fun W (hb : Below w.heap.size w W) => offsetsE_any v b L B W (hL.keep hb) (hB.keep hb))
  have O2 := Lib.hid (fun W (hb : Below w.heap.size w W) => roffsetsE_any v b L B W (hL.keep hb) (hB.keep hb))
  have EN := Lib.hid (fun D a c W (h : NusO W a D) (h2 : NusO W c D) => eqNu_any a c D D W h h2)
  have C1 := Lib.hid (fun W (hb : Below w.heap.size w W) => check_any v L W (hL.keep hb))
  have C2 := Lib.hid (fun W (hb : Below w.heap.size w W) => rcheck_any v L W (hL.keep hb))
  have R1 := Lib.hid (fun W (hb : Below w.heap.size w W) => reachesE_any v b L B n W (hL.keep hb) (hB.keep hb))
  have R2 := Lib.hid (fun W (hb : Below w.heap.size w W) => rreachesE_any v b L B n W (hL.keep hb) (hB.keep hb))
  have F1 := Lib.hid (fun W (hb : Below w.heap.size w W) => fits_any v b L B W (hL.keep hb) (hB.keep hb))
  have F2 := Lib.hid (fun W (hb : Below w.heap.size w W) => rfits_any v b L B W (hL.keep hb) (hB.keep hb))
  obtain ⟨aa, ca, rfl⟩ := hL.slice
  obtain ⟨ab, cb, rfl⟩ := hB.slice
  clear hL hB
  go_enter Try.func3, Try.ntmps3
  go_wp2_with fail
  refine LV.out.mono ?_
  rintro e w1 ⟨rfl, hb1⟩
  have HB1 := Lib.hid hb1
  clear hb1
  go_wp2_with fail
  refine (FW.out _ HB1.out).mono ?_
  rintro e w2 ⟨rfl, rfl⟩
  by_cases hl : (L.length : Int) ≤ 300
  · rw [decide_eq_true hl]
    by_cases hm : (400 : Int) < (B.length : Int)
    · go_wp2_with fail
      go_ret
      exact ⟨rfl, HB1.out⟩
    · go_wp2_with fail
      refine (O1.out _ HB1.out).mono ?_
      rintro e w3 h3
      obtain ⟨v3, D, rfl, hn3, hD3, hb3⟩ := two_offs h3
      obtain ⟨a3, c3, rfl⟩ := hn3.slice
      have HB3 := Lib.hid (Below.thn HB1.out HB1.out.size hb3)
      have HN3 := Lib.hid hn3
      have HD3 := Lib.hid hD3
      clear h3 hn3 hD3 hb3
      go_wp2_with fail
      refine (O2.out _ HB3.out).mono ?_
      rintro e w4 h4
      obtain ⟨v4, D4, rfl, hn4, hD4, hb4⟩ := two_offs h4
      rw [← HD3.out] at hD4
      subst hD4
      obtain ⟨a4, c4, rfl⟩ := hn4.slice
      have HB4 := Lib.hid (Below.thn HB3.out HB3.out.size hb4)
      have HN4 := Lib.hid hn4
      have HM4 := Lib.hid (HN3.out.keep hb4)
      clear h4 hn4 hb4
      have hEE : (offE L B == offE L B) = true := by simp
      generalize offE L B = E at *
      go_wp2_with fail
      refine (EN.out D4 _ _ _ HM4.out HN4.out).mono ?_
      rintro e w5 ⟨rfl, hb5⟩
      have HB5 := Lib.hid (Below.thn HB4.out HB4.out.size hb5)
      clear hb5
      go_wp2_with fail
      refine (C1.out _ HB5.out).mono ?_
      rintro e w6 ⟨rfl, hb6⟩
      have HB6 := Lib.hid (Below.thn HB5.out HB5.out.size hb6)
      clear hb6
      go_wp2_with fail
      refine (C2.out _ HB6.out).mono ?_
      rintro e w7 ⟨rfl, hb7⟩
      have HB7 := Lib.hid (Below.thn HB6.out HB6.out.size hb7)
      clear hb7
      have hCC : (chkB L == chkB L) = true := by simp
      generalize chkB L = C at *
      go_wp2_with fail
      refine (R1.out _ HB7.out).mono ?_
      rintro e w8 ⟨rfl, hb8⟩
      have HB8 := Lib.hid (Below.thn HB7.out HB7.out.size hb8)
      clear hb8
      go_wp2_with fail
      refine (R2.out _ HB8.out).mono ?_
      rintro e w9 ⟨rfl, hb9⟩
      have HB9 := Lib.hid (Below.thn HB8.out HB8.out.size hb9)
      clear hb9
      have hRR : (reachesB L B n == reachesB L B n) = true := by simp
      generalize reachesB L B n = R at *
      go_wp2_with fail
      refine (F1.out _ HB9.out).mono ?_
      rintro e wa ⟨rfl, hba⟩
      have HBa := Lib.hid (Below.thn HB9.out HB9.out.size hba)
      clear hba
      go_wp2_with fail
      refine (F2.out _ HBa.out).mono ?_
      rintro e wb ⟨rfl, hbb⟩
      have HBb := Lib.hid (Below.thn HBa.out HBa.out.size hbb)
      clear hbb
      have hFF : (fitsB L B == fitsB L B) = true := by simp
      generalize fitsB L B = F at *
      go_wp2_with fail
      go_ret
      exact ⟨by first | rfl | simp, HBb.out⟩
  · rw [decide_eq_false hl]
    go_wp2_with fail
    go_ret
    exact ⟨rfl, HB1.out⟩
end Go.Proofs.Ytccmfhhdpdbabaa
