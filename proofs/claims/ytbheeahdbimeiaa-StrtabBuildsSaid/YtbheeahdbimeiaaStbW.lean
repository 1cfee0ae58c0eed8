/-
  The law of tables of any names. Conditions: how the argument lies, and the names' sizes.
-/
import Derived.Test.YtbheeahdbimeiaaStbV
namespace Go.Proofs.Ytbheeahdbimeiaa
open Go.RowKit Go.Maps
set_option linter.unusedVariables false
set_option linter.unusedSimpArgs false

theorem BysO.nil (W : World) : BysO W (.slice none 0 0) [] := .inl ⟨.inl rfl, rfl⟩
theorem bldE_ne {L : List BA} (h : bldE L ≠ 0) : (bldE L == bldE L) = true := by simp
set_option maxRecDepth 100000 in
set_option maxHeartbeats 4000000 in
theorem builds_law (v : Value) (L : List BA) (w : World) (hL : StrO w v L) (hM : ∀ x ∈ L, x.size ≤ 140737488351232) :
    Calls Try.prog 3 #[v] w fun e w' => e = .returned (.bool true) ∧ Below w.heap.size w w' := by
  have HL := Lib.hid hL
  have LV := Lib.hid (live_any w)
  have FW := Lib.hid (fun W h => few_any v L W h)
  have BE := Lib.hid (fun u v t W h1 h2 => bytesEq_same u v t W h1 h2)
  have IE := Lib.hid (fun u v t W h1 h2 => intsEq_same u v t W h1 h2)
  have PB := Lib.hid (fun W (h : StrO W v L) (hf : fewB L = true) => build_any v L W h (by have := (few_facts hf hM).1; omega) (fun x hx => by have := hM x hx; omega))
  have DB := Lib.hid (fun W (h : StrO W v L) (hf : fewB L = true) => rbuild_any v L W h (by have := (few_facts hf hM).1; omega) (few_facts hf hM).2.1 (fun x hx => by have := hM x hx; omega))
  obtain ⟨aa, ca, rfl⟩ := hL.slice
  clear hL hM
  go_enter Try.func3, Try.ntmps3
  go_wp2_with fail
  refine LV.out.mono ?_
  rintro e w1 ⟨rfl, hb1⟩
  have HB1 := Lib.hid hb1
  clear hb1
  go_wp2_with fail
  refine (FW.out _ (HL.out.keep HB1.out)).mono ?_
  rintro e w1' ⟨rfl, rfl⟩
  by_cases hf : fewB L = true
  · rw [hf]
    go_wp2_with fail
    refine (PB.out _ (HL.out.keep HB1.out) hf).mono ?_
    rintro e w2 ⟨hA, hb2⟩
    have HB2 := Lib.hid (Below.thn HB1.out HB1.out.size hb2)
    have DB2 := Lib.hid (DB.out w2 (HL.out.keep HB2.out) hf)
    clear hb2 hf
    rcases hA with ⟨hE, rfl⟩ | ⟨hE, v1, v2, rfl, h1, h2⟩
    · go_wp2_with fail
      refine DB2.out.mono ?_
      rintro e w3 ⟨(⟨_, rfl⟩ | ⟨hE2, _⟩), hb3⟩
      · have HB3 := Lib.hid (Below.thn HB2.out HB2.out.size hb3)
        clear hb3
        generalize bldE L = E at *
        go_wp2_with fail
        refine (BE.out _ _ _ _ (BysO.nil w3) (BysO.nil w3)).mono ?_
        rintro e w4 ⟨rfl, rfl⟩
        go_wp2_with fail
        refine (IE.out _ _ _ _ (NusO.nil w3) (NusO.nil w3)).mono ?_
        rintro e w5 ⟨rfl, hb5⟩
        have HB5 := Lib.hid (Below.thn HB3.out HB3.out.size hb5)
        clear hb5
        go_wp2_with fail
        go_ret
        exact ⟨rfl, HB5.out⟩
      · exact absurd hE2 hE
    · have H1 := Lib.hid h1
      have H2 := Lib.hid h2
      obtain ⟨ya, yc, rfl⟩ := h1.slice
      obtain ⟨za, zc, rfl⟩ := h2.slice
      clear h1 h2
      go_wp2_with fail
      refine DB2.out.mono ?_
      rintro e w3 ⟨(⟨hE2, _⟩ | ⟨_, u1, u2, rfl, k1, k2⟩), hb3⟩
      · exact absurd hE hE2
      · have HB3 := Lib.hid (Below.thn HB2.out HB2.out.size hb3)
        have H1' := Lib.hid (H1.out.keep hb3)
        have H2' := Lib.hid (H2.out.keep hb3)
        have K1 := Lib.hid (bys_of_own rfl k1)
        have K2 := Lib.hid (nus_of_own (atI_len L (Nat.le_refl _)).symm k2)
        obtain ⟨pa, pc, rfl⟩ := own_sliceN k1
        obtain ⟨qa, qc, rfl⟩ := own_sliceN k2
        clear hb3 k1 k2
        go_wp2_with fail
        refine (BE.out _ _ _ _ H1'.out K1.out).mono ?_
        rintro e w4 ⟨rfl, rfl⟩
        go_wp2_with fail
        refine (IE.out _ _ _ _ H2'.out K2.out).mono ?_
        rintro e w5 ⟨rfl, hb5⟩
        have HB5 := Lib.hid (Below.thn HB3.out HB3.out.size hb5)
        clear hb5
        go_wp2_with fail
        go_ret
        exact ⟨rfl, HB5.out⟩
  · have hf' : fewB L = false := by simpa using hf
    rw [hf']
    go_wp2_with fail
    go_ret
    exact ⟨rfl, HB1.out⟩
end Go.Proofs.Ytbheeahdbimeiaa
