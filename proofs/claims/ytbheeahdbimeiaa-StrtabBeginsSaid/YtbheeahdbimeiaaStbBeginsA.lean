/-
  The law of a beginning. Conditions: how the names lie, and their sizes.
-/
import Derived.Test.YtbheeahdbimeiaaStbX
namespace Go.Proofs.Ytbheeahdbimeiaa
open Go.RowKit Go.Maps
set_option linter.unusedVariables false
set_option linter.unusedSimpArgs false

set_option maxRecDepth 100000 in
set_option maxHeartbeats 8000000 in
theorem begins_law (v : Value) (L : List BA) (n : Int) (w : World) (hL : StrO w v L) (hM : ∀ x ∈ L, x.size ≤ 140737488351232) (hn0 : 0 ≤ n) (hn1 : n ≤ 255) :
    Calls Try.prog 7 #[v, .int .u8 n] w fun e w' => e = .returned (.bool true) ∧ Below w.heap.size w w' := by
  have HL := Lib.hid hL
  have LV := Lib.hid (live_any w)
  have FW := Lib.hid (fun W h => few_any v L W h)
  have PB := Lib.hid (fun W (h : StrO W v L) (hf : fewB L = true) => build_any v L W h (by have := (few_facts hf hM).1; omega) (fun x hx => by have := hM x hx; omega))
  have PT := Lib.hid (fun u k W (h : StrO W u (L.take k)) (hf : fewB L = true) => build_any u (L.take k) W h (by have := (few_facts hf hM).1; rw [List.length_take]; omega) (fun x hx => by have := hM x (List.mem_of_mem_take hx); omega))
  have HP := Lib.hid (fun u v t r W h1 h2 => hasPrefix_same u v t r W h1 h2)
  have IE := Lib.hid (fun u v t W h1 h2 => intsEq_same u v t W h1 h2)
  obtain ⟨aa, ca, rfl⟩ := hL.slice
  have hca : L.length ≤ ca ∨ L.length = 0 := by have := RowsO.capL hL; omega
  have hlm : L.length ≤ maxLen := by have := RowsO.len hL; rwa [List.length_map] at this
  unfold maxLen at hlm
  clear hL hM
  obtain ⟨m, rfl⟩ : ∃ m : Nat, n = (m : Int) := ⟨n.toNat, by omega⟩
  obtain ⟨k, hk⟩ : ∃ k, min m L.length = k := ⟨_, rfl⟩
  have hmin : min (m : Int) (L.length : Int) = (k : Int) := by omega
  have hkl : k ≤ L.length := by omega
  have hkc : k ≤ ca := by omega
  have hkk : (L.take k).length = k := by rw [List.length_take]; omega
  clear hk
  go_enter Try.func7, Try.ntmps7
  go_wp2_with fail
  refine LV.out.mono ?_
  rintro e w1 ⟨rfl, hb1⟩
  have HB1 := Lib.hid hb1
  clear hb1
  go_wp2_with fail
  refine (FW.out _ (HL.out.keep HB1.out)).mono ?_
  rintro e w1' ⟨rfl, rfl⟩
  by_cases hf : fewB L = true
  · rw [hf]
    go_wp2_with fail
    refine (PT.out _ k _ (StrO.take (HL.out.keep HB1.out) hkl) hf).mono ?_
    rintro e w2 ⟨hA, hb2⟩
    have HB2 := Lib.hid (Below.thn HB1.out HB1.out.size hb2)
    have PB2 := Lib.hid (PB.out w2 (HL.out.keep HB2.out) hf)
    clear hb2 hf
    by_cases hE : bldE L = 0
    · rcases hA with ⟨hE2, _⟩ | ⟨_, v1, v2, rfl, h1, h2⟩
      · exact absurd (bld_take hkl hE) hE2
      · rw [out_take hkl] at h1
        rw [at_take hkl, ← at_pre hkl (Nat.le_refl _)] at h2
        obtain ⟨r, hr⟩ := out_pre L hkl
        have H1 := Lib.hid h1
        have H2 := Lib.hid h2
        obtain ⟨ya, yc, rfl⟩ := h1.slice
        have hal := atI_len L (Nat.le_refl _)
        have hlk : ((atI L L.length).take k).length = k := by rw [List.length_take, hal]; omega
        obtain ⟨za, zc, hza⟩ := h2.slice
        rw [hlk] at hza
        subst hza
        clear h1 h2
        go_wp2_with fail
        refine PB2.out.mono ?_
        rintro e w3 ⟨(⟨hE2, _⟩ | ⟨_, u1, u2, rfl, k1, k2⟩), hb3⟩
        · exact absurd hE hE2
        · have HB3 := Lib.hid (Below.thn HB2.out HB2.out.size hb3)
          have H1' := Lib.hid (H1.out.keep hb3)
          have H2' := Lib.hid (H2.out.keep hb3)
          rw [hr] at k1
          obtain ⟨pa, pc, hpa⟩ := k1.slice
          obtain ⟨N, hN⟩ : ∃ N, (outI L k ++ r).length = N := ⟨_, rfl⟩
          rw [hN] at hpa
          subst hpa
          have K1 := Lib.hid k1
          clear hN
          obtain ⟨qa, qc, rfl⟩ := k2.slice
          have hqc : L.length ≤ qc ∨ L.length = 0 := by have := RowsO.capL k2; rw [hal] at this; omega
          have K2 := Lib.hid (NusO.take k2 (k := k) (by rw [hal]; exact hkl))
          have hqk : k ≤ qc := by omega
          rw [hal]
          clear hal hlk hb3 k1 k2 hE hr H1 H2
          have hge : ¬ ((L.length : Int) < (k : Int)) := by omega
          have hle : ((k : Nat) : Int) ≤ ((L.length : Nat) : Int) := by omega
          go_wp2_with fail
          refine (HP.out _ _ _ _ _ K1.out H1'.out).mono ?_
          rintro e w4 ⟨rfl, rfl⟩
          go_wp2_with fail
          refine (IE.out _ _ _ _ H2'.out K2.out).mono ?_
          rintro e w5 ⟨rfl, hb5⟩
          have HB5 := Lib.hid (Below.thn HB3.out HB3.out.size hb5)
          clear hb5
          go_wp2_with fail
          go_ret
          exact ⟨rfl, HB5.out⟩
    · have hne : (bldE L == 0) = false := not_beq hE
      have hne2 : (bldE L != 0) = true := by simp [bne, hne]
      rcases hA with ⟨_, rfl⟩ | ⟨_, v1, v2, rfl, h1, h2⟩
      · go_wp2_with fail
        refine PB2.out.mono ?_
        rintro e w3 ⟨(⟨_, rfl⟩ | ⟨hE2, _⟩), hb3⟩
        · have HB3 := Lib.hid (Below.thn HB2.out HB2.out.size hb3)
          clear hb3
          generalize bldE L = E at *
          go_wp2_with fail
          go_ret
          exact ⟨rfl, HB3.out⟩
        · exact absurd hE2 hE
      · obtain ⟨ya, yc, rfl⟩ := h1.slice
        obtain ⟨za, zc, rfl⟩ := h2.slice
        clear h1 h2
        go_wp2_with fail
        refine PB2.out.mono ?_
        rintro e w3 ⟨(⟨_, rfl⟩ | ⟨hE2, _⟩), hb3⟩
        · have HB3 := Lib.hid (Below.thn HB2.out HB2.out.size hb3)
          clear hb3
          generalize bldE L = E at *
          go_wp2_with fail
          go_ret
          exact ⟨rfl, HB3.out⟩
        · exact absurd hE2 hE
  · have hf' : fewB L = false := by simpa using hf
    rw [hf']
    go_wp2_with fail
    go_ret
    exact ⟨rfl, HB1.out⟩
end Go.Proofs.Ytbheeahdbimeiaa
