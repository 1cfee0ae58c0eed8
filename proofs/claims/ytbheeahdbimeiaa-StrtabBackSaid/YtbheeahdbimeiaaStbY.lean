/-
  There and back: a table's names built again are the table; each name is at its place. Of no program. No conditions beyond those that each lemma states.
-/
import Derived.Test.YtbheeahdbimeiaaStbX
import Derived.Test.YtbheeahdbimeiaaStbP
import Derived.Test.YtbheeahdbimeiaaStbO
namespace Go.Proofs.Ytbheeahdbimeiaa
open Go.RowKit Go.Maps
set_option linter.unusedVariables false
set_option linter.unusedSimpArgs false

/-- the names of a table, built again -/
theorem again {T : BA} (h : chkE T = 0) : ∃ L, namR T = laidB 1 L ∧ bldE L = 0 ∧ outI L L.length = nmOf T ∧ L.length ≤ 1048576 ∧ (∀ x ∈ L, x.size ≤ 1048576) := by
  obtain ⟨hs, L, hL, h1, h2⟩ := chk_inv h
  have hu : uniq (nms L) = nms L := uniq_iff.2 ⟨nms_nodup.2 h1, nms_empty.2 h2⟩
  have ho : outI L L.length = nmOf T := by unfold outI; rw [nms_take_all, hu, hL.1]
  have hl := tab_len L
  rw [← hL.1, nm_len, sum_tot] at hl
  refine ⟨L, by unfold namR; rw [if_pos h, rowsB_tab hL], bld_ok ?_ (by rw [ho, nm_len]; exact hs), ho, by omega, fun x hx => ?_⟩
  · rw [List.any_eq_false]
    intro x hx
    rw [hL.2 x hx]; decide
  · have h3 : ∀ l : List BA, x ∈ l → x.size ≤ tot l := by
      intro l
      induction l with
      | nil => intro h; cases h
      | cons a r ih =>
        intro h
        rw [tot_cons]
        rcases List.mem_cons.1 h with rfl | h
        · omega
        · have := ih h; omega
    have := h3 L hx
    omega
/-- the table of some names as a text -/
theorem own_tab {L : List BA} (h : bldE L = 0) : ∃ (T : BA) (U : List BA), nmOf T = outI L L.length ∧ T.size ≤ 1048576 ∧ TabN T U ∧ nms U = uniq (nms L) ∧ chkE T = 0 := by
  obtain ⟨hz, hs⟩ := bld_facts h
  have hby : ∀ s ∈ uniq (nms L), ∀ b ∈ s, 0 ≤ b ∧ b ≤ 255 := by
    intro s hs b hb
    obtain ⟨x, _, rfl⟩ := List.mem_map.1 (uniq_mem.1 hs).2
    exact nm_byte x b hb
  have hU := nms_str (uniq (nms L)) hby
  have hby2 : ∀ b ∈ outI L L.length, 0 ≤ b ∧ b ≤ 255 := by
    intro b hb
    unfold outI tabOf at hb
    rw [nms_take_all] at hb
    rcases List.mem_cons.1 hb with rfl | hb
    · omega
    · obtain ⟨s, hs, hb⟩ := List.mem_flatMap.1 hb
      rcases List.mem_append.1 hb with hb | hb
      · exact hby s hs b hb
      · rw [List.mem_singleton] at hb; subst hb; omega
  have hT := nm_str hby2
  have hsz : (strOfNums (outI L L.length)).size ≤ 1048576 := by rw [strOfNums_size]; exact hs
  have hTN : TabN (strOfNums (outI L L.length)) ((uniq (nms L)).map strOfNums) := by
    refine ⟨by rw [hT, hU]; unfold outI; rw [nms_take_all], fun s hs => ?_⟩
    obtain ⟨x, hx, rfl⟩ := List.mem_map.1 hs
    refine nz_zero ?_
    rw [nm_str (hby x hx)]
    obtain ⟨y, hy, rfl⟩ := List.mem_map.1 (uniq_mem.1 hx).2
    refine nm_nz ?_
    rw [List.any_eq_false] at hz
    simpa using hz y hy
  refine ⟨_, _, hT, hsz, hTN, hU, chk_ok hTN hsz (nms_nodup.1 (by rw [hU]; exact uniq_nodup _)) (nms_empty.1 (by rw [hU]; exact fun s hs => (uniq_mem.1 hs).1))⟩
/-- a name's first row -/
theorem laid_first (s : BA) : ∀ (U : List BA) (p : Nat), s ∈ U → ∃ k, U[k]? = some s ∧ posGo (nmOf s) p (nms U) = p + ((U.take k).map fun s => s.size + 1).sum ∧ (laidB p U).find? (fun r => decide (r.2 = s)) = some (posGo (nmOf s) p (nms U), s)
  | [], p, h => by cases h
  | t :: r, p, h => by
    by_cases e : t = s
    · subst e
      exact ⟨0, rfl, by simp [nms, posGo], by simp [laidB, nms, posGo]⟩
    · obtain ⟨k, h1, h2, h3⟩ := laid_first s r (p + t.size + 1) ((List.mem_cons.1 h).resolve_left (fun k => e k.symm))
      have hne : ¬ nmOf t = nmOf s := fun k => e (nm_inj k)
      have e2 : posGo (nmOf s) p (nms (t :: r)) = posGo (nmOf s) (p + t.size + 1) (nms r) := by
        show posGo (nmOf s) p (nmOf t :: nms r) = _
        simp only [posGo, if_neg hne, nm_len]
      refine ⟨k + 1, h1, ?_, ?_⟩
      · rw [e2, h2, List.take_succ_cons, List.map_cons, List.sum_cons]; omega
      · rw [e2, laidB, List.find?_cons, decide_eq_false e, h3]
/-- what stands at a name's place, and where a name is found -/
theorem at_back {L : List BA} {T : BA} {U : List BA} (hT : nmOf T = outI L L.length) (hTN : TabN T U) (hU : nms U = uniq (nms L)) (hc : chkE T = 0) {i : Nat} {s : BA} (hi : L[i]? = some s) (hz : zeroB s = false) :
    atR T ((posOf (uniq (nms L)) (nmOf s) : Nat) : Int) = (s, 0) ∧ fndR T s = (posOf (uniq (nms L)) (nmOf s), true) := by
  have hne : 0 < T.size := by rw [← nm_len, hTN.1]; simp [tabOf]
  by_cases h0 : s = ⟨#[]⟩
  · subst h0
    have hp : posOf (uniq (nms L)) (nmOf (⟨#[]⟩ : BA)) = 0 := by unfold posOf; rw [if_pos (nm_nil.2 rfl)]
    rw [hp]
    constructor
    · unfold atR
      rw [if_pos hc, if_neg (by omega)]
      have : tk (nmOf T) 0 = [] := by rw [hTN.1]; simp [tk, tabOf]
      show (strOfNums (tk (nmOf T) 0), (0 : Int)) = _
      rw [this]; rfl
    · rw [fnd_none hc hTN (fun r hr => ?_)]
      · rfl
      · have hd := (chk_iff hTN (chk_inv hc).1).symm.trans hc
        intro e
        have hm := laidB_mem hr
        have : nmOf r.2 ∈ uniq (nms L) := by rw [← hU]; exact List.mem_map.2 ⟨_, hm, rfl⟩
        exact (uniq_mem.1 this).1 (nm_nil.2 e)
  · have hn0 : nmOf s ≠ [] := fun e => h0 (nm_nil.1 e)
    have hm : nmOf s ∈ nms U := by rw [hU]; exact uniq_mem.2 ⟨hn0, List.mem_map.2 ⟨s, List.mem_of_getElem? hi, rfl⟩⟩
    have hmU : s ∈ U := by
      obtain ⟨x, hx, e⟩ := List.mem_map.1 hm
      rw [← nm_inj e]; exact hx
    obtain ⟨k, k1, k2, k3⟩ := laid_first s U 1 hmU
    have hp : posOf (uniq (nms L)) (nmOf s) = posGo (nmOf s) 1 (nms U) := by unfold posOf; rw [if_neg hn0, hU]
    have hpk : posGo (nmOf s) 1 (nms U) = pos U k := k2
    rw [hp]
    obtain ⟨r, hr⟩ := drop_pos hTN k1
    constructor
    · have hlt : pos U k < T.size := by
        have := congrArg List.length hr
        rw [List.length_drop, nm_len, List.length_append, List.length_cons] at this
        omega
      unfold atR
      rw [if_pos hc, if_neg (by rw [hpk]; omega), hpk]
      show (strOfNums (tk (nmOf T) (pos U k)), (0 : Int)) = _
      unfold tk
      rw [hr, tw_app _ _ (nm_nz hz), str_nm]
    · rw [fnd_tab hc hTN, k3]
      rfl
end Go.Proofs.Ytbheeahdbimeiaa
