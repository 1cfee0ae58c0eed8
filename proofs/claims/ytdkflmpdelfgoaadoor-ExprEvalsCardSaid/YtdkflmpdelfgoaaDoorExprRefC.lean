/-
  The document's Print: what each call returns. Conditions: the sizes that each lemma states.
-/
import Derived.Test.YtdkflmpdelfgoaaDoorExprRefB
namespace Go.Proofs.YtdkflmpdelfgoaaDoor
open Go.RowKit Go.Shelf
set_option linter.unusedVariables false
set_option linter.unusedSimpArgs false
attribute [local go_sem] Oper.semAt_some

theorem u64_pos {n : Int} (h0 : 0 ≤ n) (h1 : n ≤ 9223372036854775807) : IntKind.u64.wrap n = ((n.toNat : Nat) : Int) := by rw [IntKind.wrap_u64]; omega
theorem u64_neg {n : Int} (h0 : n < 0) (h1 : -9223372036854775808 ≤ n) : IntKind.u64.wrap (-(IntKind.u64.wrap n)) = ((n.natAbs : Nat) : Int) := by rw [IntKind.wrap_u64, IntKind.wrap_u64]; omega
theorem itoa_pos {n : Int} (h : 0 ≤ n) : Lib.itoa n = Lib.decDigits n.toNat := by unfold Lib.itoa; rw [if_neg (by omega)]
theorem itoa_neg {n : Int} (h : n < 0) : Lib.itoa n = 45 :: Lib.decDigits n.natAbs := by unfold Lib.itoa; rw [if_pos h]
theorem ba_app (a b : BA) : (a ++ b).data.toList = a.data.toList ++ b.data.toList := by rw [ByteArray.data_append, Array.toList_append]
set_option maxRecDepth 100000 in
set_option maxHeartbeats 8000000 in
theorem rprint_ee (n : Int) (w : World) (h0 : -9223372036854775808 ≤ n) (h1 : n ≤ 9223372036854775807) :
    Calls Tryd.prog 22 #[vlV (n, E0, E0)] w fun e w' => e = .returned (PV (printV (n, E0, E0))) ∧ Below w.heap.size w w' := by
  have hV : printV (n, E0, E0) = (⟨(Lib.itoa n).toArray⟩, 0) := by
    have e : vtB (n, E0, E0) = Lib.itoa n := by
      simp [vtB, hasS]
    rw [← e]; rfl
  rw [hV]
  unfold vlV PV
  simp only
  clear hV
  by_cases hn : n < 0
  · have e2 := u64_neg hn h0
    obtain ⟨U, e1⟩ : ∃ U, IntKind.u64.wrap n = U := ⟨_, rfl⟩
    rw [e1] at e2
    have DEC := Lib.hid (fun W => rdec_any n.natAbs (by omega) W)
    have HF := Lib.hid (show (⟨#[45]⟩ ++ ⟨(Lib.decDigits n.natAbs).toArray⟩ : BA) = ⟨(Lib.itoa n).toArray⟩ from bytes_eq (by rw [ba_app, itoa_neg hn]; rfl))
    have HLL := dec_len n.natAbs (by omega)
    generalize (⟨(Lib.itoa n).toArray⟩ : BA) = R at *
    obtain ⟨A, hA⟩ : ∃ A : BA, ⟨(Lib.decDigits n.natAbs).toArray⟩ = A := ⟨_, rfl⟩
    have hs : A.size ≤ 20 := by rw [← hA, size_list]; exact HLL
    rw [hA] at HF DEC
    clear HLL hA
    generalize n.natAbs = k at *
    clear h0 h1
    go_enter Tryd.func22, Tryd.ntmps22
    go_wp2_with fail
    refine (DEC.out _).mono ?_
    rintro e w2 ⟨rfl, rfl⟩
    go_wp2_with fail
    go_ret2
    exact ⟨by rw [← HF.out]; rfl, below1 w _⟩
  · have e1 := u64_pos (n := n) (by omega) h1
    have DEC := Lib.hid (fun W => rdec_any n.toNat (by omega) W)
    have HF := Lib.hid (show (⟨(Lib.decDigits n.toNat).toArray⟩ : BA) = ⟨(Lib.itoa n).toArray⟩ by rw [itoa_pos (by omega)])
    rw [HF.out] at DEC
    generalize (⟨(Lib.itoa n).toArray⟩ : BA) = R at *
    generalize n.toNat = k at *
    clear h0 h1 HF
    go_enter Tryd.func22, Tryd.ntmps22
    go_wp2_with fail
    refine (DEC.out _).mono ?_
    rintro e w2 ⟨rfl, rfl⟩
    go_wp2_with fail
    go_ret2
    exact ⟨rfl, below1 w _⟩
/-! ### the other shapes -/
theorem vt_text {n : Int} {p m : BA} {x : Bs} (hs : hasS (n, p, m) = true) (hx : x = p.data.toList ++ (if m = E0 then [] else (if p = E0 then [48] else []) ++ [45] ++ m.data.toList)) : vtB (n, p, m) = x ++ ((if 0 < n then [43] else []) ++ (if n ≠ 0 then Lib.itoa n else [])) := by
  rw [hx]; unfold vtB; rw [hs]; simp
theorem fin_neg {n : Int} {p m S : BA} (hn : n < 0) (hv : vtB (n, p, m) = S.data.toList ++ ((if 0 < n then [43] else []) ++ (if n ≠ 0 then Lib.itoa n else []))) : S ++ (⟨#[45]⟩ ++ ⟨(Lib.decDigits n.natAbs).toArray⟩ : BA) = ⟨(vtB (n, p, m)).toArray⟩ := bytes_eq (by
  rw [ba_app, ba_app, hv, itoa_neg hn, if_neg (by omega), if_pos (by omega)]; rfl)
theorem fin_pos {n : Int} {p m S : BA} (hn : 0 < n) (hv : vtB (n, p, m) = S.data.toList ++ ((if 0 < n then [43] else []) ++ (if n ≠ 0 then Lib.itoa n else []))) : S ++ (⟨#[43]⟩ ++ ⟨(Lib.decDigits n.toNat).toArray⟩ : BA) = ⟨(vtB (n, p, m)).toArray⟩ := bytes_eq (by
  rw [ba_app, ba_app, hv, itoa_pos (by omega), if_pos hn, if_pos (by omega)])
theorem fin_zero {p m S : BA} (hv : vtB (0, p, m) = S.data.toList ++ ((if (0 : Int) < 0 then [43] else []) ++ (if (0 : Int) ≠ 0 then Lib.itoa 0 else []))) : S = ⟨(vtB (0, p, m)).toArray⟩ := bytes_eq (by
  rw [hv, if_neg (by omega), if_neg (by omega)]; simp)
theorem sz_app (a b : BA) : (a ++ b).size = a.size + b.size := ByteArray.size_append
theorem no4 {s : BA} (h : s ≠ E0) : (s.toList == []) = false ∧ (s.toList != []) = true ∧ s.toList.isEmpty = false ∧ ¬ (s.toList = []) := by
  have a := lit_no (l := []) h
  have b : ¬ (s.toList = []) := fun e => by rw [e] at a; cases a
  exact ⟨a, by rw [bne, a]; rfl, by rw [List.isEmpty_eq_false_iff]; exact b, b⟩
theorem ne_of_size {s : BA} (h : 0 < s.size) : s ≠ E0 := by rintro rfl; exact absurd h (by decide)
set_option maxRecDepth 100000 in
set_option maxHeartbeats 16000000 in
theorem rprint_em (n : Int) (m : BA) (em : m ≠ E0) (hm : m.size ≤ maxLen) (w : World) (h0 : -9223372036854775808 ≤ n) (h1 : n ≤ 9223372036854775807) :
    Calls Tryd.prog 22 #[vlV (n, E0, m)] w fun e w' => e = .returned (PV (printV (n, E0, m))) ∧ Below w.heap.size w w' := by
  obtain ⟨em1, em2, em3, em4⟩ := no4 em
  have IM := Lib.hid (fun V => rIsSym_any m V hm)
  cases hb : symB m.data.toList with
  | false =>
    have hR : printV (n, E0, m) = (E0, 90) := by unfold printV pvOk partB; simp only [hb, decide_eq_false em]; simp
    rw [hb] at IM
    clear hm em hb
    unfold vlV
    rw [hR]
    unfold PV
    simp only
    clear hR h0 h1
    go_enter Tryd.func22, Tryd.ntmps22
    go_wp2_with fail
    refine (IM.out _).mono ?_
    rintro e w2 ⟨rfl, rfl⟩
    go_wp2_with fail
    go_ret2
    exact ⟨rfl, below1 w _⟩
  | true =>
    have hsz : m.size ≤ 512 := partB_size (by unfold partB; rw [hb, Bool.or_true])
    obtain ⟨S, HS⟩ : ∃ S : BA, (⟨#[48]⟩ : BA) ++ (⟨#[45]⟩ ++ m) = S := ⟨_, rfl⟩
    have hSz : S.size ≤ 2000 := by rw [← HS, sz_app, sz_app]; show 1 + (1 + m.size) ≤ 2000; omega
    obtain ⟨hS1, hS2, hS3, hS4⟩ := no4 (ne_of_size (s := S) (by rw [← HS, sz_app]; show 0 < 1 + _; omega))
    have HV := Lib.hid (vt_text (n := n) (p := E0) (m := m) (x := S.data.toList) (by simp [hasS, em]) (by rw [← HS, ba_app, ba_app, if_neg em, if_pos rfl]; rfl))
    have HOK := Lib.hid (show pvOk (n, E0, m) = true by unfold pvOk partB; simp [hb])
    have e3 := lists_ne (p := E0) (m := m) (fun h => em h.symm)
    rw [hb] at IM
    clear hm em hb
    by_cases hn : n < 0
    · have e2 := u64_neg hn h0
      obtain ⟨U, e1⟩ : ∃ U, IntKind.u64.wrap n = U := ⟨_, rfl⟩
      rw [e1] at e2
      have DEC := Lib.hid (fun W => rdec_any n.natAbs (by omega) W)
      have HLL := dec_len n.natAbs (by omega)
      have HF := Lib.hid (fin_neg hn HV.out)
      obtain ⟨A, hA⟩ : ∃ A : BA, ⟨(Lib.decDigits n.natAbs).toArray⟩ = A := ⟨_, rfl⟩
      have hs : A.size ≤ 20 := by rw [← hA, size_list]; exact HLL
      rw [hA] at HF DEC
      clear HLL hA
      generalize n.natAbs = k at *
      have hR : printV (n, E0, m) = (⟨(vtB (n, E0, m)).toArray⟩, 0) := by unfold printV; rw [if_pos HOK.out]
      rw [hR]
      unfold vlV PV
      simp only
      generalize (⟨(vtB (n, E0, m)).toArray⟩ : BA) = R at *
      clear hR HOK HV
      clear h0 h1
      go_enter Tryd.func22, Tryd.ntmps22
      go_wp2_with fail
      refine (IM.out _).mono ?_
      rintro e w2 ⟨rfl, rfl⟩
      go_wp2_with fail
      refine (DEC.out _).mono ?_
      rintro e w2 ⟨rfl, rfl⟩
      go_wp2_with fail
      go_ret2
      exact ⟨by rw [← HF.out]; rfl, below1 w _⟩
    · by_cases hn : 0 < n
      · have e1 := u64_pos (n := n) (by omega) h1
        have hn0 : ¬ (n < 0) := by omega
        have DEC := Lib.hid (fun W => rdec_any n.toNat (by omega) W)
        have HLL := dec_len n.toNat (by omega)
        have HF := Lib.hid (fin_pos hn HV.out)
        obtain ⟨A, hA⟩ : ∃ A : BA, ⟨(Lib.decDigits n.toNat).toArray⟩ = A := ⟨_, rfl⟩
        have hs : A.size ≤ 20 := by rw [← hA, size_list]; exact HLL
        rw [hA] at HF DEC
        clear HLL hA
        generalize n.toNat = k at *
        have hR : printV (n, E0, m) = (⟨(vtB (n, E0, m)).toArray⟩, 0) := by unfold printV; rw [if_pos HOK.out]
        rw [hR]
        unfold vlV PV
        simp only
        generalize (⟨(vtB (n, E0, m)).toArray⟩ : BA) = R at *
        clear hR HOK HV
        clear h0 h1
        go_enter Tryd.func22, Tryd.ntmps22
        go_wp2_with fail
        refine (IM.out _).mono ?_
        rintro e w2 ⟨rfl, rfl⟩
        go_wp2_with fail
        refine (DEC.out _).mono ?_
        rintro e w2 ⟨rfl, rfl⟩
        go_wp2_with fail
        go_ret2
        exact ⟨by rw [← HF.out]; rfl, below1 w _⟩
      · obtain rfl : n = 0 := by omega
        have HF := Lib.hid (fin_zero HV.out)
        have hR : printV (0, E0, m) = (⟨(vtB (0, E0, m)).toArray⟩, 0) := by unfold printV; rw [if_pos HOK.out]
        rw [hR]
        unfold vlV PV
        simp only
        generalize (⟨(vtB (0, E0, m)).toArray⟩ : BA) = R at *
        clear hR HOK HV
        go_enter Tryd.func22, Tryd.ntmps22
        go_wp2_with fail
        refine (IM.out _).mono ?_
        rintro e w2 ⟨rfl, rfl⟩
        go_wp2_with fail
        go_ret2
        exact ⟨by rw [← HF.out]; rfl, below1 w _⟩
set_option maxRecDepth 100000 in
set_option maxHeartbeats 16000000 in
theorem rprint_pe (n : Int) (p : BA) (ep : p ≠ E0) (hp : p.size ≤ maxLen) (w : World) (h0 : -9223372036854775808 ≤ n) (h1 : n ≤ 9223372036854775807) :
    Calls Tryd.prog 22 #[vlV (n, p, E0)] w fun e w' => e = .returned (PV (printV (n, p, E0))) ∧ Below w.heap.size w w' := by
  obtain ⟨ep1, ep2, ep3, ep4⟩ := no4 ep
  have IP := Lib.hid (fun V => rIsSym_any p V hp)
  cases hb : symB p.data.toList with
  | false =>
    have hR : printV (n, p, E0) = (E0, 90) := by unfold printV pvOk partB; simp only [hb, decide_eq_false ep]; simp
    rw [hb] at IP
    clear hp ep hb
    unfold vlV
    rw [hR]
    unfold PV
    simp only
    clear hR h0 h1
    go_enter Tryd.func22, Tryd.ntmps22
    go_wp2_with fail
    refine (IP.out _).mono ?_
    rintro e w2 ⟨rfl, rfl⟩
    go_wp2_with fail
    go_ret2
    exact ⟨rfl, below1 w _⟩
  | true =>
    have hsz : p.size ≤ 512 := partB_size (by unfold partB; rw [hb, Bool.or_true])
    have HV := Lib.hid (vt_text (n := n) (p := p) (m := E0) (x := p.data.toList) (by simp [hasS, ep]) (by rw [if_pos rfl, List.append_nil]))
    have HOK := Lib.hid (show pvOk (n, p, E0) = true by unfold pvOk partB; simp [hb, ep])
    have e3 := lists_ne (p := p) (m := E0) ep
    rw [hb] at IP
    clear hp ep hb
    by_cases hn : n < 0
    · have e2 := u64_neg hn h0
      obtain ⟨U, e1⟩ : ∃ U, IntKind.u64.wrap n = U := ⟨_, rfl⟩
      rw [e1] at e2
      have DEC := Lib.hid (fun W => rdec_any n.natAbs (by omega) W)
      have HLL := dec_len n.natAbs (by omega)
      have HF := Lib.hid (fin_neg hn HV.out)
      obtain ⟨A, hA⟩ : ∃ A : BA, ⟨(Lib.decDigits n.natAbs).toArray⟩ = A := ⟨_, rfl⟩
      have hs : A.size ≤ 20 := by rw [← hA, size_list]; exact HLL
      rw [hA] at HF DEC
      clear HLL hA
      generalize n.natAbs = k at *
      have hR : printV (n, p, E0) = (⟨(vtB (n, p, E0)).toArray⟩, 0) := by unfold printV; rw [if_pos HOK.out]
      rw [hR]
      unfold vlV PV
      simp only
      generalize (⟨(vtB (n, p, E0)).toArray⟩ : BA) = R at *
      clear hR HOK HV
      clear h0 h1
      go_enter Tryd.func22, Tryd.ntmps22
      go_wp2_with fail
      refine (IP.out _).mono ?_
      rintro e w2 ⟨rfl, rfl⟩
      go_wp2_with fail
      refine (DEC.out _).mono ?_
      rintro e w2 ⟨rfl, rfl⟩
      go_wp2_with fail
      go_ret2
      exact ⟨by rw [← HF.out]; rfl, below1 w _⟩
    · by_cases hn : 0 < n
      · have e1 := u64_pos (n := n) (by omega) h1
        have hn0 : ¬ (n < 0) := by omega
        have DEC := Lib.hid (fun W => rdec_any n.toNat (by omega) W)
        have HLL := dec_len n.toNat (by omega)
        have HF := Lib.hid (fin_pos hn HV.out)
        obtain ⟨A, hA⟩ : ∃ A : BA, ⟨(Lib.decDigits n.toNat).toArray⟩ = A := ⟨_, rfl⟩
        have hs : A.size ≤ 20 := by rw [← hA, size_list]; exact HLL
        rw [hA] at HF DEC
        clear HLL hA
        generalize n.toNat = k at *
        have hR : printV (n, p, E0) = (⟨(vtB (n, p, E0)).toArray⟩, 0) := by unfold printV; rw [if_pos HOK.out]
        rw [hR]
        unfold vlV PV
        simp only
        generalize (⟨(vtB (n, p, E0)).toArray⟩ : BA) = R at *
        clear hR HOK HV
        clear h0 h1
        go_enter Tryd.func22, Tryd.ntmps22
        go_wp2_with fail
        refine (IP.out _).mono ?_
        rintro e w2 ⟨rfl, rfl⟩
        go_wp2_with fail
        refine (DEC.out _).mono ?_
        rintro e w2 ⟨rfl, rfl⟩
        go_wp2_with fail
        go_ret2
        exact ⟨by rw [← HF.out]; rfl, below1 w _⟩
      · obtain rfl : n = 0 := by omega
        have HF := Lib.hid (fin_zero HV.out)
        have hR : printV (0, p, E0) = (⟨(vtB (0, p, E0)).toArray⟩, 0) := by unfold printV; rw [if_pos HOK.out]
        rw [hR]
        unfold vlV PV
        simp only
        generalize (⟨(vtB (0, p, E0)).toArray⟩ : BA) = R at *
        clear hR HOK HV
        go_enter Tryd.func22, Tryd.ntmps22
        go_wp2_with fail
        refine (IP.out _).mono ?_
        rintro e w2 ⟨rfl, rfl⟩
        go_wp2_with fail
        go_ret2
        exact ⟨by rw [← HF.out]; rfl, below1 w _⟩
set_option maxRecDepth 100000 in
set_option maxHeartbeats 16000000 in
theorem rprint_pm (n : Int) (p m : BA) (ep : p ≠ E0) (em : m ≠ E0) (hp : p.size ≤ maxLen) (hm : m.size ≤ maxLen) (w : World) (h0 : -9223372036854775808 ≤ n) (h1 : n ≤ 9223372036854775807) :
    Calls Tryd.prog 22 #[vlV (n, p, m)] w fun e w' => e = .returned (PV (printV (n, p, m))) ∧ Below w.heap.size w w' := by
  obtain ⟨ep1, ep2, ep3, ep4⟩ := no4 ep
  obtain ⟨em1, em2, em3, em4⟩ := no4 em
  have IP := Lib.hid (fun V => rIsSym_any p V hp)
  have IM := Lib.hid (fun V => rIsSym_any m V hm)
  cases hb : symB p.data.toList with
  | false =>
    have hR : printV (n, p, m) = (E0, 90) := by unfold printV pvOk partB; simp only [hb, decide_eq_false ep]; simp
    rw [hb] at IP
    clear hp ep hb hm em
    unfold vlV
    rw [hR]
    unfold PV
    simp only
    clear hR h0 h1
    go_enter Tryd.func22, Tryd.ntmps22
    go_wp2_with fail
    refine (IP.out _).mono ?_
    rintro e w2 ⟨rfl, rfl⟩
    go_wp2_with fail
    go_ret2
    exact ⟨rfl, below1 w _⟩
  | true =>
    have hsz : p.size ≤ 512 := partB_size (by unfold partB; rw [hb, Bool.or_true])
    rw [hb] at IP
    cases hc : symB m.data.toList with
    | false =>
      have hR : printV (n, p, m) = (E0, 90) := by unfold printV pvOk partB; simp only [hb, hc, decide_eq_false ep, decide_eq_false em]; simp
      rw [hc] at IM
      clear hp ep hb hm em hc
      unfold vlV
      rw [hR]
      unfold PV
      simp only
      clear hR h0 h1
      go_enter Tryd.func22, Tryd.ntmps22
      go_wp2_with fail
      refine (IP.out _).mono ?_
      rintro e w2 ⟨rfl, rfl⟩
      go_wp2_with fail
      refine (IM.out _).mono ?_
      rintro e w2 ⟨rfl, rfl⟩
      go_wp2_with fail
      go_ret2
      exact ⟨rfl, below1 w _⟩
    | true =>
      have hszm : m.size ≤ 512 := partB_size (by unfold partB; rw [hc, Bool.or_true])
      rw [hc] at IM
      by_cases hpm : p = m
      · subst hpm
        have hR : printV (n, p, p) = (E0, 90) := by unfold printV pvOk; simp [ep]
        clear hp ep hb hm em hc
        unfold vlV
        rw [hR]
        unfold PV
        simp only
        clear hR h0 h1
        go_enter Tryd.func22, Tryd.ntmps22
        go_wp2_with fail
        refine (IP.out _).mono ?_
        rintro e w2 ⟨rfl, rfl⟩
        go_wp2_with fail
        refine (IM.out _).mono ?_
        rintro e w2 ⟨rfl, rfl⟩
        go_wp2_with fail
        go_ret2
        exact ⟨rfl, below1 w _⟩
      · have e3 := lists_ne hpm
        obtain ⟨S, HS⟩ : ∃ S : BA, p ++ (⟨#[45]⟩ ++ m) = S := ⟨_, rfl⟩
        have hSz : S.size ≤ 2000 := by rw [← HS, sz_app, sz_app]; show p.size + (1 + m.size) ≤ 2000; omega
        obtain ⟨hS1, hS2, hS3, hS4⟩ := no4 (ne_of_size (s := S) (by rw [← HS, sz_app, sz_app]; show 0 < _ + (1 + _); omega))
        have HV := Lib.hid (vt_text (n := n) (p := p) (m := m) (x := S.data.toList) (by simp [hasS, em]) (by rw [← HS, ba_app, ba_app, if_neg em, if_neg ep]; rfl))
        have HOK := Lib.hid (show pvOk (n, p, m) = true by unfold pvOk partB; simp [hb, hc, hpm])
        clear hp ep hb hm em hc hpm
        by_cases hn : n < 0
        · have e2 := u64_neg hn h0
          obtain ⟨U, e1⟩ : ∃ U, IntKind.u64.wrap n = U := ⟨_, rfl⟩
          rw [e1] at e2
          have DEC := Lib.hid (fun W => rdec_any n.natAbs (by omega) W)
          have HLL := dec_len n.natAbs (by omega)
          have HF := Lib.hid (fin_neg hn HV.out)
          obtain ⟨A, hA⟩ : ∃ A : BA, ⟨(Lib.decDigits n.natAbs).toArray⟩ = A := ⟨_, rfl⟩
          have hs : A.size ≤ 20 := by rw [← hA, size_list]; exact HLL
          rw [hA] at HF DEC
          clear HLL hA
          generalize n.natAbs = k at *
          have hR : printV (n, p, m) = (⟨(vtB (n, p, m)).toArray⟩, 0) := by unfold printV; rw [if_pos HOK.out]
          rw [hR]
          unfold vlV PV
          simp only
          generalize (⟨(vtB (n, p, m)).toArray⟩ : BA) = R at *
          clear hR HOK HV
          clear h0 h1
          go_enter Tryd.func22, Tryd.ntmps22
          go_wp2_with fail
          refine (IP.out _).mono ?_
          rintro e w2 ⟨rfl, rfl⟩
          go_wp2_with fail
          refine (IM.out _).mono ?_
          rintro e w2 ⟨rfl, rfl⟩
          go_wp2_with fail
          refine (DEC.out _).mono ?_
          rintro e w2 ⟨rfl, rfl⟩
          go_wp2_with fail
          go_ret2
          exact ⟨by rw [← HF.out]; rfl, below1 w _⟩
        · by_cases hn : 0 < n
          · have e1 := u64_pos (n := n) (by omega) h1
            have hn0 : ¬ (n < 0) := by omega
            have DEC := Lib.hid (fun W => rdec_any n.toNat (by omega) W)
            have HLL := dec_len n.toNat (by omega)
            have HF := Lib.hid (fin_pos hn HV.out)
            obtain ⟨A, hA⟩ : ∃ A : BA, ⟨(Lib.decDigits n.toNat).toArray⟩ = A := ⟨_, rfl⟩
            have hs : A.size ≤ 20 := by rw [← hA, size_list]; exact HLL
            rw [hA] at HF DEC
            clear HLL hA
            generalize n.toNat = k at *
            have hR : printV (n, p, m) = (⟨(vtB (n, p, m)).toArray⟩, 0) := by unfold printV; rw [if_pos HOK.out]
            rw [hR]
            unfold vlV PV
            simp only
            generalize (⟨(vtB (n, p, m)).toArray⟩ : BA) = R at *
            clear hR HOK HV
            clear h0 h1
            go_enter Tryd.func22, Tryd.ntmps22
            go_wp2_with fail
            refine (IP.out _).mono ?_
            rintro e w2 ⟨rfl, rfl⟩
            go_wp2_with fail
            refine (IM.out _).mono ?_
            rintro e w2 ⟨rfl, rfl⟩
            go_wp2_with fail
            refine (DEC.out _).mono ?_
            rintro e w2 ⟨rfl, rfl⟩
            go_wp2_with fail
            go_ret2
            exact ⟨by rw [← HF.out]; rfl, below1 w _⟩
          · obtain rfl : n = 0 := by omega
            have HF := Lib.hid (fin_zero HV.out)
            have hR : printV (0, p, m) = (⟨(vtB (0, p, m)).toArray⟩, 0) := by unfold printV; rw [if_pos HOK.out]
            rw [hR]
            unfold vlV PV
            simp only
            generalize (⟨(vtB (0, p, m)).toArray⟩ : BA) = R at *
            clear hR HOK HV
            go_enter Tryd.func22, Tryd.ntmps22
            go_wp2_with fail
            refine (IP.out _).mono ?_
            rintro e w2 ⟨rfl, rfl⟩
            go_wp2_with fail
            refine (IM.out _).mono ?_
            rintro e w2 ⟨rfl, rfl⟩
            go_wp2_with fail
            go_ret2
            exact ⟨by rw [← HF.out]; rfl, below1 w _⟩
theorem rprint_any (v : V3) (w : World) (h0 : -9223372036854775808 ≤ v.1) (h1 : v.1 ≤ 9223372036854775807) (hp : v.2.1.size ≤ maxLen) (hm : v.2.2.size ≤ maxLen) :
    Calls Tryd.prog 22 #[vlV v] w fun e w' => e = .returned (PV (printV v)) ∧ Below w.heap.size w w' := by
  obtain ⟨n, p, m⟩ := v
  by_cases ep : p = E0
  · subst ep
    by_cases em : m = E0
    · subst em; exact rprint_ee n w h0 h1
    · exact rprint_em n m em hm w h0 h1
  · by_cases em : m = E0
    · subst em; exact rprint_pe n p ep hp w h0 h1
    · exact rprint_pm n p m ep em hp hm w h0 h1
end Go.Proofs.YtdkflmpdelfgoaaDoor
