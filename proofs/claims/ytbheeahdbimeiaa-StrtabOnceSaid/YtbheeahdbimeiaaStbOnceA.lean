/-
  The law of each once. Conditions: how the names lie, and their sizes.
-/
import Derived.Test.YtbheeahdbimeiaaStbX
namespace Go.Proofs.Ytbheeahdbimeiaa
open Go.RowKit Go.Maps
set_option linter.unusedVariables false
set_option linter.unusedSimpArgs false

def memB (L : List BA) (s : BA) : Bool := L.any fun x => decide (x = s)
theorem memB_iff {L : List BA} {s : BA} : memB L s = true ↔ s ∈ L := by
  unfold memB
  rw [List.any_eq_true]
  constructor
  · rintro ⟨x, hx, h⟩
    have := of_decide_eq_true h
    subst this; exact hx
  · intro h; exact ⟨s, h, decide_eq_true rfl⟩
theorem memB_no {L : List BA} {s : BA} : memB L s = false ↔ s ∉ L := by
  rw [← memB_iff]; simp
/-- a name is a new one -/
def newB (L : List BA) (i : Nat) (s : BA) : Bool := !decide (s = ⟨#[]⟩) && !memB (L.take i) s
set_option maxHeartbeats 2000000 in
theorem index_any (v : Value) (L : List BA) (s : BA) (w : World) (hL : StrO w v L) :
    Calls Try.prog 34 #[v, .string s] w fun e w' => (∃ j : Int, e = .returned (.int .i64 j) ∧ (0 ≤ j ↔ s ∈ L)) ∧ w = w' := by
  have HL := Lib.hid hL
  obtain ⟨aa, ca, rfl⟩ := hL.slice
  have hlm : L.length ≤ maxLen := by have := RowsO.len hL; rwa [List.length_map] at this
  unfold maxLen at hlm
  clear hL
  go_enter Try.func34, Try.ntmps34
  go_wp2_with fail
  go_loopw [8] (fun iv wr => ∃ i : Nat, i ≤ L.length ∧ iv = .int .i64 (i : Int) ∧ Hid (s ∉ L.take i) ∧ wr = w) (fun iv _ => L.length - (intOf iv).toNat)
  case atStart => exact ⟨0, Nat.zero_le _, rfl, Lib.hid (by simp), rfl⟩
  case round =>
    obtain ⟨i, hi, rfl, HN, rfl⟩ := hrel
    by_cases hlt : (i : Int) < (L.length : Int)
    · obtain ⟨g, off, cap, x, hx, hv, hg, x0⟩ := HL.out.at (k := i) (by omega)
      cases hv
      have w9 : IntKind.i64.wrap ((i : Int) + 1) = ((i + 1 : Nat) : Int) := by rw [IntWalk.i64_in _ (by omega)]; omega
      have ip : (0 : Int) ≤ (i : Int) := by omega
      have HX := Lib.hid hx
      clear hx
      by_cases he : s = x
      · subst he
        go_wp2_with fail
        go_ret
        exact ⟨⟨_, rfl, ⟨fun _ => List.mem_of_getElem? HX.out, fun _ => ip⟩⟩, rfl⟩
      · have hne := ba_ne he
        have HN2 := Lib.hid (show s ∉ L.take (i + 1) by
          rw [List.take_add_one, HX.out]
          intro hm
          rcases List.mem_append.1 hm with h | h
          · exact HN.out h
          · simp only [Option.toList, List.mem_singleton] at h; exact he h)
        clear he
        go_wp2_with fail
        go_roundw
        case rel => exact ⟨i + 1, by omega, by first | rfl | rw [← w9], HN2, by first | rfl | trivial⟩
        case measure => simp [intOf]; omega
    · have HF := Lib.hid (show s ∉ L by have := HN.out; rwa [List.take_of_length_le (by omega)] at this)
      go_wp2_with fail
      go_ret
      exact ⟨⟨_, rfl, ⟨fun h => absurd h (by decide), fun h => absurd h HF.out⟩⟩, rfl⟩
theorem contains_any (v : Value) (L : List BA) (s : BA) (w : World) (hL : StrO w v L) :
    Calls Try.prog 23 #[v, .string s] w fun e w' => e = .returned (.bool (memB L s)) ∧ w = w' := by
  have HI := Lib.hid (index_any v L s w hL)
  obtain ⟨aa, ca, rfl⟩ := hL.slice
  clear hL
  go_enter Try.func23, Try.ntmps23
  go_wp2_with fail
  refine HI.out.mono ?_
  rintro e w1 ⟨⟨j, rfl, hj⟩, rfl⟩
  have HJ := Lib.hid (show decide (0 ≤ j) = memB L s by
    cases e : memB L s
    · exact decide_eq_false (fun h => memB_no.1 e (hj.1 h))
    · exact decide_eq_true (hj.2 (memB_iff.1 e)))
  clear hj
  go_wp2_with fail
  go_ret
  exact ⟨ret1b (by rw [← HJ.out]), rfl⟩
theorem newB_iff {L : List BA} {i : Nat} {s : BA} : newB L i s = true ↔ gB L i s = none := by
  unfold newB
  rw [gB_none, Bool.and_eq_true]
  simp [memB_no]
theorem out_step {L : List BA} {i : Nat} {s : BA} (h : L[i]? = some s) : (outI L (i + 1)).length = (outI L i).length + (if newB L i s = true then s.size + 1 else 0) := by
  have hi := (List.getElem?_eq_some_iff.1 h).1
  have hd : L.getD i default = s := by simp [List.getD, h]
  cases hg : gB L i s with
  | none =>
    rw [if_pos (newB_iff.2 hg), (gB_new hi (by rw [hd]; exact hg)).2, hd, List.length_append, List.length_append, nm_len]
    rfl
  | some p =>
    rw [if_neg (fun e => by rw [newB_iff.1 e] at hg; cases hg), (gB_old hi (by rw [hd]; exact hg)).2]
    rfl
set_option maxRecDepth 100000 in
set_option maxHeartbeats 8000000 in
theorem once_law (v : Value) (L : List BA) (w : World) (hL : StrO w v L) (hM : ∀ x ∈ L, x.size ≤ 140737488351232) :
    Calls Try.prog 6 #[v] w fun e w' => e = .returned (.bool true) ∧ Below w.heap.size w w' := by
  have HL := Lib.hid hL
  have LV := Lib.hid (live_any w)
  have FW := Lib.hid (fun W h => few_any v L W h)
  have PB := Lib.hid (fun W (h : StrO W v L) (hf : fewB L = true) => build_any v L W h (by have := (few_facts hf hM).1; omega) (fun x hx => by have := hM x hx; omega))
  have HC := Lib.hid (fun u k s W (h : StrO W u (L.take k)) => contains_any u (L.take k) s W h)
  obtain ⟨aa, ca, rfl⟩ := hL.slice
  have hca : L.length ≤ ca ∨ L.length = 0 := by have := RowsO.capL hL; omega
  have hlm : L.length ≤ maxLen := by have := RowsO.len hL; rwa [List.length_map] at this
  unfold maxLen at hlm
  clear hL hM
  go_enter Try.func6, Try.ntmps6
  go_wp2_with fail
  refine LV.out.mono ?_
  rintro e w1 ⟨rfl, hb1⟩
  have HB1 := Lib.hid hb1
  clear hb1
  go_wp2_with fail
  refine (FW.out _ (HL.out.keep HB1.out)).mono ?_
  rintro e w1' ⟨rfl, rfl⟩
  by_cases hf : fewB L = true
  · rw [hf]
    go_wp2_with fail
    refine (PB.out _ (HL.out.keep HB1.out) hf).mono ?_
    rintro e w2 ⟨hA, hb2⟩
    have HB2 := Lib.hid (Below.thn HB1.out HB1.out.size hb2)
    clear hb2 hf
    rcases hA with ⟨hE, rfl⟩ | ⟨hE, v1, v2, rfl, h1, h2⟩
    · have hne : (bldE L == 0) = false := not_beq hE
      have hne2 : (bldE L != 0) = true := by simp [bne, hne]
      generalize bldE L = E at *
      go_wp2_with fail
      go_ret
      exact ⟨rfl, HB2.out⟩
    · have HTL := Lib.hid (bld_facts hE).2
      have hal := atI_len L (Nat.le_refl _)
      obtain ⟨ya, yc, rfl⟩ := h1.slice
      obtain ⟨za, zc, hza⟩ := h2.slice
      rw [hal] at hza
      subst hza
      have H2 := Lib.hid h2
      have HLW := Lib.hid (HL.out.keep HB2.out)
      clear h1 h2 hE
      go_wp2_with fail
      go_loopw [6, 30] (fun nv iv wr => ∃ (i m : Nat), i ≤ L.length ∧ nv = .int .i64 (((outI L i).length : Nat) : Int) ∧ iv = .int .i64 (i : Int) ∧ wr = w2.drewN m) (fun nv iv _ => L.length - (intOf iv).toNat)
      case atStart => exact ⟨0, 0, Nat.zero_le _, rfl, rfl, rfl⟩
      case round =>
        obtain ⟨i, m, hi, rfl, rfl, rfl⟩ := hrel
        by_cases hlt : (i : Int) < (L.length : Int)
        · obtain ⟨g, off, cap, x, hx, hv, hg, x0⟩ := HLW.out.at (k := i) (by omega)
          cases hv
          have w9 : IntKind.i64.wrap ((i : Int) + 1) = ((i + 1 : Nat) : Int) := by rw [IntWalk.i64_in _ (by omega)]; omega
          have ip : (0 : Int) ≤ (i : Int) := by omega
          have hic : ((i : Nat) : Int) ≤ ((ca : Nat) : Int) := by omega
          have hic2 : i ≤ ca := by omega
          have HS := Lib.hid (out_step hx)
          have HX := Lib.hid hx
          have HM := Lib.hid (out_mono (L := L) (i := i + 1) (j := L.length) (by omega))
          clear hx
          have HCI := Lib.hid (HC.out (.slice (some ⟨g, off, none⟩) i ca) i x _ (StrO.take (RowsO.keep HLW.out (below_drewN (Below.refl _ w2) m)) hi))
          by_cases h0 : x = ⟨#[]⟩
          · have HNW := Lib.hid (show newB L i x = false by unfold newB; rw [decide_eq_true h0]; rfl)
            subst h0
            go_wp2_with fail
            go_loopw [51] (fun kv wr => ∃ (k m : Nat), k ≤ i ∧ kv = .int .i64 (k : Int) ∧ wr = w2.drewN m) (fun kv _ => i - (intOf kv).toNat)
            case atStart => exact ⟨0, _, Nat.zero_le _, rfl, by first | rfl | trivial⟩
            case round =>
              obtain ⟨k, m', hki, rfl, rfl⟩ := hrel
              by_cases hlk : (k : Int) < (i : Int)
              · obtain ⟨y, hy⟩ : ∃ y, L[k]? = some y := ⟨_, List.getElem?_eq_getElem (by omega)⟩
                obtain ⟨g1, off1, cap1, y', hy', hv1, hg1, y0⟩ := HLW.out.at (k := k) (by omega)
                cases hv1
                obtain rfl : y' = y := by rw [hy] at hy'; injection hy' with e; exact e.symm
                obtain ⟨g2, off2, cap2, p, hp, hv2, hg2, z0⟩ := H2.out.at (k := i) (by omega)
                rw [hal] at hv2
                cases hv2
                obtain ⟨g3, off3, cap3, q, hq, hv3, hg3, z1⟩ := H2.out.at (k := k) (by omega)
                rw [hal] at hv3
                cases hv3
                obtain rfl : p = ((posOf (uniq (nms L)) (nmOf (⟨#[]⟩ : BA)) : Nat) : Int) := by rw [at_get HX.out] at hp; injection hp with e; exact e.symm
                obtain rfl : q = ((posOf (uniq (nms L)) (nmOf y') : Nat) : Int) := by rw [at_get hy] at hq; injection hq with e; exact e.symm
                have HSAME := Lib.hid (at_same HX.out hy)
                have w6 : IntKind.i64.wrap ((k : Int) + 1) = ((k + 1 : Nat) : Int) := by rw [IntWalk.i64_in _ (by omega)]; omega
                have kp : (0 : Int) ≤ (k : Int) := by omega
                have kl : (k : Int) < ((L.length : Nat) : Int) := by omega
                generalize ((posOf (uniq (nms L)) (nmOf (⟨#[]⟩ : BA)) : Nat) : Int) = P at *
                generalize ((posOf (uniq (nms L)) (nmOf y') : Nat) : Int) = Q at *
                have hdx := HX.out
                clear hy hy' hp hq hdx
                by_cases hxy : (⟨#[]⟩ : BA) = y'
                · subst hxy
                  have hpq : (P == Q) = true := by rw [HSAME.out]; exact decide_eq_true rfl
                  clear HSAME
                  go_wp2_with fail
                  go_quiet (fail)
                  go_wp2_with fail
                  exact ⟨⟨k + 1, _, by omega, by first | rfl | (push_cast; rfl) | rw [← w6], rfl⟩, by simp [intOf]; omega⟩
                · have hpq : (P == Q) = false := by rw [HSAME.out]; exact decide_eq_false hxy
                  have hne := ba_ne hxy
                  have hy2 : (ByteArray.toList y').isEmpty = false := by
                    cases hc : ByteArray.toList y' with
                    | nil => exact absurd (ba_ext (by rw [ByteArray.toList_eq] at hc; exact hc.symm)) hxy
                    | cons c r => rfl
                  have hy3 : (([] : List UInt8) == ByteArray.toList y') = false := by
                    cases hc : ByteArray.toList y' with
                    | nil => rw [hc] at hy2; cases hy2
                    | cons c r => rfl
                  clear HSAME hxy
                  go_wp2_with fail
                  go_quiet (fail)
                  go_wp2_with fail
                  exact ⟨⟨k + 1, _, by omega, by first | rfl | (push_cast; rfl) | rw [← w6], rfl⟩, by simp [intOf]; omega⟩
              · go_wp2_with fail
                go_roundw
                case rel => exact ⟨i + 1, _, by omega, by rw [HS.out, if_neg (by rw [HNW.out]; decide)]; first | rfl | simp | rw [← w8], by first | rfl | rw [← w9], by first | rfl | trivial⟩
                case measure => simp [intOf]; omega
          · have hn1 := ba_ne h0
            have hn2 : (ByteArray.toList x).isEmpty = false := by
              cases hc : ByteArray.toList x with
              | nil => exact absurd (ba_ext (by rw [ByteArray.toList_eq] at hc; exact hc)) h0
              | cons c r => rfl
            cases hmm : memB (L.take i) x with
            | true =>
              have HNW := Lib.hid (show newB L i x = false by unfold newB; rw [hmm]; simp)
              rw [hmm] at HCI
              clear h0 hmm
              go_wp2_with fail
              refine HCI.out.mono ?_
              rintro e w3 ⟨rfl, rfl⟩
              go_wp2_with fail
              go_loopw [51] (fun kv wr => ∃ (k m : Nat), k ≤ i ∧ kv = .int .i64 (k : Int) ∧ wr = w2.drewN m) (fun kv _ => i - (intOf kv).toNat)
              case atStart => exact ⟨0, _, Nat.zero_le _, rfl, by first | rfl | trivial⟩
              case round =>
                obtain ⟨k, m', hki, rfl, rfl⟩ := hrel
                by_cases hlk : (k : Int) < (i : Int)
                · obtain ⟨y, hy⟩ : ∃ y, L[k]? = some y := ⟨_, List.getElem?_eq_getElem (by omega)⟩
                  obtain ⟨g1, off1, cap1, y', hy', hv1, hg1, y0⟩ := HLW.out.at (k := k) (by omega)
                  cases hv1
                  obtain rfl : y' = y := by rw [hy] at hy'; injection hy' with e; exact e.symm
                  obtain ⟨g2, off2, cap2, p, hp, hv2, hg2, z0⟩ := H2.out.at (k := i) (by omega)
                  rw [hal] at hv2
                  cases hv2
                  obtain ⟨g3, off3, cap3, q, hq, hv3, hg3, z1⟩ := H2.out.at (k := k) (by omega)
                  rw [hal] at hv3
                  cases hv3
                  obtain rfl : p = ((posOf (uniq (nms L)) (nmOf x) : Nat) : Int) := by rw [at_get HX.out] at hp; injection hp with e; exact e.symm
                  obtain rfl : q = ((posOf (uniq (nms L)) (nmOf y') : Nat) : Int) := by rw [at_get hy] at hq; injection hq with e; exact e.symm
                  have HSAME := Lib.hid (at_same HX.out hy)
                  have w6 : IntKind.i64.wrap ((k : Int) + 1) = ((k + 1 : Nat) : Int) := by rw [IntWalk.i64_in _ (by omega)]; omega
                  have kp : (0 : Int) ≤ (k : Int) := by omega
                  have kl : (k : Int) < ((L.length : Nat) : Int) := by omega
                  generalize ((posOf (uniq (nms L)) (nmOf x) : Nat) : Int) = P at *
                  generalize ((posOf (uniq (nms L)) (nmOf y') : Nat) : Int) = Q at *
                  have hdx := HX.out
                  clear hy hy' hp hq hdx
                  by_cases hxy : x = y'
                  · subst hxy
                    have hpq : (P == Q) = true := by rw [HSAME.out]; exact decide_eq_true rfl
                    clear HSAME
                    go_wp2_with fail
                    go_quiet (fail)
                    go_wp2_with fail
                    exact ⟨⟨k + 1, _, by omega, by first | rfl | (push_cast; rfl) | rw [← w6], rfl⟩, by simp [intOf]; omega⟩
                  · have hpq : (P == Q) = false := by rw [HSAME.out]; exact decide_eq_false hxy
                    have hne := ba_ne hxy
                    clear HSAME hxy
                    go_wp2_with fail
                    go_quiet (fail)
                    go_wp2_with fail
                    exact ⟨⟨k + 1, _, by omega, by first | rfl | (push_cast; rfl) | rw [← w6], rfl⟩, by simp [intOf]; omega⟩
                · go_wp2_with fail
                  go_roundw
                  case rel => exact ⟨i + 1, _, by omega, by rw [HS.out, if_neg (by rw [HNW.out]; decide)]; first | rfl | simp | rw [← w8], by first | rfl | rw [← w9], by first | rfl | trivial⟩
                  case measure => simp [intOf]; omega
            | false =>
              have HNW := Lib.hid (show newB L i x = true by unfold newB; rw [hmm, decide_eq_false h0]; rfl)
              rw [hmm] at HCI
              have hs1 := HS.out
              rw [if_pos HNW.out] at hs1
              have hm1 := HM.out
              have ht1 := HTL.out
              have w7 : IntKind.i64.wrap ((x.size : Int) + 1) = (x.size : Int) + 1 := by rw [IntWalk.i64_in _ (by omega)]
              have w8 : IntKind.i64.wrap (((outI L i).length : Int) + ((x.size : Int) + 1)) = (((outI L i).length + (x.size + 1) : Nat) : Int) := by rw [IntWalk.i64_in _ (by omega)]; omega
              clear h0 hmm hs1 hm1 ht1
              go_wp2_with fail
              refine HCI.out.mono ?_
              rintro e w3 ⟨rfl, rfl⟩
              go_wp2_with fail
              go_loopw [51] (fun kv wr => ∃ (k m : Nat), k ≤ i ∧ kv = .int .i64 (k : Int) ∧ wr = w2.drewN m) (fun kv _ => i - (intOf kv).toNat)
              case atStart => exact ⟨0, _, Nat.zero_le _, rfl, by first | rfl | trivial⟩
              case round =>
                obtain ⟨k, m', hki, rfl, rfl⟩ := hrel
                by_cases hlk : (k : Int) < (i : Int)
                · obtain ⟨y, hy⟩ : ∃ y, L[k]? = some y := ⟨_, List.getElem?_eq_getElem (by omega)⟩
                  obtain ⟨g1, off1, cap1, y', hy', hv1, hg1, y0⟩ := HLW.out.at (k := k) (by omega)
                  cases hv1
                  obtain rfl : y' = y := by rw [hy] at hy'; injection hy' with e; exact e.symm
                  obtain ⟨g2, off2, cap2, p, hp, hv2, hg2, z0⟩ := H2.out.at (k := i) (by omega)
                  rw [hal] at hv2
                  cases hv2
                  obtain ⟨g3, off3, cap3, q, hq, hv3, hg3, z1⟩ := H2.out.at (k := k) (by omega)
                  rw [hal] at hv3
                  cases hv3
                  obtain rfl : p = ((posOf (uniq (nms L)) (nmOf x) : Nat) : Int) := by rw [at_get HX.out] at hp; injection hp with e; exact e.symm
                  obtain rfl : q = ((posOf (uniq (nms L)) (nmOf y') : Nat) : Int) := by rw [at_get hy] at hq; injection hq with e; exact e.symm
                  have HSAME := Lib.hid (at_same HX.out hy)
                  have w6 : IntKind.i64.wrap ((k : Int) + 1) = ((k + 1 : Nat) : Int) := by rw [IntWalk.i64_in _ (by omega)]; omega
                  have kp : (0 : Int) ≤ (k : Int) := by omega
                  have kl : (k : Int) < ((L.length : Nat) : Int) := by omega
                  generalize ((posOf (uniq (nms L)) (nmOf x) : Nat) : Int) = P at *
                  generalize ((posOf (uniq (nms L)) (nmOf y') : Nat) : Int) = Q at *
                  have hdx := HX.out
                  clear hy hy' hp hq hdx
                  by_cases hxy : x = y'
                  · subst hxy
                    have hpq : (P == Q) = true := by rw [HSAME.out]; exact decide_eq_true rfl
                    clear HSAME
                    go_wp2_with fail
                    go_quiet (fail)
                    go_wp2_with fail
                    exact ⟨⟨k + 1, _, by omega, by first | rfl | (push_cast; rfl) | rw [← w6], rfl⟩, by simp [intOf]; omega⟩
                  · have hpq : (P == Q) = false := by rw [HSAME.out]; exact decide_eq_false hxy
                    have hne := ba_ne hxy
                    clear HSAME hxy
                    go_wp2_with fail
                    go_quiet (fail)
                    go_wp2_with fail
                    exact ⟨⟨k + 1, _, by omega, by first | rfl | (push_cast; rfl) | rw [← w6], rfl⟩, by simp [intOf]; omega⟩
                · go_wp2_with fail
                  go_roundw
                  case rel => exact ⟨i + 1, _, by omega, by rw [HS.out, if_pos HNW.out]; first | rfl | simp | rw [← w8], by first | rfl | rw [← w9], by first | rfl | trivial⟩
                  case measure => simp [intOf]; omega
        · obtain rfl : i = L.length := by omega
          go_wp2_with fail
          go_ret
          exact ⟨rfl, below_drewN HB2.out _⟩
  · have hf' : fewB L = false := by simpa using hf
    rw [hf']
    go_wp2_with fail
    go_ret
    exact ⟨rfl, HB1.out⟩
end Go.Proofs.Ytbheeahdbimeiaa
