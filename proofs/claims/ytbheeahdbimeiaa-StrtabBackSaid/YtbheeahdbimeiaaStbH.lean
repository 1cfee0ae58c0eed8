/-
  What each call of the document's At, Names, Find returns. Conditions: how the arguments lie, and the table's size.
-/
import Derived.Test.YtbheeahdbimeiaaStbG
namespace Go.Proofs.Ytbheeahdbimeiaa
open Go.RowKit
set_option linter.unusedVariables false
set_option linter.unusedSimpArgs false

/-- what stands in t from o on, up to the next byte 0 -/
def tk (t : List Int) (o : Nat) : List Int := (t.drop o).takeWhile fun b => b != 0
theorem tw_facts : ∀ (l : List Int), 0 ∈ l → (l.takeWhile fun b => b != 0).length < l.length ∧ l[(l.takeWhile fun b => b != 0).length]? = some 0 ∧ l.take (l.takeWhile fun b => b != 0).length = (l.takeWhile fun b => b != 0) ∧
    ∀ j, j < (l.takeWhile fun b => b != 0).length → ∃ x, l[j]? = some x ∧ x ≠ 0
  | [], h => by cases h
  | b :: r, h => by
    by_cases hb : b = 0
    · subst hb; simp
    · have hr : (0 : Int) ∈ r := (List.mem_cons.1 h).resolve_left (fun e => hb e.symm)
      obtain ⟨h1, h2, h3, h4⟩ := tw_facts r hr
      have e : ((b :: r).takeWhile fun b => b != 0) = b :: (r.takeWhile fun b => b != 0) := by
        rw [List.takeWhile_cons_of_pos (by simpa using hb)]
      rw [e]
      refine ⟨by simp only [List.length_cons]; omega, by rw [List.length_cons, List.getElem?_cons_succ]; exact h2, by rw [List.length_cons, List.take_succ_cons, h3], fun j hj => ?_⟩
      cases j with
      | zero => exact ⟨b, rfl, hb⟩
      | succ j => rw [List.getElem?_cons_succ]; exact h4 j (by simp only [List.length_cons] at hj; omega)
theorem tk_facts {t : List Int} {o : Nat} (h : t.getLast? = some 0) (ho : o < t.length) : o + (tk t o).length < t.length ∧ t[o + (tk t o).length]? = some 0 ∧ seg t o (o + (tk t o).length) = tk t o ∧
    ∀ j, j < (tk t o).length → ∃ x, t[o + j]? = some x ∧ x ≠ 0 := by
  have hm : (0 : Int) ∈ t.drop o := by
    have h2 : (t.drop o).getLast? = some 0 := by rw [List.getLast?_drop, if_neg (by omega)]; exact h
    exact List.mem_of_getLast? h2
  obtain ⟨h1, h2, h3, h4⟩ := tw_facts _ hm
  rw [List.length_drop] at h1
  unfold tk seg
  refine ⟨by omega, by rw [← List.getElem?_drop]; exact h2, by rw [show o + ((t.drop o).takeWhile fun b => b != 0).length - o = ((t.drop o).takeWhile fun b => b != 0).length by omega]; exact h3, fun j hj => ?_⟩
  obtain ⟨x, hx, h0⟩ := h4 j hj
  rw [List.getElem?_drop] at hx
  exact ⟨x, hx, h0⟩
theorem tab_last0 {T : BA} (h : chkE T = 0) : (nmOf T).getLast? = some 0 := by
  obtain ⟨_, L, hL, _⟩ := chk_inv h
  rw [hL.1]; exact tab_last _
def atR (T : BA) (o : Int) : BA × Int := if chkE T = 0 then (if o < 0 ∨ (T.size : Int) ≤ o then (⟨#[]⟩, 7) else (strOfNums (tk (nmOf T) o.toNat), 0)) else (⟨#[]⟩, chkE T)
def AtP (w : World) (T : BA) (o : Int) (e : Ending) (w' : World) : Prop := e = .returned (.tuple #[.string (atR T o).1, .int .i64 (atR T o).2]) ∧ Below w.heap.size w w'
theorem slice_off {W : World} {aa : Option Addr} {l ca : Nat} {L : List Int} (h : BysO W (.slice aa l ca) L) (h0 : 0 < L.length) : ∃ g off, aa = some ⟨g, off, none⟩ := by
  obtain ⟨g, off, cap, x, _, hv, _⟩ := h.at (k := 0) h0
  cases hv; exact ⟨_, _, rfl⟩
theorem conv_seg {W : World} {g off n cap : Nat} {t : List Int} (h : BysO W (.slice (some ⟨g, off, none⟩) n cap) t) {a b : Nat} (hab : a ≤ b) (hb : b ≤ t.length) (c : Nat) :
    (convert 25 9 (.slice (some ⟨g, off + a, none⟩) (b - a) c)).run Try.prog W = .ok (.string (strOfNums (seg t a b))) W :=
  run_convert_bytes_arg W 25 5 Try.underlying25 Try.underlying5 g (off + a) (b - a) c (seg t a b) (seg_len hb) (fun j hj => by
    obtain ⟨g', off', cap', y, hy, hv, hg', y0⟩ := h.at (k := a + j) (by omega)
    cases hv
    rw [Nat.add_assoc, y0, seg_at hj]
    simp [List.getD, hy]) 9 Try.underlying9
set_option maxRecDepth 100000 in
set_option maxHeartbeats 4000000 in
theorem rat_any (v : Value) (T : BA) (o : Int) (w : World) (ht : BysO w v (nmOf T)) (hl : T.size ≤ 1048576) :
    Calls Try.prog 15 #[v, .int .i64 o] w (AtP w T o) := by
  have HT := Lib.hid ht
  have RC := Lib.hid (rcheck_any v T w ht hl)
  obtain ⟨aa, ca, rfl⟩ := ht.slice
  have HA := Lib.hid (show atR T o = if chkE T = 0 then (if o < 0 ∨ (T.size : Int) ≤ o then (⟨#[]⟩, 7) else (strOfNums (tk (nmOf T) o.toNat), 0)) else (⟨#[]⟩, chkE T) from rfl)
  unfold AtP
  generalize hR : atR T o = R at *
  clear hR
  have HLN := Lib.hid (nm_len T)
  clear ht
  go_enter Try.func15, Try.ntmps15
  go_wp2_with fail
  refine RC.out.mono ?_
  rintro e w1 ⟨rfl, hb1⟩
  have HB1 := Lib.hid hb1
  clear hb1
  by_cases hE : chkE T = 0
  · have HL0 := Lib.hid (tab_last0 hE)
    rw [if_pos hE] at HA
    rw [hE]
    clear hE
    by_cases ho : o < 0 ∨ (T.size : Int) ≤ o
    · rw [if_pos ho] at HA
      rcases ho with ho | ho
      · go_wp2_with fail
        go_returns
        exact ⟨by rw [HA.out]; rfl, HB1.out⟩
      · have h0 : ¬ o < 0 := by omega
        have h1 : ((nmOf T).length : Int) ≤ o := by rw [HLN.out]; omega
        go_wp2_with fail
        go_returns
        exact ⟨by rw [HA.out]; rfl, HB1.out⟩
    · rw [if_neg ho] at HA
      obtain ⟨k, rfl⟩ : ∃ k : Nat, o = (k : Int) := ⟨o.toNat, by omega⟩
      have hk : k < (nmOf T).length := by rw [HLN.out]; omega
      obtain ⟨f1, f2, f3, f4⟩ := tk_facts HL0.out hk
      rw [show ((k : Int)).toNat = k by omega] at HA
      obtain ⟨g, off, rfl⟩ := slice_off HT.out (by omega)
      have HF3 := Lib.hid f3
      have HF4 := Lib.hid f4
      have HF2 := Lib.hid f2
      have ls : (nmOf T).length ≤ 1048576 := by rw [HLN.out]; exact hl
      generalize tk (nmOf T) k = Q at *
      generalize nmOf T = t at *
      have h0 : ¬ (k : Int) < 0 := by omega
      have h1 : ¬ ((t.length : Int) ≤ (k : Int)) := by omega
      clear f2 f3 f4 ho
      go_wp2_with fail
      go_loopw [7] (fun iv wr => ∃ j : Nat, j ≤ Q.length ∧ iv = .int .i64 ((k + j : Nat) : Int) ∧ wr = w1) (fun iv _ => k + Q.length - (intOf iv).toNat)
      case atStart => exact ⟨0, by omega, rfl, rfl⟩
      case round =>
        obtain ⟨j, hj, rfl, rfl⟩ := hrel
        have kp : (0 : Int) ≤ ((k + j : Nat) : Int) := by omega
        have kl : ((k + j : Nat) : Int) < (t.length : Int) := by omega
        obtain ⟨g', off', cap', y, hy, hv, hg', y0⟩ := (HT.out.keep HB1.out).at (k := k + j) (by omega)
        cases hv
        by_cases hjk : j < Q.length
        · obtain ⟨x, hx, hx0⟩ := HF4.out j hjk
          have hxy : y = x := by rw [hx] at hy; injection hy with hy; exact hy.symm
          have hn : (y == 0) = false := not_beq (by rw [hxy]; exact hx0)
          have w9 : IntKind.i64.wrap (((k + j : Nat) : Int) + 1) = ((k + (j + 1) : Nat) : Int) := by rw [IntWalk.i64_in _ (by omega)]; omega
          clear hx hx0 hxy hy
          go_wp2_with fail
          go_roundw
          case rel => exact ⟨j + 1, by omega, by first | rfl | rw [← w9], by first | rfl | trivial⟩
          case measure => simp [intOf]; omega
        · obtain rfl : j = Q.length := by omega
          rw [HF2.out] at hy
          cases hy
          have hca : k + Q.length ≤ ca ∧ ¬ ca = k := by have := HT.out.cap; omega
          obtain ⟨hca1, hca2⟩ := hca
          have hcv := conv_seg (HT.out.keep HB1.out) (show k ≤ k + Q.length by omega) (show k + Q.length ≤ t.length by omega)
          rw [HF3.out, Nat.add_sub_cancel_left] at hcv
          have kl2 : ((k : Nat) : Int) ≤ ((k + Q.length : Nat) : Int) := by omega
          have kp2 : (0 : Int) ≤ ((k : Nat) : Int) := by omega
          go_wp2_with fail
          go_returns
          exact ⟨by rw [HA.out]; rfl, HB1.out⟩
  · rw [if_neg hE] at HA
    have hne : (chkE T == 0) = false := not_beq hE
    have hne2 : (chkE T != 0) = true := by simp [bne, hne]
    generalize chkE T = E at *
    go_wp2_with fail
    go_returns
    exact ⟨by rw [HA.out]; rfl, HB1.out⟩
theorem ownsRow_less {W : World} {B B' : Nat} {e : TypeId} {k : Nat} {v : Value} {n : Nat} {xs : List Value} (h : W.ownsRow B e k v n xs) (hB : B' ≤ B) : W.ownsRow B' e k v n xs := by
  obtain ⟨h1, h2⟩ := h
  refine ⟨h1, ?_⟩
  rcases h2 with h2 | ⟨g, cap, cur, a, b, c, d⟩
  · exact .inl h2
  · exact .inr ⟨g, cap, cur, a, by omega, c, d⟩
/-- the rows of a table; of no table none -/
def namR (T : BA) : List (Nat × BA) := if chkE T = 0 then rowsB T else []
set_option maxHeartbeats 4000000 in
theorem rnames_any (v : Value) (T : BA) (w : World) (ht : BysO w v (nmOf T)) (hl : T.size ≤ 1048576) :
    Calls Try.prog 22 #[v] w fun e w' => (∃ v', e = .returned v' ∧ w'.ownsRow w.heap.size 41 2 v' (namR T).length (flatR (namR T))) ∧ Below w.heap.size w w' := by
  have HT := Lib.hid ht
  have RC := Lib.hid (rcheck_any v T w ht hl)
  have RR := Lib.hid (fun W (hb : Below w.heap.size w W) => rrows_any v (nmOf T) W (ht.keep hb) (by rw [nm_len]; exact hl))
  have HA := Lib.hid (show namR T = if chkE T = 0 then rowsS (nmOf T) else [] from rfl)
  generalize namR T = R at *
  obtain ⟨aa, ca, rfl⟩ := ht.slice
  clear ht
  go_enter Try.func22, Try.ntmps22
  go_wp2_with fail
  refine RC.out.mono ?_
  rintro e w1 ⟨rfl, hb1⟩
  have HB1 := Lib.hid hb1
  clear hb1
  by_cases hE : chkE T = 0
  · rw [if_pos hE] at HA
    rw [hE]
    clear hE
    go_wp2_with fail
    refine (RR.out _ HB1.out).mono ?_
    rintro e w2 ⟨⟨v', rfl, hown⟩, hb2⟩
    have HB2 := Lib.hid (Below.thn HB1.out HB1.out.size hb2)
    have HO := Lib.hid (ownsRow_less hown HB1.out.size)
    clear hown hb2
    go_wp2_with fail
    go_ret
    exact ⟨⟨_, rfl, by rw [HA.out]; exact HO.out⟩, HB2.out⟩
  · rw [if_neg hE] at HA
    have hne : (chkE T == 0) = false := not_beq hE
    have hne2 : (chkE T != 0) = true := by simp [bne, hne]
    generalize chkE T = E at *
    go_wp2_with fail
    go_ret
    exact ⟨⟨_, rfl, by rw [HA.out]; exact World.ownsRow_nil _ _ _ _⟩, HB1.out⟩
def fndR (T s : BA) : Nat × Bool := if chkE T = 0 then (match (rowsB T).find? (fun r => decide (r.2 = s)) with | some r => (r.1, true) | none => (0, decide (s = ⟨#[]⟩))) else (0, false)
theorem find_at {R : List (Nat × BA)} {s : BA} {i : Nat} {x : Nat × BA} (hx : R[i]? = some x) (h : x.2 = s) (hno : ∀ r ∈ R.take i, r.2 ≠ s) : R.find? (fun r => decide (r.2 = s)) = some x := by
  rw [List.find?_eq_some_iff_append]
  refine ⟨decide_eq_true h, R.take i, R.drop (i + 1), ?_, fun r hr => by rw [decide_eq_false (hno r hr)]; rfl⟩
  rw [← drop_cons hx, List.take_append_drop]
theorem find_no {R : List (Nat × BA)} {s : BA} (hno : ∀ r ∈ R, r.2 ≠ s) : R.find? (fun r => decide (r.2 = s)) = none := by
  rw [List.find?_eq_none]
  intro r hr
  rw [decide_eq_false (hno r hr)]
  decide
def FndP (w : World) (T s : BA) (e : Ending) (w' : World) : Prop := e = .returned (.tuple #[.int .i64 ((fndR T s).1 : Int), .bool (fndR T s).2]) ∧ Below w.heap.size w w'
set_option maxRecDepth 100000 in
set_option maxHeartbeats 4000000 in
theorem rfind_any (v : Value) (T s : BA) (w : World) (ht : BysO w v (nmOf T)) (hl : T.size ≤ 1048576) :
    Calls Try.prog 17 #[v, .string s] w (FndP w T s) := by
  have HT := Lib.hid ht
  have RC := Lib.hid (rcheck_any v T w ht hl)
  have RR := Lib.hid (fun W (hb : Below w.heap.size w W) => rrows_any v (nmOf T) W (ht.keep hb) (by rw [nm_len]; exact hl))
  have HA := Lib.hid (show fndR T s = if chkE T = 0 then (match (rowsS (nmOf T)).find? (fun r => decide (r.2 = s)) with | some r => (r.1, true) | none => (0, decide (s = ⟨#[]⟩))) else (0, false) from rfl)
  have HRL := Lib.hid (show (rowsS (nmOf T)).length ≤ 1048576 by have := (namesB_sizes T hl).2; unfold namesB at this; rwa [List.length_map] at this)
  unfold FndP
  generalize fndR T s = F at *
  obtain ⟨aa, ca, rfl⟩ := ht.slice
  clear ht
  go_enter Try.func17, Try.ntmps17
  go_wp2_with fail
  refine RC.out.mono ?_
  rintro e w1 ⟨rfl, hb1⟩
  have HB1 := Lib.hid hb1
  clear hb1
  by_cases hE : chkE T = 0
  · rw [if_pos hE] at HA
    rw [hE]
    clear hE
    go_wp2_with fail
    refine (RR.out _ HB1.out).mono ?_
    rintro e w2 ⟨⟨v', rfl, hown⟩, hb2⟩
    have HB2 := Lib.hid (Below.thn HB1.out HB1.out.size hb2)
    have HO := Lib.hid hown
    generalize rowsS (nmOf T) = R at *
    have hrl := HRL.out
    obtain ⟨ra, rc, rfl⟩ := own_sliceN hown
    clear hown hb2
    go_wp2_with fail
    go_loopw [7] (fun iv wr => ∃ i : Nat, i ≤ R.length ∧ iv = .int .i64 (i : Int) ∧ Hid (∀ r ∈ R.take i, r.2 ≠ s) ∧ wr = w2) (fun iv _ => R.length - (intOf iv).toNat)
    case atStart => exact ⟨0, by omega, rfl, Lib.hid (by simp), rfl⟩
    case round =>
      obtain ⟨i, hi, rfl, HN, rfl⟩ := hrel
      by_cases hlt : (i : Int) < (R.length : Int)
      · obtain ⟨g, cap, x, hx, hv, hg, x0, x1⟩ := rows2_at HO.out (k := i) (by omega)
        cases hv
        have w9 : IntKind.i64.wrap ((i : Int) + 1) = ((i + 1 : Nat) : Int) := by rw [IntWalk.i64_in _ (by omega)]; omega
        have ip : (0 : Int) ≤ (i : Int) := by omega
        have HX := Lib.hid hx
        clear hx
        obtain ⟨xp, xs⟩ := x
        simp only at x0 x1
        by_cases he : xs = s
        · subst he
          have HF := Lib.hid (HA.out.trans (by rw [find_at HX.out rfl HN.out]))
          go_wp2_with fail
          go_returns
          exact ⟨by rw [HF.out]; rfl, HB2.out⟩
        · have hne := ba_ne he
          have HN2 := Lib.hid (show ∀ r ∈ R.take (i + 1), r.2 ≠ s by
            intro r hr
            rw [List.take_add_one, HX.out] at hr
            rcases List.mem_append.1 hr with hr | hr
            · exact HN.out r hr
            · simp only [Option.toList, List.mem_singleton] at hr; subst hr; exact he)
          clear he
          go_wp2_with fail
          go_roundw
          case rel => exact ⟨i + 1, by omega, by first | rfl | rw [← w9], HN2, by first | rfl | trivial⟩
          case measure => simp [intOf]; omega
      · have HF := Lib.hid (HA.out.trans (by rw [find_no (by have := HN.out; rwa [List.take_of_length_le (by omega)] at this)]))
        by_cases h0 : s = ⟨#[]⟩
        · subst h0
          go_wp2_with fail
          go_returns
          exact ⟨by rw [HF.out]; rfl, HB2.out⟩
        · have hn1 := ba_ne h0
          have hn2 : (ByteArray.toList s).isEmpty = false := by
            cases hc : ByteArray.toList s with
            | nil => exact absurd (ba_ext (by rw [ByteArray.toList_eq] at hc; exact hc)) h0
            | cons c r => rfl
          have HD := Lib.hid (show decide (s = ⟨#[]⟩) = false from decide_eq_false h0)
          clear h0
          go_wp2_with fail
          go_returns
          exact ⟨by rw [HF.out]; simp only [HD.out]; rfl, HB2.out⟩
  · rw [if_neg hE] at HA
    have hne : (chkE T == 0) = false := not_beq hE
    have hne2 : (chkE T != 0) = true := by simp [bne, hne]
    generalize chkE T = E at *
    go_wp2_with fail
    go_returns
    exact ⟨by rw [HA.out]; rfl, HB1.out⟩
end Go.Proofs.Ytbheeahdbimeiaa
