/-
  The document's Unquote, Check, Text, wordy, slash: what each call returns. Conditions: the sizes that each lemma states.
-/
import Derived.Test.YtjmdcimfmmfinaaDoorLexRefJ
import Derived.Test.YtjmdcimfmmfinaaDoorLexText
import Derived.Deep.RegionHeld3
namespace Go.Proofs.YtjmdcimfmmfinaaDoor
open Go.RowKit Go.Shelf
set_option linter.unusedVariables false
attribute [local go_sem] Oper.semAt_some

def UnqE (o : Option Bs) : Ending := match o with
  | some b => .returned (.tuple #[.string ⟨b.toArray⟩, .int .i64 0])
  | none => .returned (.tuple #[.string ⟨#[]⟩, .int .i64 82])
theorem quotesB_34 (r : Bs) : quotesB (34 :: r) = (unq r).map fun x => (x.1, x.2 + 1) := by simp [quotesB]
set_option maxRecDepth 100000 in
set_option maxHeartbeats 2000000 in
theorem runquote_any (s : ByteArray) (w : World) (hs : s.size ≤ 4096) :
    Calls Tryd.prog 17 #[.string s] w fun e w' => e = UnqE (unquoteB s.data.toList) ∧ Below w.heap.size w w' := by
  cases hl : s.data.toList with
  | nil =>
    obtain rfl := empty_yes hl
    clear hl hs
    go_enter Tryd.func17, Tryd.ntmps17
    go_wp2_with fail
    go_ret2
    exact ⟨rfl, Below.refl _ _⟩
  | cons c t =>
    obtain ⟨h0, gx⟩ := head_byte hl
    obtain ⟨g1, g2, g3⟩ := empty_no hl
    have hz0 : ((s.size : Int) == 0) = false := by rw [beq_eq_false_iff_ne]; omega
    have h0' : 0 < (s.size : Int) := by omega
    by_cases hc : c = 34
    · subst hc
      have Q := Lib.hid (rquotes_doc s w hs (by omega))
      have hd : s.data.toList.drop 1 = t := by rw [hl]; rfl
      rw [hd] at Q
      have hq := quotesB_34 t
      have hlen : s.size = t.length + 1 := by rw [size_list, hl]; rfl
      have hU : unquoteB (34 :: t) = match unq t with
        | some (b, n) => if n + 1 = t.length + 1 then some b else none
        | none => none := by
        unfold unquoteB
        rw [hq]
        cases unq t with
        | none => rfl
        | some x => rfl
      cases hu : unq t with
      | none =>
        rw [hu] at Q hU
        have R := Lib.hid (show unquoteB (34 :: t) = none from hU)
        have hne : ((0 : Int) != (s.size : Int)) = true := by simp; omega
        clear hl hq hU hu hd
        go_enter Tryd.func17, Tryd.ntmps17
        go_wp2_with fail
        refine Q.out.mono ?_
        rintro e w1 ⟨rfl, hb⟩
        have HB := Lib.hid hb
        clear hb
        simp only [QOut]
        go_wp2_with fail
        go_ret2
        exact ⟨by rw [R.out]; rfl, HB.out⟩
      | some x =>
        obtain ⟨b, n⟩ := x
        rw [hu] at Q hU
        simp only at hU
        clear hl hq hu hd
        by_cases hn : n = t.length
        · have R := Lib.hid (show unquoteB (34 :: t) = some b by rw [hU, if_pos (by omega)])
          have hne : (((n + 1 : Nat) : Int) != (s.size : Int)) = false := by rw [bne_eq_false_iff_eq]; omega
          have hne2 : (((n : Int) + 1) != (s.size : Int)) = false := by rw [bne_eq_false_iff_eq]; omega
          clear hU hn hlen
          go_enter Tryd.func17, Tryd.ntmps17
          go_wp2_with fail
          refine Q.out.mono ?_
          rintro e w1 ⟨rfl, hb⟩
          have HB := Lib.hid hb
          clear hb
          simp only [QOut]
          go_wp2_with fail
          go_ret2
          exact ⟨by rw [R.out]; rfl, HB.out⟩
        · have R := Lib.hid (show unquoteB (34 :: t) = none by rw [hU, if_neg (by omega)])
          have hne : (((n + 1 : Nat) : Int) != (s.size : Int)) = true := by rw [bne_iff_ne]; omega
          have hne2 : (((n : Int) + 1) != (s.size : Int)) = true := by rw [bne_iff_ne]; omega
          clear hU hn hlen
          go_enter Tryd.func17, Tryd.ntmps17
          go_wp2_with fail
          refine Q.out.mono ?_
          rintro e w1 ⟨rfl, hb⟩
          have HB := Lib.hid hb
          clear hb
          simp only [QOut]
          go_wp2_with fail
          go_ret2
          exact ⟨by rw [R.out]; rfl, HB.out⟩
    · have R := Lib.hid (show unquoteB (c :: t) = none by unfold unquoteB quotesB; simp [hc])
      have bc : ((c.toNat : Int) != 34) = true := u8_ne (b := 34) hc
      clear hl hc
      go_enter Tryd.func17, Tryd.ntmps17
      go_wp2_with fail
      go_ret2
      exact ⟨by rw [R.out]; rfl, Below.refl _ _⟩

/-! ### wordy, slash -/
def wordyI (k : Int) : Bool := k == 1 || k == 2
set_option maxHeartbeats 2000000 in
theorem rwordy_any (k : Int) (t : ByteArray) (n p : Int) (w : World) :
    Calls Tryd.prog 51 #[.agg #[.int .i64 k, .string t, .int .u64 n, .int .i64 p]] w fun e w' => e = .returned (.bool (wordyI k)) ∧ Below w.heap.size w w' := by
  unfold wordyI
  obtain ⟨x1, e1⟩ : ∃ x, (k == 1) = x := ⟨_, rfl⟩
  obtain ⟨x2, e2⟩ : ∃ x, (k == 2) = x := ⟨_, rfl⟩
  rw [e1, e2]
  cases x1 <;> cases x2
  all_goals
    go_enter Tryd.func51, Tryd.ntmps51
    go_wp2_with fail
    go_ret
    exact ⟨rfl, below1 w _⟩
def slashI (k : Int) (t : Bs) : Bool := k == 4 && t == [47]
theorem slash_eq (t : ByteArray) : (t.toList == [47]) = (t.data.toList == [47]) := by rw [ByteArray.toList_eq]
set_option maxHeartbeats 2000000 in
theorem rslash_any (k : Int) (t : ByteArray) (n p : Int) (w : World) :
    Calls Tryd.prog 52 #[.agg #[.int .i64 k, .string t, .int .u64 n, .int .i64 p]] w fun e w' => e = .returned (.bool (slashI k t.data.toList)) ∧ Below w.heap.size w w' := by
  unfold slashI
  rw [← slash_eq]
  obtain ⟨x1, e1⟩ : ∃ x, (k == 4) = x := ⟨_, rfl⟩
  obtain ⟨x2, e2⟩ : ∃ x, (t.toList == [47]) = x := ⟨_, rfl⟩
  rw [e1, e2]
  cases x1 <;> cases x2
  all_goals
    go_enter Tryd.func52, Tryd.ntmps52
    go_wp2_with fail
    go_ret
    exact ⟨rfl, below1 w _⟩
end Go.Proofs.YtjmdcimfmmfinaaDoor
