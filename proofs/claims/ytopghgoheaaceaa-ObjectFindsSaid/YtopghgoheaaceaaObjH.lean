/-
  What each call of standsWell and of the document's symbol returns. Conditions: how the sections lie, the name's size.
-/
import Derived.Test.YtopghgoheaaceaaObjD
namespace Go.Proofs.Ytopghgoheaaceaa
open Go.RowKit
set_option linter.unusedVariables false
set_option linter.unusedSimpArgs false

def szAt (l : List Sc) (n : Int) : Int := match l[n.toNat]? with
  | some s => s.size
  | none => 0
/-- a symbol is where it may be -/
def stands (y : Sy) (l : List Sc) : Bool := if y.sec = -2 then true else if y.sec = -1 then (y.gl && (y.val == 0)) else numOk y.sec (l.length : Int) && (decide (0 ≤ y.val) && decide (y.val ≤ szAt l y.sec))
def symOk (y : Sy) (l : List Sc) : Bool := symName y.name && stands y l
theorem stands_e (y : Sy) (l : List Sc) : stands y l = if y.sec = -2 then true else if y.sec = -1 then (y.gl && (y.val == 0)) else numOk y.sec (l.length : Int) && (decide (0 ≤ y.val) && decide (y.val ≤ szAt l y.sec)) := rfl
set_option maxHeartbeats 4000000 in
theorem stands_any (y : Sy) (v : Value) (l : List Sc) (w : World) (hl : SecsO w v l) :
    Calls Try.prog 63 #[syV y, v] w fun e w' => e = .returned (.bool (stands y l)) ∧ Below w.heap.size w w' := by
  have E := stands_e y l
  generalize stands y l = R at *
  obtain ⟨name, sec, val, gl⟩ := y
  unfold syV
  simp only at E ⊢
  have NU := Lib.hid (fun n m W => num_any n m W)
  have HL := Lib.hid hl
  have hlen := hl.len
  unfold maxLen at hlen
  obtain ⟨al, cl, rfl⟩ := hl.slice
  clear hl
  by_cases h2 : sec = -2
  · subst h2
    have HE := Lib.hid (E.trans (if_pos rfl))
    clear E
    go_enter Try.func63, Try.ntmps63
    go_wp2_with fail
    go_ret
    exact ⟨ret1b (by rw [HE.out]), below1 w _⟩
  rw [if_neg h2] at E
  by_cases h1 : sec = -1
  · subst h1
    rw [if_pos rfl] at E
    have HE := Lib.hid E
    clear E h2
    cases gl with
    | false =>
      go_enter Try.func63, Try.ntmps63
      go_wp2_with fail
      go_ret
      exact ⟨ret1b (by rw [HE.out]; try rfl), below1 w _⟩
    | true =>
      go_enter Try.func63, Try.ntmps63
      go_wp2_with fail
      go_ret
      exact ⟨ret1b (by rw [HE.out]; try rfl), below1 w _⟩
  rw [if_neg h1] at E
  have b2 : (sec == -2) = false := by simpa using h2
  have b1 : (sec == -1) = false := by simpa using h1
  clear h1 h2
  cases n4 : numOk sec (l.length : Int) with
  | false =>
    rw [n4, Bool.false_and] at E
    have HE := Lib.hid E
    have NU2 := Lib.hid (fun W => NU.out sec (l.length : Int) W)
    rw [n4] at NU2
    clear E NU n4
    go_enter Try.func63, Try.ntmps63
    go_wp2_with fail
    go_quiet (exact quiet_eq (NU2.out _))
    go_wp2_with fail
    go_ret
    exact ⟨ret1b (by rw [HE.out]), below_drewN (below1 w _) _⟩
  | true =>
    rw [n4, Bool.true_and] at E
    have NU2 := Lib.hid (fun W => NU.out sec (l.length : Int) W)
    rw [n4] at NU2
    unfold numOk at n4
    rw [Bool.and_eq_true, decide_eq_true_eq, decide_eq_true_eq] at n4
    obtain ⟨k, rfl⟩ : ∃ k : Nat, sec = (k : Int) := ⟨sec.toNat, by omega⟩
    have hk : k < l.length := by omega
    obtain ⟨g, off, cap, s, hs, hv, hg, _, x0, x1, x2, x3, x4, x5⟩ := HL.out.at hk
    cases hv
    have hsz : szAt l (k : Int) = s.size := by unfold szAt; rw [Int.toNat_natCast, hs]
    rw [hsz] at E
    have hne : g ≠ w.heap.size := by omega
    have hki : (k : Int) < (l.length : Int) := by omega
    obtain ⟨Z, hZ⟩ : ∃ Z, s.size = Z := ⟨_, rfl⟩
    rw [hZ] at E x3
    clear NU n4 hsz x0 x1 x2 x4 x5 hs hZ
    by_cases h0 : 0 ≤ val
    · rw [decide_eq_true h0, Bool.true_and] at E
      replace h0 := decide_eq_true h0
      have HE := Lib.hid E
      clear E
      go_enter Try.func63, Try.ntmps63
      go_wp2_with fail
      go_quiet (exact quiet_eq (NU2.out _))
      go_wp2_with fail
      go_ret
      exact ⟨ret1b (by rw [HE.out]), below_drewN (below1 w _) _⟩
    · rw [decide_eq_false h0, Bool.false_and] at E
      replace h0 := decide_eq_false h0
      have HE := Lib.hid E
      clear E
      go_enter Try.func63, Try.ntmps63
      go_wp2_with fail
      go_quiet (exact quiet_eq (NU2.out _))
      go_wp2_with fail
      go_ret
      exact ⟨ret1b (by rw [HE.out]), below_drewN (below1 w _) _⟩
end Go.Proofs.Ytopghgoheaaceaa
