/-
  What each call of both reaches returns. Conditions: the items may be, how their beginnings lie.
-/
import Derived.Test.YtccmfhhdpdbabaaRlxE
namespace Go.Proofs.Ytccmfhhdpdbabaa
open Go.RowKit
set_option linter.unusedVariables false
set_option linter.unusedSimpArgs false

theorem nus_of_own {W : World} {base : Nat} {e : TypeId} {v : Value} {n : Nat} {D : List Int} (hn : n = D.length) (h : W.ownsRow base e 1 v n (D.map fun x => Value.int .i64 x)) : NusO W v D := by
  subst hn
  have := own_rows (C := D.map fun x => Value.int .i64 x) (by rw [List.length_map]; exact h)
  rw [List.map_map] at this
  exact this
theorem offL_get (L : List It) (B : List Bool) {k : Nat} (hk : k ≤ L.length) : (offL L B)[k]? = some (offAt L B k) := by
  unfold offL
  rw [List.getElem?_map, List.getElem?_range (by omega)]; rfl
/-- whether an item reaches -/
def reachB (L : List It) (B : List Bool) (x : It) (n : Nat) : Bool := decide (x.lo ≤ offAt L B x.t.toNat + x.d - offAt L B n) && decide (offAt L B x.t.toNat + x.d - offAt L B n ≤ x.hi)
theorem ok_branch {x : It} {m : Int} (h : okIt x m = true) (hk : x.k = 3) : 0 ≤ x.t ∧ x.t ≤ m ∧ -1073741824 ≤ x.d ∧ x.d ≤ 1073741824 ∧ -1073741824 ≤ x.lo ∧ x.lo ≤ 1073741824 ∧ -1073741824 ≤ x.hi ∧ x.hi ≤ 1073741824 := by
  unfold okIt at h
  rw [if_neg (by omega), if_neg (by omega), if_pos hk] at h
  simp [farB] at h
  omega
set_option maxHeartbeats 4000000 in
theorem reaches_any (v : Value) (x : It) (L : List It) (B : List Bool) (n : Nat) (w : World) (hv : NusO w v (offL L B)) (hok : AllOk L) (hx : okIt x (L.length : Int) = true) (hk : x.k = 3) (hn : n < L.length) :
    Calls Try.prog 36 #[itV x, .int .i64 (n : Int), v] w fun e w' => e = .returned (.bool (reachB L B x n)) ∧ Below w.heap.size w w' := by
  obtain ⟨ht0, ht1, hd0, hd1, hl0, hl1, hh0, hh1⟩ := ok_branch hx hk
  obtain ⟨t, ht⟩ : ∃ t : Nat, x.t = (t : Int) := ⟨x.t.toNat, by omega⟩
  have ht2 : t ≤ L.length := by omega
  have hb1 := offAt_bound B hok t ht2
  have hb2 := offAt_bound B hok n (by omega)
  have hl6 := hok.1
  obtain ⟨g, off, cap, y, hy, hve, hg, yc⟩ := hv.at (k := t) (by rw [offL_len]; omega)
  obtain ⟨g', off', cap', z, hz, hve', hg', zc⟩ := hv.at (k := n) (by rw [offL_len]; omega)
  subst hve
  cases hve'
  rw [offL_get L B ht2] at hy
  rw [offL_get L B (by omega)] at hz
  cases hy
  cases hz
  rw [offL_len]
  have E : reachB L B x n = (decide (x.lo ≤ offAt L B t + x.d - offAt L B n) && decide (offAt L B t + x.d - offAt L B n ≤ x.hi)) := by unfold reachB; rw [ht]; rfl
  have w1 : IntKind.i64.wrap (offAt L B t + x.d) = offAt L B t + x.d := IntWalk.i64_in _ (by omega)
  have w2 : IntKind.i64.wrap (offAt L B t + x.d - offAt L B n) = offAt L B t + x.d - offAt L B n := IntWalk.i64_in _ (by omega)
  have q1 : (t : Int) < (L.length : Int) + 1 := by omega
  have q2 : (n : Int) < (L.length : Int) + 1 := by omega
  have q3 : (0 : Int) ≤ (t : Int) := by omega
  have q4 : (0 : Int) ≤ (n : Int) := by omega
  have hbx := below1 w (.cells #[.int .i64 x.k, .int .i64 x.s, .int .i64 x.a, .int .i64 x.t, .int .i64 x.d, .int .i64 x.lo, .int .i64 x.hi] 44)
  have yc' := cell_kept hbx yc
  have zc' := cell_kept hbx zc
  unfold itV
  rw [E]
  generalize offAt L B t = A1 at *
  generalize offAt L B n = A2 at *
  rw [ht] at *
  obtain ⟨k, s, a, t', d, lo, hi⟩ := x
  simp only at *
  have HBX := Lib.hid hbx
  clear hv hok hx hk ht0 ht1 hd0 hd1 hl0 hl1 hh0 hh1 ht ht2 hb1 hb2 hl6 E hg hg' hbx
  by_cases hlo : lo ≤ A1 + d - A2
  · rw [decide_eq_true hlo, Bool.true_and]
    go_enter Try.func36, Try.ntmps36
    go_wp2_with fail
    go_quiet (fail)
    go_wp2_with fail
    go_ret
    exact ⟨rfl, below_drewN HBX.out _⟩
  · rw [decide_eq_false hlo, Bool.false_and]
    go_enter Try.func36, Try.ntmps36
    go_wp2_with fail
    go_quiet (fail)
    go_wp2_with fail
    go_ret
    exact ⟨rfl, below_drewN HBX.out _⟩
set_option maxHeartbeats 4000000 in
theorem rreaches_any (v : Value) (x : It) (L : List It) (B : List Bool) (n : Nat) (w : World) (hv : NusO w v (offL L B)) (hok : AllOk L) (hx : okIt x (L.length : Int) = true) (hk : x.k = 3) (hn : n < L.length) :
    Calls Try.prog 37 #[itV x, v, .int .i64 (n : Int)] w fun e w' => e = .returned (.bool (reachB L B x n)) ∧ Below w.heap.size w w' := by
  obtain ⟨ht0, ht1, hd0, hd1, hl0, hl1, hh0, hh1⟩ := ok_branch hx hk
  obtain ⟨t, ht⟩ : ∃ t : Nat, x.t = (t : Int) := ⟨x.t.toNat, by omega⟩
  have ht2 : t ≤ L.length := by omega
  have hb1 := offAt_bound B hok t ht2
  have hb2 := offAt_bound B hok n (by omega)
  have hl6 := hok.1
  obtain ⟨g, off, cap, y, hy, hve, hg, yc⟩ := hv.at (k := t) (by rw [offL_len]; omega)
  obtain ⟨g', off', cap', z, hz, hve', hg', zc⟩ := hv.at (k := n) (by rw [offL_len]; omega)
  subst hve
  cases hve'
  rw [offL_get L B ht2] at hy
  rw [offL_get L B (by omega)] at hz
  cases hy
  cases hz
  rw [offL_len]
  have E : reachB L B x n = (decide (x.lo ≤ offAt L B t + x.d - offAt L B n) && decide (offAt L B t + x.d - offAt L B n ≤ x.hi)) := by unfold reachB; rw [ht]; rfl
  have w1 : IntKind.i64.wrap (offAt L B t + x.d) = offAt L B t + x.d := IntWalk.i64_in _ (by omega)
  have w2 : IntKind.i64.wrap (offAt L B t + x.d - offAt L B n) = offAt L B t + x.d - offAt L B n := IntWalk.i64_in _ (by omega)
  have q1 : (t : Int) < (L.length : Int) + 1 := by omega
  have q2 : (n : Int) < (L.length : Int) + 1 := by omega
  have q3 : (0 : Int) ≤ (t : Int) := by omega
  have q4 : (0 : Int) ≤ (n : Int) := by omega
  have hbx := below1 w (.cells #[.int .i64 x.k, .int .i64 x.s, .int .i64 x.a, .int .i64 x.t, .int .i64 x.d, .int .i64 x.lo, .int .i64 x.hi] 44)
  have yc' := cell_kept hbx yc
  have zc' := cell_kept hbx zc
  unfold itV
  rw [E]
  generalize offAt L B t = A1 at *
  generalize offAt L B n = A2 at *
  rw [ht] at *
  obtain ⟨k, s, a, t', d, lo, hi⟩ := x
  simp only at *
  have HBX := Lib.hid hbx
  clear hv hok hx hk ht0 ht1 hd0 hd1 hl0 hl1 hh0 hh1 ht ht2 hb1 hb2 hl6 E hg hg' hbx
  by_cases hlo : lo ≤ A1 + d - A2
  · rw [decide_eq_true hlo, Bool.true_and]
    go_enter Try.func37, Try.ntmps37
    go_wp2_with fail
    go_quiet (fail)
    go_wp2_with fail
    go_ret
    exact ⟨rfl, below_drewN HBX.out _⟩
  · rw [decide_eq_false hlo, Bool.false_and]
    go_enter Try.func37, Try.ntmps37
    go_wp2_with fail
    go_quiet (fail)
    go_wp2_with fail
    go_ret
    exact ⟨rfl, below_drewN HBX.out _⟩
end Go.Proofs.Ytccmfhhdpdbabaa
