/-
  The lengths of the runs of ones add up to how many ones there are; what a slice of runs holds, cell by cell; Low of the document. No conditions beyond those that each lemma states.
-/
import Derived.Test.YtfpaambihjijoaaDoorRunsL
import Derived.Test.YtfpaambihjijoaaDoorBitsE
import Derived.Test.YtfpaambihjijoaaDoorBitsCount
namespace Go.Proofs.YtfpaambihjijoaaDoor
open Go.RowKit Go.Shelf BM

def sumL (l : List (Nat × Nat)) : Nat := (l.map (·.2)).sum
theorem sumL_append (a b : List (Nat × Nat)) : sumL (a ++ b) = sumL a + sumL b := by unfold sumL; simp
theorem sum_addOne (l : List (Nat × Nat)) (i : Nat) : sumL (addOne l i) = sumL l + 1 := by
  rcases List.eq_nil_or_concat l with rfl | ⟨K, ⟨a, n⟩, rfl⟩
  · rfl
  · rw [List.concat_eq_append, addOne_snoc]
    split
    · rw [sumL_append, sumL_append]; simp [sumL]; omega
    · rw [sumL_append, sumL_append]; simp [sumL]; omega
theorem sum_runsD (v : Nat) : ∀ i, sumL (runsD v i) = pop i v
  | 0 => rfl
  | i + 1 => by
    have h := sum_runsD v i
    have hp : pop (i + 1) v = pop i v + v / 2 ^ i % 2 := by rw [pop_add]; simp [pop]
    have hb : v.testBit i = decide (v / 2 ^ i % 2 = 1) := by rw [Nat.testBit_eq_decide_div_mod_eq]
    show sumL (if v.testBit i then addOne (runsD v i) i else runsD v i) = _
    rw [hp]
    by_cases g : v / 2 ^ i % 2 = 1
    · rw [hb, decide_eq_true g, if_pos rfl, sum_addOne, h, g]
    · have : v / 2 ^ i % 2 = 0 := by have := Nat.mod_lt (v / 2 ^ i) (show 0 < 2 by decide); omega
      rw [hb, decide_eq_false g, if_neg (by decide), h, this, Nat.add_zero]
theorem sum_runsC (v : Nat) : sumL (runsC v) = pop 64 v := by rw [← runs_same, sum_runsD]
theorem flatR_len (l : List (Nat × Nat)) : (flatR l).length = l.length * 2 := by
  unfold flatR
  induction l with
  | nil => rfl
  | cons x l ih => simp [List.flatMap_cons, ih]; omega
theorem flatR_at (l : List (Nat × Nat)) (j : Nat) (h : j < l.length) : (flatR l)[j * 2]? = some (.int .i64 (l[j].1 : Int)) ∧ (flatR l)[j * 2 + 1]? = some (.int .i64 (l[j].2 : Int)) := by
  unfold flatR
  induction l generalizing j with
  | nil => simp at h
  | cons x l ih =>
    cases j with
    | zero => simp [List.flatMap_cons]
    | succ j =>
      have := ih j (by simpa using h)
      rw [show (j + 1) * 2 = j * 2 + 2 by omega]
      simp only [List.flatMap_cons, List.cons_append, List.nil_append, List.getElem?_cons_succ, List.getElem_cons_succ]
      exact this
/-- what a slice of runs holds -/
def RunsRow (V : World) (v : Value) (l : List (Nat × Nat)) : Prop :=
  (v = .slice none 0 0 ∧ l.length = 0) ∨ ∃ g cap, v = .slice (some ⟨g, 0, none⟩) l.length cap ∧ g < V.heap.size ∧ ∀ j (h : j < l.length), V.cell? ⟨g, j * 2, none⟩ = some (.int .i64 (l[j].1 : Int)) ∧ V.cell? ⟨g, j * 2 + 1, none⟩ = some (.int .i64 (l[j].2 : Int))
theorem runs_row {V : World} {base : Nat} {v : Value} {l : List (Nat × Nat)} {T : TypeId} (h : V.ownsRow base T 2 v l.length (flatR l)) : RunsRow V v l := by
  rcases h.2 with ⟨h1, h2⟩ | ⟨g, cap, cur, h1, hb, hg, hn, hc, hs, ht⟩
  · exact .inl ⟨h1, h2⟩
  · refine .inr ⟨g, cap, h1, (Array.getElem?_eq_some_iff.1 hg).1, fun j hj => ?_⟩
    obtain ⟨e0, e1⟩ := flatR_at l j hj
    rw [← ht] at e0 e1
    rw [List.getElem?_take] at e0 e1
    rw [if_pos (by omega)] at e0 e1
    constructor
    · unfold World.cell?; simp only [hg]; simpa using e0
    · unfold World.cell?; simp only [hg]; simpa using e1
theorem rlow_nat (v : Nat) (n : Int) (w : World) (hv : v < 18446744073709551616) (h1 : 1 ≤ n) (h2 : n ≤ 64) :
    Calls Tryd.prog 15 #[.int .u64 (v : Int), .int .i64 n] w fun e w' => e = .returned (.int .u64 ((v % 2 ^ n.toNat : Nat) : Int)) ∧ w = w' := by
  by_cases h : n < 64
  · have := low_any (v : Int) n w (Int.natCast_nonneg _) (by omega) h
    unfold powI at this
    exact this
  · have e : n = 64 := by omega
    subst e
    have h64 : 2 ^ (64 : Int).toNat = 18446744073709551616 := by decide
    rw [h64, Nat.mod_eq_of_lt hv]
    exact low_big (v : Int) 64 w (by decide)
theorem pow_dvd64 {n : Nat} (h : n ≤ 64) : ∃ k : Nat, (18446744073709551616 : Nat) = 2 ^ n * k := by
  refine ⟨2 ^ (64 - n), ?_⟩
  rw [← Nat.pow_add, show n + (64 - n) = 64 by omega]
theorem sgn_back {v n : Nat} (hn : 1 ≤ n) (h64 : n ≤ 64) : (IntKind.u64.wrap (sgn v n)).toNat % 2 ^ n = v % 2 ^ n := by
  have hs := sgn_low (v := v) hn
  rw [wrap_u64]
  have hnn : 0 ≤ sgn v n % 18446744073709551616 := Int.emod_nonneg _ (by decide)
  obtain ⟨k, hk⟩ := pow_dvd64 h64
  have e : (sgn v n % 18446744073709551616) % ((2 ^ n : Nat) : Int) = sgn v n % ((2 ^ n : Nat) : Int) := by
    rw [show (18446744073709551616 : Int) = ((2 ^ n * k : Nat) : Int) by rw [← hk]; rfl]
    exact Int.emod_emod_of_dvd _ ⟨(k : Int), by push_cast; rfl⟩
  have hs' : sgn v n % ((2 ^ n : Nat) : Int) = ((v % 2 ^ n : Nat) : Int) := by
    rw [← hs]; push_cast; rfl
  rw [hs'] at e
  have : (((sgn v n % 18446744073709551616).toNat % 2 ^ n : Nat) : Int) = ((v % 2 ^ n : Nat) : Int) := by
    rw [Int.natCast_emod, Int.toNat_of_nonneg hnn]; exact e
  exact Int.ofNat.inj this
end Go.Proofs.YtfpaambihjijoaaDoor
