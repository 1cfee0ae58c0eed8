/-
  How many fields have a value: 1,302 at 32, 5,334 at 64, counted by the kernel. And what a row of fields and values holds, cell by cell.
-/
import Derived.Test.YtmkeopglgfddjaaDoorLogL
namespace Go.Proofs.YtmkeopglgfddjaaDoor
open Go.RowKit Go.Shelf BM

/-- how many of 2^d numbers from lo on -/
def cnt (p : Nat → Bool) : Nat → Nat → Nat
  | 0, lo => if p lo then 1 else 0
  | d + 1, lo => cnt p d lo + cnt p d (lo + 2 ^ d)
theorem cnt_eq (p : Nat → Bool) (d lo : Nat) : cnt p d lo = ((List.range (2 ^ d)).filter fun i => p (lo + i)).length := by
  induction d generalizing lo with
  | zero =>
    simp only [cnt, Nat.pow_zero, List.range_one]
    by_cases h : p lo = true
    · simp [h]
    · simp [h]
  | succ d ih =>
    simp only [cnt]
    rw [ih, ih, Nat.pow_succ, Nat.mul_two, List.range_add, List.filter_append, List.length_append, List.filter_map, List.length_map]
    congr 2
    apply List.filter_congr
    intro i _
    simp only [Function.comp]
    rw [Nat.add_assoc]
/-- do the parts of field f name a pattern of s places -/
def fitB (f s : Nat) : Bool := (f / 4096 == bitN s) && Nat.ble (topN s) (f % 64) && Nat.ble (f % 64 + 2) (topN s + s) && Nat.ble (f / 64 % 64 + 1) s
theorem fitB_iff {f s : Nat} (hs : IsSize s) : fitB f s = true ↔ Fit (pN (f : Int)) (pR (f : Int)) (pM (f : Int)) s := by
  have hb := size_bd hs
  unfold fitB Fit pN pR pM
  simp only [Bool.and_eq_true, beq_iff_eq, Nat.ble_eq]
  constructor
  · rintro ⟨⟨⟨h1, h2⟩, h3⟩, h4⟩
    refine ⟨by omega, by omega, by omega, by omega, by omega⟩
  · rintro ⟨h1, h2, h3, h4, h5⟩
    refine ⟨⟨⟨by omega, by omega⟩, by omega⟩, by omega⟩
def sizesL (W : Nat) : List Nat := if W = 32 then [32, 16, 8, 4, 2] else [64, 32, 16, 8, 4, 2]
theorem sizesL_mem {s W : Nat} (hW : IsW W) : s ∈ sizesL W ↔ IsSize s ∧ s ≤ W := by
  rw [← halves_mem hW]
  rcases hW with rfl | rfl
  · rw [show halves 32 = [32, 16, 8, 4, 2] by decide]; rfl
  · rw [show halves 64 = [64, 32, 16, 8, 4, 2] by decide]; rfl
theorem outE_iff {f W : Nat} (hW : IsW W) : outE f (W : Int) = 0 ↔ (sizesL W).any (fitB f) = true := by
  rw [List.any_eq_true]
  have hI : WI (W : Int) := by rcases hW with rfl | rfl; exact .inl rfl; exact .inr rfl
  have sp := out_spec f (W : Int)
  unfold ValOut DecOut at sp
  rw [Int.toNat_natCast] at sp
  constructor
  · intro h0
    rcases sp with ⟨_, ⟨s, a, b, c, _⟩, _⟩ | ⟨_, _, _, he⟩ | ⟨hn, _⟩
    · exact ⟨s, (sizesL_mem hW).2 ⟨a, b⟩, (fitB_iff a).2 c⟩
    · rw [h0] at he; exact absurd he (by decide)
    · exact absurd hI hn
  · rintro ⟨s, hs, hf⟩
    obtain ⟨a, b⟩ := (sizesL_mem hW).1 hs
    rcases sp with ⟨_, _, he⟩ | ⟨_, hno, _⟩ | ⟨hn, _⟩
    · exact he
    · exact absurd ((fitB_iff a).1 hf) (hno s a b)
    · exact absurd hI hn
theorem upto_count {W : Nat} (hW : IsW W) (d : Nat) : (upto (W : Int) (2 ^ d)).length = cnt (fun f => (sizesL W).any (fitB f)) d 0 := by
  rw [cnt_eq]
  unfold upto
  congr 1
  apply List.filter_congr
  intro f _
  rw [Nat.zero_add, Bool.eq_iff_iff, decide_eq_true_eq]
  exact outE_iff hW
theorem two13 : (2 : Nat) ^ 13 = 8192 := by decide
theorem count32 : (upto 32 8192).length = 1302 := by
  have h := upto_count (W := 32) (.inl rfl) 13
  rw [two13, show cnt (fun f => (sizesL 32).any (fitB f)) 13 0 = 1302 by decide +kernel] at h
  exact h
theorem count64 : (upto 64 8192).length = 5334 := by
  have h := upto_count (W := 64) (.inr rfl) 13
  rw [two13, show cnt (fun f => (sizesL 64).any (fitB f)) 13 0 = 5334 by decide +kernel] at h
  exact h
theorem flat_len (W : Int) (l : List Nat) : (flat W l).length = l.length * 2 := by
  unfold flat
  induction l with
  | nil => rfl
  | cons x l ih => simp [List.flatMap_cons, ih]; omega
theorem flat_at (W : Int) (l : List Nat) (j : Nat) (h : j < l.length) : (flat W l)[j * 2]? = some (.int .i64 (l[j] : Int)) ∧ (flat W l)[j * 2 + 1]? = some (.int .u64 (outV l[j] W)) := by
  unfold flat
  induction l generalizing j with
  | nil => simp at h
  | cons x l ih =>
    cases j with
    | zero => simp [List.flatMap_cons]
    | succ j =>
      have := ih j (by simpa using h)
      rw [show (j + 1) * 2 = j * 2 + 2 by omega]
      simp only [List.flatMap_cons, List.cons_append, List.nil_append, List.getElem?_cons_succ, List.getElem_cons_succ]
      exact this
/-- what a slice of fields and values holds -/
def RowIs (W : Int) (V : World) (v : Value) (l : List Nat) : Prop :=
  (v = .slice none 0 0 ∧ l.length = 0) ∨ ∃ g cap, v = .slice (some ⟨g, 0, none⟩) l.length cap ∧ ∀ j (h : j < l.length), V.cell? ⟨g, j * 2, none⟩ = some (.int .i64 (l[j] : Int)) ∧ V.cell? ⟨g, j * 2 + 1, none⟩ = some (.int .u64 (outV l[j] W))
theorem row_is {W : Int} {V : World} {base : Nat} {v : Value} {l : List Nat} {T : TypeId} (h : V.ownsRow base T 2 v l.length (flat W l)) : RowIs W V v l := by
  rcases h.2 with ⟨h1, h2⟩ | ⟨g, cap, cur, h1, hb, hg, hn, hc, hs, ht⟩
  · exact .inl ⟨h1, h2⟩
  · refine .inr ⟨g, cap, h1, fun j hj => ?_⟩
    obtain ⟨e0, e1⟩ := flat_at W l j hj
    rw [← ht] at e0 e1
    rw [List.getElem?_take] at e0 e1
    rw [if_pos (by omega)] at e0 e1
    constructor
    · unfold World.cell?; simp only [hg]; simpa using e0
    · unfold World.cell?; simp only [hg]; simpa using e1
theorem row_keep {W : Int} {V V' : World} {v : Value} {l : List Nat} {base : Nat} {T : TypeId} (h : V.ownsRow base T 2 v l.length (flat W l)) (hb : Below V.heap.size V V') : RowIs W V' v l := by
  rcases h.2 with ⟨h1, h2⟩ | ⟨g, cap, cur, h1, _, hg, hn, hc, hs, ht⟩
  · exact .inl ⟨h1, h2⟩
  · have hlt : g < V.heap.size := (Array.getElem?_eq_some_iff.1 hg).1
    rcases row_is h with ⟨h3, h4⟩ | ⟨g', cap', h3, h4⟩
    · exact .inl ⟨h3, h4⟩
    · have e : g = g' := by rw [h1] at h3; injection h3 with a b c; injection a with a; injection a
      subst e
      exact .inr ⟨g, cap', h3, fun j hj => ⟨(hb.cell (p := ⟨g, j * 2, none⟩) hlt).trans (h4 j hj).1, (hb.cell (p := ⟨g, j * 2 + 1, none⟩) hlt).trans (h4 j hj).2⟩⟩
end Go.Proofs.YtmkeopglgfddjaaDoor
