/-
  A region that draws its order in the body of a range over a function, whose last operations (the call of yield among them) can only come behind all others, and whose others leave the world as it is: one walk of those, then the last ones in their order, serves every order. Of no program.
-/
import Derived.Test.YtbheeahdbimeiaaRoundQuiet
namespace Go.Proofs.Ytbheeahdbimeiaa
open Go.RowKit

theorem any_more {F : Fence} {n : Nat} {P : Program} {ops : Array Oper} {Q : Exit → Act → World → Prop} {md : Region.Mode} :
    ∀ (f : Nat) (listed : Array Bool) (a : Act) (w : World), wpAnyIn F n P md ops Q f listed a w → wpAnyIn F n P md ops Q (f + 1) listed a w
  | 0, listed, a, w, h => ⟨fun _ => h.2, fun i hi => by rw [h.1] at hi; cases hi⟩
  | f + 1, listed, a, w, h => ⟨h.1, fun i hi => wpOpIn_mono (fun a w => any_more f _ a w) (h.2 i hi)⟩
theorem any_more' {F : Fence} {n : Nat} {P : Program} {ops : Array Oper} {Q : Exit → Act → World → Prop} {md : Region.Mode} (d f : Nat) {listed : Array Bool} {a : Act} {w : World} (h : wpAnyIn F n P md ops Q f listed a w) : wpAnyIn F n P md ops Q (d + f) listed a w := by
  induction d with
  | zero => rw [Nat.zero_add]; exact h
  | succ d ih => rw [show d + 1 + f = d + f + 1 by omega]; exact any_more _ _ _ _ ih

/-- all lists of k Bools -/
def allBools : Nat → List (List Bool)
  | 0 => [[]]
  | k + 1 => (allBools k).flatMap fun l => [true :: l, false :: l]
theorem mem_allBools : ∀ (l : List Bool), l ∈ allBools l.length
  | [] => by simp [allBools]
  | b :: l => by
    simp only [allBools, List.length_cons, List.mem_flatMap]
    exact ⟨l, mem_allBools l, by cases b <;> simp⟩
/-- what an operation waits for has come -/
def metB (s : Array Bool) (o : Oper) : Bool := o.after.all fun e => !Region.binds .any e || s.getD e.on false
/-- whatever has come, what it waits for has come too -/
def closedB (l' : List Oper) (s : Array Bool) : Bool := (List.range l'.length).all fun i => !s.getD i false || ((l'[i]?).map (metB s)).getD false
theorem getD_set {s : Array Bool} {i x : Nat} (h : s.getD x false = true) : (s.setIfInBounds i true).getD x false = true := by
  simp only [Array.getD_eq_getD_getElem?, Array.getElem?_setIfInBounds] at h ⊢
  split
  · split <;> simp_all
  · exact h
theorem getD_ne {s : Array Bool} {i x : Nat} (h : i ≠ x) : (s.setIfInBounds i true).getD x false = s.getD x false := by
  simp only [Array.getD_eq_getD_getElem?, Array.getElem?_setIfInBounds, if_neg h]
theorem met_set {s : Array Bool} {i : Nat} {o : Oper} (h : metB s o = true) : metB (s.setIfInBounds i true) o = true := by
  unfold metB at *
  rw [Array.all_eq_true] at h ⊢
  intro j hj
  have := h j hj
  rw [Bool.or_eq_true] at this ⊢
  exact this.imp id getD_set
theorem closed_set {l' : List Oper} {s : Array Bool} {i : Nat} (h : closedB l' s = true) (hi : i ∈ Region.ready .any l'.toArray s) : closedB l' (s.setIfInBounds i true) = true := by
  unfold closedB at *
  rw [List.all_eq_true] at h ⊢
  intro j hj
  have hjl : j < l'.length := by simpa using hj
  rw [List.getElem?_eq_getElem hjl, Option.map_some, Option.getD_some, Bool.or_eq_true]
  by_cases e : i = j
  · subst e
    right
    unfold Region.ready at hi
    have hr := (List.mem_filter.1 hi).2
    rw [Bool.and_eq_true] at hr
    have h2 := hr.2
    rw [List.getElem?_toArray, List.getElem?_eq_getElem hjl, Option.map_some, Option.getD_some] at h2
    exact met_set h2
  · have := h j hj
    rw [List.getElem?_eq_getElem hjl, Option.map_some, Option.getD_some, Bool.or_eq_true] at this
    rw [getD_ne e]
    exact this.imp id met_set
/-- behind all of l' comes the rest, and not before -/
def cutB (l' l : List Oper) : Bool := (allBools l'.length).all fun s => !closedB l' s.toArray ||
  (let r' := Region.ready .any l'.toArray s.toArray
   let r := Region.ready .any l.toArray (s.toArray ++ Array.replicate (l.length - l'.length) false)
   if r'.isEmpty then s.all id else decide (r = r'))
/-- the last operations come one after the other -/
def forcedB (ops : Array Oper) : Nat → Nat → Array Bool → Bool
  | 0, _, listed => (Region.ready .any ops listed).isEmpty
  | m + 1, k, listed => decide (Region.ready .any ops listed = [k]) && forcedB ops m (k + 1) (listed.setIfInBounds k true)

theorem any_list {F : Fence} {n : Nat} {P : Program} {ops : Array Oper} {Q : Exit → Act → World → Prop} :
    ∀ (rest : List Oper) (k : Nat) (listed : Array Bool) (a : Act) (w : World), (∀ j, j < rest.length → ops[k + j]? = rest[j]?) → forcedB ops rest.length k listed = true → wpListIn F n P ops Q rest a w →
      wpAnyIn F n P .any ops Q rest.length listed a w
  | [], k, listed, a, w, _, hf, h => ⟨List.isEmpty_iff.1 hf, h⟩
  | o :: rest, k, listed, a, w, ho, hf, h => by
    simp only [List.length_cons, forcedB, Bool.and_eq_true, decide_eq_true_eq] at hf
    refine ⟨fun h0 => (by rw [hf.1] at h0; cases h0), fun i hi => ?_⟩
    rw [hf.1, List.mem_singleton] at hi
    subst hi
    have h0 : ops[i]? = some o := by simpa using ho 0 (by simp)
    unfold wpOpIn
    simp only [h0]
    unfold wpListIn at h
    by_cases hw : Region.wanted o (yielded ops a.tmps) = true
    · rw [if_pos hw] at h ⊢
      exact Oper.wpIn_mono (fun a w hh => any_list rest (i + 1) _ a w (fun j hj => by have := ho (j + 1) (by simpa using hj); rw [show i + 1 + j = i + (j + 1) by omega]; simpa using this) hf.2 hh) h
    · rw [if_neg hw] at h ⊢
      exact ⟨h.1, any_list rest (i + 1) _ _ w (fun j hj => by have := ho (j + 1) (by simpa using hj); rw [show i + 1 + j = i + (j + 1) by omega]; simpa using this) hf.2 h.2⟩

theorem set_left {a r : Array Bool} {i : Nat} {v : Bool} (h : i < a.size) : (a ++ r).setIfInBounds i v = a.setIfInBounds i v ++ r := by
  apply Array.ext'
  simp only [Array.toList_setIfInBounds, Array.toList_append]
  rw [List.set_append_left _ _ (by simpa using h)]
/-- what is asked behind the first operations -/
def thenQ (Q : Exit → Act → World → Prop) (KK : Act → World → Prop) : Exit → Act → World → Prop
  | .normal, a, w => KK a w
  | e, a, w => Q e a w
theorem wp_thenQ {F : Fence} {n : Nat} {P : Program} {o : Oper} {a : Act} {w : World} {K : Act → World → Prop} {Q : Exit → Act → World → Prop} {KK : Act → World → Prop} (h : o.wpIn F n P a w K (thenQ Q KK)) : o.wpIn F n P a w K Q := by
  unfold Oper.wpIn at *
  refine ⟨h.1, ?_⟩
  have h2 := h.2
  generalize (o.semAt F.round a.eval).run P w = r at *
  unfold Oper.uponIn at *
  split at h2 <;> exact h2
theorem any_cut {F : Fence} {n : Nat} {P : Program} {l' l : List Oper} {Q : Exit → Act → World → Prop} {e : Nat} (he : l.length = l'.length + e) (hsub : ∀ (i : Nat) (o : Oper), l'[i]? = some o → l[i]? = some o ∧ o.guard = none) (hcut : cutB l' l = true) :
    ∀ (fuel : Nat) (listed : Array Bool) (a : Act) (w : World), listed.size = l'.length → closedB l' listed = true →
      wpAnyIn F n P .any l'.toArray (thenQ Q fun a w => wpAnyIn F n P .any l.toArray Q e (Array.replicate l'.length true ++ Array.replicate e false) a w) fuel listed a w →
      wpAnyIn F n P .any l.toArray Q (fuel + e) (listed ++ Array.replicate e false) a w := by
  have key : ∀ listed : Array Bool, listed.size = l'.length → closedB l' listed = true → (Region.ready .any l'.toArray listed = [] ∧ listed = Array.replicate l'.length true) ∨
      (Region.ready .any l'.toArray listed ≠ [] ∧ Region.ready .any l.toArray (listed ++ Array.replicate e false) = Region.ready .any l'.toArray listed) := by
    intro listed hs hcl
    have hm := mem_allBools listed.toList
    rw [show listed.toList.length = l'.length by simpa using hs] at hm
    have h := List.all_eq_true.1 hcut _ hm
    simp only [show l.length - l'.length = e by omega, Array.toArray_toList, hcl, Bool.not_true, Bool.false_or] at h
    by_cases g : (Region.ready .any l'.toArray listed).isEmpty = true
    · rw [if_pos g] at h
      refine .inl ⟨List.isEmpty_iff.1 g, ?_⟩
      apply Array.ext
      · simpa using hs
      · intro i h1 h2
        have := List.all_eq_true.1 h listed[i] (by simp)
        simpa using this
    · rw [if_neg g, decide_eq_true_eq] at h
      exact .inr ⟨fun q => g (List.isEmpty_iff.2 q), h⟩
  intro fuel
  induction fuel with
  | zero =>
    intro listed a w hs hcl h
    rcases key listed hs hcl with ⟨_, h2⟩ | ⟨h1, _⟩
    · have := h.2
      rw [h2, Nat.zero_add]; exact this
    · exact absurd h.1 h1
  | succ fuel ih =>
    intro listed a w hs hcl h
    rcases key listed hs hcl with ⟨h1, h2⟩ | ⟨h1, h2⟩
    · have := h.1 h1
      rw [h2]
      exact any_more' (fuel + 1) e this
    · rw [show fuel + 1 + e = fuel + e + 1 by omega]
      refine ⟨fun q => absurd (h2 ▸ q) h1, fun i hi => ?_⟩
      rw [h2] at hi
      have hlt : i < l'.length := by
        unfold Region.ready at hi
        have := (List.mem_filter.1 hi).1
        simpa using this
      have ho := hsub i l'[i] (List.getElem?_eq_getElem hlt)
      have hk := h.2 i hi
      unfold wpOpIn at hk ⊢
      simp only [List.getElem?_toArray, List.getElem?_eq_getElem hlt, ho.1] at hk ⊢
      have hw : ∀ y, Region.wanted l'[i] y = true := fun y => by unfold Region.wanted; rw [ho.2]
      rw [if_pos (hw _)] at hk ⊢
      refine Oper.wpIn_mono (fun a w hh => ?_) (wp_thenQ hk)
      have := ih (listed.setIfInBounds i true) a w (by simpa using hs) (closed_set hcl hi) hh
      rw [show (listed ++ Array.replicate e false).setIfInBounds i true = listed.setIfInBounds i true ++ Array.replicate e false from set_left (by omega)]
      exact this
/-- THE LAW: l = l' ++ rest -/
theorem cut_round {F : Fence} {r n : Nat} {P : Program} {id : Nat} {Q : Exit → Act → World → Prop} {a : Act} {w : World} {l l' rest : List Oper} (hl : l = l' ++ rest) (hro : F.round = none) (hm : P.follows .mixedOrders = true) (hB : Region.lexB .any l'.toArray = true) (hc : l.toArray.all calmOp = true)
    (hg : l'.all (fun o => o.guard.isNone) = true) (hcut : cutB l' l = true) (hf : forcedB l.toArray rest.length l'.length (Array.replicate l'.length true ++ Array.replicate rest.length false) = true)
    (h : wpQuietIn F n P l'.toArray (fun w' => ∃ n, w' = w.drewN n) (fun a' => ∀ w', (∃ n, w' = w.drewN n) → wpListIn (F.inRound r) n P l.toArray Q rest a' w') l' a) : (Code.region id l.toArray true).wpIn (F.inRound r) n P Q a w := by
  simp only [Region.lexB, Bool.and_eq_true] at hB
  have hc' : l'.toArray.all calmOp = true := by
    rw [hl] at hc
    simp only [List.all_toArray, List.all_append, Bool.and_eq_true] at hc ⊢
    exact hc.1
  have hcal := wpAny_round (l := r) hro hc' (F := F) (n := n) (P := P) (md := .any) (Q := thenQ Q fun a w => wpAnyIn (F.inRound r) n P .any l.toArray Q rest.length (Array.replicate l'.length true ++ Array.replicate rest.length false) a w) l'.toArray.size (Array.replicate l'.toArray.size false) a { w with drawn := w.drawn + 1 }
    (wpAnyIn_of_quiet (C := fun w' => ∃ n, w' = w.drewN n) (Q := fun a' => ∀ w', (∃ n, w' = w.drewN n) → wpListIn (F.inRound r) n P l.toArray Q rest a' w') hro (fun a1 w' hw' hh => by
      show wpAnyIn _ _ _ _ _ _ _ _ _ _
      refine any_list rest l'.length _ a1 w' (fun j hj => ?_) hf (hh w' hw')
      rw [hl]; simp [List.getElem?_append_right]) _ _ _ _ ⟨1, rfl⟩ (by
      have := wpAnyQIn_lex (F := F) (n := n) (C := fun w' => ∃ n, w' = w.drewN n) (md := .any) hB.1 l' 0 (Array.replicate l'.toArray.size false) a (by simp) (by simpa using hB.2) (by simpa using h)
      simpa using this))
  refine wpIn_region_any hm ?_
  have hr := any_cut (F := F.inRound r) (n := n) (P := P) (Q := Q) (l' := l') (l := l) (e := rest.length) (by rw [hl]; simp) (fun i o ho => ⟨by rw [hl, List.getElem?_append_left (List.getElem?_eq_some_iff.1 ho).1]; exact ho, by
    have := List.all_eq_true.1 hg o (List.mem_of_getElem? ho)
    simpa using this⟩) hcut _ _ a _ (by simp) (by
    unfold closedB
    rw [List.all_eq_true]
    intro j hj
    have hjl : j < l'.length := by simpa using hj
    simp [Array.getD_eq_getD_getElem?, hjl]) hcal
  have e1 : (Array.replicate l'.toArray.size false ++ Array.replicate rest.length false : Array Bool) = Array.replicate l.toArray.size false := by
    rw [hl]; simp [Array.replicate_append_replicate]
  have e2 : l'.toArray.size + rest.length = l.toArray.size := by rw [hl]; simp
  rw [e1, e2] at hr
  exact hr
/-- the same, the first k operations being those that leave the world alone -/
theorem cut_at (k : Nat) {F : Fence} {r n : Nat} {P : Program} {id : Nat} {Q : Exit → Act → World → Prop} {a : Act} {w : World} {l : List Oper} (hro : F.round = none) (hm : P.follows .mixedOrders = true) (hB : Region.lexB .any (l.take k).toArray = true) (hc : l.toArray.all calmOp = true)
    (hg : (l.take k).all (fun o => o.guard.isNone) = true) (hcut : cutB (l.take k) l = true) (hf : forcedB l.toArray (l.drop k).length (l.take k).length (Array.replicate (l.take k).length true ++ Array.replicate (l.drop k).length false) = true)
    (h : wpQuietIn F n P (l.take k).toArray (fun w' => ∃ n, w' = w.drewN n) (fun a' => ∀ w', (∃ n, w' = w.drewN n) → wpListIn (F.inRound r) n P l.toArray Q (l.drop k) a' w') (l.take k) a) : (Code.region id l.toArray true).wpIn (F.inRound r) n P Q a w :=
  cut_round (List.take_append_drop k l).symm hro hm hB hc hg hcut hf h
end Go.Proofs.Ytbheeahdbimeiaa
