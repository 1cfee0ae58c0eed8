/-
  The document's Check and the program's say the same. Of no call.
-/
import Derived.Test.YtopghgoheaaceaaObjS
import Derived.Test.YtopghgoheaaceaaObjFoundA
namespace Go.Proofs.Ytopghgoheaaceaa
open Go.RowKit
set_option linter.unusedVariables false
set_option linter.unusedSimpArgs false

theorem bl_asymm : ∀ {x y : List UInt8}, Op.bytesLess x y = true → Op.bytesLess y x = false
  | x, [], h => by unfold Op.bytesLess at h; cases h
  | [], b :: y, h => by unfold Op.bytesLess; rfl
  | a :: x, b :: y, h => by
    unfold Op.bytesLess at h ⊢
    simp only [Bool.or_eq_true, decide_eq_true_eq, Bool.and_eq_true, beq_iff_eq] at h
    rw [← Bool.not_eq_true]
    simp only [Bool.or_eq_true, decide_eq_true_eq, Bool.and_eq_true, beq_iff_eq]
    rintro (h2 | ⟨h2, h3⟩)
    · rcases h with h | ⟨h, _⟩
      · exact absurd (UInt8.lt_trans h h2) (UInt8.lt_irrefl _)
      · subst h; exact absurd h2 (UInt8.lt_irrefl _)
    · subst h2
      rcases h with h | ⟨_, h⟩
      · exact absurd h (UInt8.lt_irrefl _)
      · rw [bl_asymm h] at h3; cases h3
theorem bl_tri : ∀ {x y : List UInt8}, Op.bytesLess x y = false → Op.bytesLess y x = false → x = y
  | [], [], _, _ => rfl
  | [], b :: y, h, _ => by unfold Op.bytesLess at h; cases h
  | a :: x, [], _, h => by unfold Op.bytesLess at h; cases h
  | a :: x, b :: y, h1, h2 => by
    unfold Op.bytesLess at h1 h2
    rw [← Bool.not_eq_true] at h1 h2
    simp only [Bool.or_eq_true, decide_eq_true_eq, Bool.and_eq_true, beq_iff_eq, not_or, not_and] at h1 h2
    have e : a = b := by
      have h3 := UInt8.not_lt.1 h1.1
      have h4 := UInt8.not_lt.1 h2.1
      exact UInt8.le_antisymm h4 h3
    subst e
    have e2 : x = y := bl_tri (by simpa using h1.2 rfl) (by simpa using h2.2 rfl)
    rw [e2]
theorem lt_flip {a b : BA} (h : a ≠ b) : (!ltB b a) = ltB a b := by
  unfold ltB
  cases h1 : Op.bytesLess a.toList b.toList with
  | true => rw [bl_asymm h1]; rfl
  | false =>
    cases h2 : Op.bytesLess b.toList a.toList with
    | true => rfl
    | false => exact absurd (bytes_eq (by have := bl_tri h1 h2; rw [ByteArray.toList_eq, ByteArray.toList_eq] at this; exact this)) h
theorem cmp_neg (a b : BA) : decide (cmpB a b < 0) = ltB a b := by
  unfold cmpB
  cases ltB a b with
  | true => rfl
  | false =>
    rw [if_neg (by decide)]
    split <;> rfl
theorem ok_ahead {a b : Sy} (h : a.name ≠ b.name) : (!decide (ordI b a < 0)) = aheadB a b := by
  unfold ordI aheadB
  obtain ⟨an, asc, av, ag⟩ := a
  obtain ⟨bn, bsc, bv, bg⟩ := b
  simp only at h ⊢
  cases ag <;> cases bg
  · rw [if_pos rfl, if_pos rfl, cmp_neg]; exact lt_flip h
  · rfl
  · rfl
  · rw [if_pos rfl, if_pos rfl, cmp_neg]; exact lt_flip h
theorem nodup_find {L : List BA} (h : ∀ (i : Nat) s, L[i]? = some s → findL L s = some i) : L.Nodup := by
  rw [List.Nodup, List.pairwise_iff_getElem]
  intro i j hi hj hij e
  have h1 := h i _ (List.getElem?_eq_getElem hi)
  have h2 := h j _ (List.getElem?_eq_getElem hj)
  rw [e, h2] at h1
  injection h1 with h1
  omega
theorem range_all {n : Nat} {p : Nat → Bool} : (List.range n).all p = true ↔ ∀ j, j < n → p j = true := by
  rw [List.all_eq_true]; exact ⟨fun h j hj => h j (List.mem_range.2 hj), fun h j hj => h j (List.mem_range.1 hj)⟩
theorem lt_of_get {α : Type} {L : List α} {i : Nat} {x : α} (h : L[i]? = some x) : i < L.length := (List.getElem?_eq_some_iff.1 h).1
theorem goodS_all (o : Obj') : (List.range o.secs.length).all (goodS o) = true ↔ (secNs o).Nodup ∧ secsOk o = true := by
  rw [range_all]
  constructor
  · intro h
    have key : ∀ (i : Nat) s, o.secs[i]? = some s → findL (secNs o) s.name = some i ∧ secOk s (o.syms.length : Int) = true := fun i s hi => by
      have := h i (lt_of_get hi)
      rw [goodS_at hi, Bool.and_eq_true, decide_eq_true_eq] at this
      exact this
    refine ⟨nodup_find fun i n hn => ?_, ?_⟩
    · unfold secNs at hn
      rw [List.getElem?_map] at hn
      cases hs : o.secs[i]? with
      | none => rw [hs] at hn; cases hn
      | some s => rw [hs] at hn; cases hn; exact (key i s hs).1
    · unfold secsOk
      rw [List.all_eq_true]
      intro s hs
      obtain ⟨i, hi, hi2⟩ := List.mem_iff_getElem.1 hs
      exact (key i s (by rw [List.getElem?_eq_getElem hi, hi2])).2
  · rintro ⟨h1, h2⟩ j hj
    obtain ⟨s, hs⟩ : ∃ s, o.secs[j]? = some s := ⟨_, List.getElem?_eq_getElem hj⟩
    unfold secsOk at h2
    rw [List.all_eq_true] at h2
    rw [goodS_at hs, findL_at h1 (by unfold secNs; rw [List.getElem?_map, hs]; rfl), h2 s (List.mem_of_getElem? hs)]
    simp
theorem goodY_all (o : Obj') : (List.range o.syms.length).all (goodY o) = true ↔ (symNs o).Nodup ∧ symsOk o = true ∧ sortedL o.syms = true := by
  rw [range_all]
  constructor
  · intro h
    have key : ∀ (i : Nat) y, o.syms[i]? = some y → findL (symNs o) y.name = some i ∧ symOk y o.secs = true ∧ prevOk o i y = true := fun i y hi => by
      have := h i (lt_of_get hi)
      rw [goodY_at hi, Bool.and_eq_true, Bool.and_eq_true, decide_eq_true_eq] at this
      exact this
    have nd : (symNs o).Nodup := nodup_find fun i n hn => by
      unfold symNs at hn
      rw [List.getElem?_map] at hn
      cases hs : o.syms[i]? with
      | none => rw [hs] at hn; cases hn
      | some s => rw [hs] at hn; cases hn; exact (key i s hs).1
    refine ⟨nd, ?_, sorted_yes fun j hj => ?_⟩
    · unfold symsOk
      rw [List.all_eq_true]
      intro s hs
      obtain ⟨i, hi, hi2⟩ := List.mem_iff_getElem.1 hs
      exact (key i s (by rw [List.getElem?_eq_getElem hi, hi2])).2.1
    · obtain ⟨a, ha⟩ : ∃ a, o.syms[j]? = some a := ⟨_, List.getElem?_eq_getElem (by omega)⟩
      obtain ⟨b, hb⟩ : ∃ b, o.syms[j + 1]? = some b := ⟨_, List.getElem?_eq_getElem (by omega)⟩
      have hne : a.name ≠ b.name := fun e => by
        have h1 := (key j a ha).1
        rw [e, (key (j + 1) b hb).1] at h1
        injection h1 with h1; omega
      have hp := (key (j + 1) b hb).2.2
      unfold prevOk at hp
      simp only [ha] at hp
      unfold okAt
      rw [ha, hb]
      simp only
      rw [ok_ahead hne]; exact hp
  · rintro ⟨h1, h2, h3⟩ j hj
    obtain ⟨b, hb⟩ : ∃ s, o.syms[j]? = some s := ⟨_, List.getElem?_eq_getElem hj⟩
    unfold symsOk at h2
    rw [List.all_eq_true] at h2
    rw [goodY_at hb, findL_at h1 (by unfold symNs; rw [List.getElem?_map, hb]; rfl), h2 b (List.mem_of_getElem? hb)]
    simp only [decide_true, Bool.true_and]
    cases j with
    | zero => rfl
    | succ j =>
      obtain ⟨a, ha⟩ : ∃ a, o.syms[j]? = some a := ⟨_, List.getElem?_eq_getElem (by omega)⟩
      have hne : a.name ≠ b.name := fun e => by
        have e1 : findL (symNs o) a.name = some j := findL_at h1 (by unfold symNs; rw [List.getElem?_map, ha]; rfl)
        have e2 : findL (symNs o) b.name = some (j + 1) := findL_at h1 (by unfold symNs; rw [List.getElem?_map, hb]; rfl)
        rw [e, e2] at e1
        injection e1 with e1; omega
      unfold sortedL at h3
      have := range_all.1 h3 j (by omega)
      unfold okAt at this
      rw [ha, hb] at this
      simp only at this
      rw [ok_ahead hne] at this
      unfold prevOk
      simp only [ha]
      exact this
theorem doc_check (o : Obj') : docB o = checkB o := by
  have h1 := goodS_all o
  have h2 := goodY_all o
  unfold docB
  rw [checkB_e]
  unfold twiceL
  generalize (List.range o.secs.length).all (goodS o) = A at *
  generalize (List.range o.syms.length).all (goodY o) = B at *
  generalize secsOk o = b3 at *
  generalize symsOk o = b4 at *
  generalize sortedL o.syms = b7 at *
  generalize decide (64 < (o.secs.length : Int)) = a1
  generalize decide (4096 < (o.syms.length : Int)) = a2
  by_cases n1 : (secNs o).Nodup <;> by_cases n2 : (symNs o).Nodup <;> simp only [n1, n2, true_and, false_and, iff_false, Bool.not_eq_true, decide_true, decide_false] at h1 h2 ⊢
  · cases A <;> cases B <;> cases b3 <;> cases b4 <;> cases b7 <;> cases a1 <;> cases a2 <;> simp at h1 h2 ⊢
  · cases A <;> cases B <;> cases b3 <;> cases b4 <;> cases b7 <;> cases a1 <;> cases a2 <;> simp at h1 h2 ⊢
  · cases A <;> cases B <;> cases b3 <;> cases b4 <;> cases b7 <;> cases a1 <;> cases a2 <;> simp at h1 h2 ⊢
  · cases A <;> cases B <;> cases b3 <;> cases b4 <;> cases b7 <;> cases a1 <;> cases a2 <;> simp at h1 h2 ⊢
end Go.Proofs.Ytopghgoheaaceaa
