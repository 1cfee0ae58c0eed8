/-
  What the tokens of a line are: each may be, they begin at rising places. No program in this text; no conditions.
-/
import Derived.Test.YtjmdcimfmmfinaaDoorLexD
namespace Go.Proofs.YtjmdcimfmmfinaaDoor

theorem all_take_run (p : UInt8 → Bool) : ∀ s : Bs, (s.take (run p s)).all p = true
  | [] => rfl
  | c :: r => by
    rw [run]
    by_cases h : p c = true
    · rw [if_pos h, List.take_succ_cons, List.all_cons, h, all_take_run p r]; rfl
    · rw [if_neg h]; rfl
theorem name_take {c : UInt8} {r : Bs} (h : isL c = true) : nameB ((c :: r).take (run isLD (c :: r))) = true := by
  rw [run_head _ (by simp [isLD, h]), List.take_succ_cons]
  simp only [nameB, h, all_take_run, Bool.and_self]
theorem sign_take {s : Bs} (h : signN s ≠ 0) : isSignB (s.take (signN s)) = true := by
  cases s with
  | nil => exact absurd rfl h
  | cons c r =>
    by_cases h1 : ((c == 60 && r.head? == some 60) || (c == 62 && r.head? == some 62)) = true
    · have e : signN (c :: r) = 2 := by rw [signN, if_pos h1]
      rw [e]
      cases r with
      | nil => simp at h1
      | cons d r =>
        simp only [List.head?_cons, Bool.or_eq_true, Bool.and_eq_true, beq_iff_eq, Option.some.injEq] at h1
        rcases h1 with ⟨rfl, rfl⟩ | ⟨rfl, rfl⟩
        · rfl
        · rfl
    · by_cases h2 : signL.contains c = true
      · have e : signN (c :: r) = 1 := by rw [signN, if_neg h1, if_pos h2]
        rw [e, List.take_succ_cons, List.take_zero]
        unfold isSignB
        simp only [h2, Bool.or_true]
      · exact absurd (by rw [signN, if_neg h1, if_neg h2]) h
theorem fits_one {s : Bs} {k : Int} {t : Bs} {n z : Nat} (h : one s = some (k, t, n, z)) (hl : s.length ≤ 512) : fitsB k t = true ∧ (n = 0 ∨ k = 2) := by
  unfold one at h
  split at h
  · cases h
  · rename_i c r
    split at h
    · rename_i hc
      cases h
      exact ⟨by simp [fitsB, name_take hc], .inl rfl⟩
    · split at h
      · simp only [Option.map_eq_some_iff] at h
        obtain ⟨⟨v, m⟩, _, he⟩ := h
        simp only [Prod.mk.injEq] at he
        obtain ⟨rfl, rfl, _, _⟩ := he
        exact ⟨by simp [fitsB], .inr rfl⟩
      · split at h
        · simp only [Option.map_eq_some_iff] at h
          obtain ⟨⟨b, m⟩, h2, he⟩ := h
          have := quotesB_le h2
          simp only [Prod.mk.injEq] at he
          obtain ⟨rfl, rfl, rfl, _⟩ := he
          refine ⟨?_, .inl rfl⟩
          have hb : b.length ≤ 512 := by omega
          simp [fitsB, hb]
        · split at h
          · cases h
          · rename_i hs
            cases h
            exact ⟨by simp [fitsB, sign_take hs], .inl rfl⟩
theorem text_one {s : Bs} {k : Int} {t : Bs} {n z : Nat} (h : one s = some (k, t, n, z)) : t.length ≤ s.length := by
  unfold one at h
  split at h
  · cases h
  · rename_i c r
    split at h
    · cases h; rw [List.length_take]; omega
    · split at h
      · simp only [Option.map_eq_some_iff] at h
        obtain ⟨⟨v, m⟩, _, he⟩ := h
        simp only [Prod.mk.injEq] at he
        obtain ⟨_, rfl, _, _⟩ := he
        exact Nat.zero_le _
      · split at h
        · simp only [Option.map_eq_some_iff] at h
          obtain ⟨⟨b, m⟩, h2, he⟩ := h
          have := quotesB_le h2
          simp only [Prod.mk.injEq] at he
          obtain ⟨rfl, rfl, rfl, _⟩ := he
          omega
        · split at h
          · cases h
          · cases h; rw [List.length_take]; omega
/-- what rises -/
structure Rises (at_ len : Nat) (r : List Tok × Nat × Int) : Prop where
  each : ∀ x ∈ r.1, (at_ : Int) ≤ x.p ∧ x.p < ((at_ + len : Nat) : Int) ∧ checkB x.k x.t (x.n : Int) x.p = true ∧ x.t.length ≤ len
  rise : r.1.Pairwise fun x y => x.p < y.p
  few : r.1.length ≤ len
  lo : at_ ≤ r.2.1
  hi : r.2.1 ≤ at_ + len
theorem lexF_rises : ∀ (f at_ : Nat) (s : Bs), s.length ≤ 512 → Rises at_ s.length (lexF f at_ s)
  | 0, at_, s, _ => by rw [lexF]; exact ⟨fun x h => (by cases h), List.Pairwise.nil, Nat.zero_le _, Nat.le_refl _, Nat.le_add_right _ _⟩
  | f + 1, at_, s, hl => by
    rw [lexF]
    by_cases h0 : s.drop (skipB s) = []
    · rw [if_pos h0]; exact ⟨fun x h => (by cases h), List.Pairwise.nil, Nat.zero_le _, Nat.le_add_right _ _, Nat.le_refl _⟩
    · rw [if_neg h0]
      have hsk := skip_le s
      cases ho : one (s.drop (skipB s)) with
      | none => exact ⟨fun x h => (by cases h), List.Pairwise.nil, Nat.zero_le _, Nat.le_add_right _ _, Nat.add_le_add_left hsk _⟩
      | some q =>
        obtain ⟨k, t, n, z⟩ := q
        have hz := one_le ho
        rw [List.length_drop] at hz
        have hlen : ((s.drop (skipB s)).drop z).length = s.length - skipB s - z := by rw [List.length_drop, List.length_drop]
        have ih := lexF_rises f (at_ + skipB s + z) ((s.drop (skipB s)).drop z) (by omega)
        rw [hlen] at ih
        obtain ⟨hf, hn⟩ := fits_one ho (by rw [List.length_drop]; omega)
        obtain ⟨h1, h2, h3, h4, h5⟩ := ih
        simp only
        refine ⟨?_, ?_, ?_, ?_, ?_⟩
        · intro x hx
          rcases List.mem_cons.1 hx with rfl | hx
          · refine ⟨by simp only; omega, by simp only; omega, ?_, by have := text_one ho; rw [List.length_drop] at this; simp only; omega⟩
            unfold checkB
            simp only [hf, Bool.and_true, Bool.and_eq_true, Bool.or_eq_true, decide_eq_true_eq, beq_iff_eq]
            rcases hn with h | h
            · exact ⟨by omega, .inl (by omega)⟩
            · exact ⟨by omega, .inr h⟩
          · obtain ⟨a, b, c, d⟩ := h1 x hx
            exact ⟨by omega, by omega, c, by omega⟩
        · refine List.Pairwise.cons ?_ h2
          intro y hy
          have := (h1 y hy).1
          simp only; omega
        · simp only [List.length_cons]; omega
        · show at_ ≤ (lexF f (at_ + skipB s + z) ((s.drop (skipB s)).drop z)).2.1
          omega
        · show (lexF f (at_ + skipB s + z) ((s.drop (skipB s)).drop z)).2.1 ≤ at_ + s.length
          omega
theorem lineB_rises (s : Bs) : Rises 0 s.length (lineB s) := by
  unfold lineB
  split
  · exact ⟨fun x h => (by cases h), List.Pairwise.nil, Nat.zero_le _, Nat.le_refl _, by simp⟩
  · exact lexF_rises _ _ _ (by omega)
theorem lineB_few (s : Bs) : (lineB s).1.length ≤ 512 := by
  unfold lineB
  split
  · exact Nat.zero_le _
  · have := (lexF_rises (s.length + 1) 0 s (by omega)).few
    unfold lexS
    omega
theorem pair_next {T : List Tok} (h : T.Pairwise fun x y => x.p < y.p) {k : Nat} {x y : Tok} (hx : T[k]? = some x) (hy : T[k + 1]? = some y) : x.p < y.p := by
  obtain ⟨h1, rfl⟩ := List.getElem?_eq_some_iff.1 hx
  obtain ⟨h2, rfl⟩ := List.getElem?_eq_some_iff.1 hy
  exact List.pairwise_iff_getElem.1 h _ _ h1 h2 (by omega)
end Go.Proofs.YtjmdcimfmmfinaaDoor
