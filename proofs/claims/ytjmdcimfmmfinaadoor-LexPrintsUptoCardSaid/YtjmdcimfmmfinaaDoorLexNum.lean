/-
  Numbers: what the document's way of reading digits comes to is the number of the letters and digits ahead. No program in this text; no conditions.
-/
import Derived.Test.YtjmdcimfmmfinaaDoorLexMath
namespace Go.Proofs.YtjmdcimfmmfinaaDoor

theorem hexV_ld {c : UInt8} {d : Nat} (h : hexV c = some d) : isLD c = true := by
  unfold hexV at h
  unfold isLD isL isD
  simp only [UInt8.le_iff_toNat_le, Bool.or_eq_true, Bool.and_eq_true, decide_eq_true_eq]
  split at h
  · right; simpa using ‹_ ∧ _›
  · split at h
    · rename_i h2; left; left; left; left; left
      exact ⟨h2.1, by have := h2.2; show c.toNat ≤ 122; omega⟩
    · split at h
      · rename_i h3; left; left; left; left; right
        exact ⟨h3.1, by have := h3.2; show c.toNat ≤ 90; omega⟩
      · cases h
/-- digits of a base read one by one, as long as they fit: the value, how many; none: they don't fit -/
def basedF (base : Nat) : Nat → Nat → Bs → Option (Nat × Nat)
  | a, k, [] => some (a, k)
  | a, k, c :: r => match hexV c with
    | some d => if d < base then (if a * base + d < 18446744073709551616 then basedF base (a * base + d) (k + 1) r else none) else some (a, k)
    | none => some (a, k)
theorem valF_ge {base : Nat} (hb : 1 ≤ base) : ∀ (t : Bs) (a v : Nat), valF base a t = some v → a ≤ v
  | [], a, v, h => by simp [valF] at h; omega
  | c :: r, a, v, h => by
    rw [valF] at h
    split at h
    · rename_i d hd
      split at h
      · have := valF_ge hb r _ _ h
        have := Nat.le_mul_of_pos_right a hb
        omega
      · cases h
    · cases h
theorem based_none {base : Nat} (hb : 1 ≤ base) : ∀ (t : Bs) (a k : Nat), basedF base a k t = none → ∀ v, valF base a (t.take (run isLD t)) = some v → 18446744073709551616 ≤ v
  | [], a, k, h, v => by cases h
  | c :: r, a, k, h, v => by
    rw [basedF] at h
    intro hv
    cases hx : hexV c with
    | none => rw [hx] at h; cases h
    | some d =>
      rw [hx] at h
      simp only at h
      rw [run_head _ (hexV_ld hx), List.take_succ_cons, valF, hx] at hv
      simp only at hv
      split at h
      · rename_i hd
        rw [if_pos hd] at hv
        split at h
        · exact based_none hb r _ _ h v hv
        · have := valF_ge hb _ _ _ hv
          omega
      · cases h
theorem based_some {base : Nat} : ∀ (t : Bs) (a k v k' : Nat), a < 18446744073709551616 → basedF base a k t = some (v, k') →
    v < 18446744073709551616 ∧ ∃ j, k' = k + j ∧ j ≤ t.length ∧ ((okEnd (t.drop j) = true ∧ run isLD t = j ∧ valF base a (t.take (run isLD t)) = some v) ∨ (okEnd (t.drop j) = false ∧ valF base a (t.take (run isLD t)) = none))
  | [], a, k, v, k', ha, h => by
    simp [basedF] at h
    obtain ⟨rfl, rfl⟩ := h
    exact ⟨ha, 0, rfl, Nat.le_refl _, .inl ⟨rfl, rfl, rfl⟩⟩
  | c :: r, a, k, v, k', ha, h => by
    rw [basedF] at h
    have stop : ∀ (hx : ∀ d, hexV c = some d → ¬ d < base) (he : some (a, k) = some (v, k')), v < 18446744073709551616 ∧ ∃ j, k' = k + j ∧ j ≤ (c :: r).length ∧ ((okEnd ((c :: r).drop j) = true ∧ run isLD (c :: r) = j ∧ valF base a ((c :: r).take (run isLD (c :: r))) = some v) ∨ (okEnd ((c :: r).drop j) = false ∧ valF base a ((c :: r).take (run isLD (c :: r))) = none)) := by
      intro hx he
      cases he
      refine ⟨ha, 0, rfl, Nat.zero_le _, ?_⟩
      cases hl : isLD c with
      | false => left; exact ⟨by simp [okEnd, hl], run_no _ hl, by rw [run_no _ hl]; rfl⟩
      | true =>
        right
        refine ⟨by simp [okEnd, hl], ?_⟩
        rw [run_head _ hl, List.take_succ_cons, valF]
        cases hxc : hexV c with
        | none => rfl
        | some d => simp only; rw [if_neg (hx d hxc)]
    cases hx : hexV c with
    | none => rw [hx] at h; exact stop (fun d e => by rw [hx] at e; cases e) h
    | some d =>
      rw [hx] at h
      simp only at h
      split at h
      · rename_i hd
        split at h
        · rename_i hlt
          obtain ⟨hv, j, rfl, hj, hor⟩ := based_some r _ _ _ _ hlt h
          refine ⟨hv, j + 1, by omega, by simp; omega, ?_⟩
          rw [run_head _ (hexV_ld hx), List.take_succ_cons, valF, hx, List.drop_succ_cons]
          simp only
          rw [if_pos hd]
          rcases hor with ⟨h1, h2, h3⟩ | ⟨h1, h2⟩
          · exact .inl ⟨h1, by omega, h3⟩
          · exact .inr ⟨h1, h2⟩
        · cases h
      · rename_i hd
        exact stop (fun d' e => by rw [hx] at e; cases e; exact hd) h
/-- the digits of a base, as the document reads them -/
theorem digitsV_based {base : Nat} (hb : 1 ≤ base) (t : Bs) : digitsV base (t.take (run isLD t)) = match basedF base 0 0 t with
    | none => none
    | some (v, k) => if k < 1 ∨ okEnd (t.drop k) = false then none else some v := by
  cases h : basedF base 0 0 t with
  | none =>
    have hn := based_none hb t 0 0 h
    simp only
    unfold digitsV
    split
    · rfl
    · split
      · rename_i v hv
        rw [if_neg (by have := hn v hv; omega)]
      · rfl
  | some x =>
    obtain ⟨v, k⟩ := x
    obtain ⟨hv, j, hk, hj, hor⟩ := based_some t 0 0 v k (by decide) h
    obtain rfl : k = j := by omega
    simp only
    rcases hor with ⟨h1, h2, h3⟩ | ⟨h1, h2⟩
    · unfold digitsV
      rw [h3, h2]
      by_cases hk0 : k = 0
      · subst hk0; simp
      · have : t.take k ≠ [] := by
          intro e
          have := congrArg List.length e
          rw [List.length_take, Nat.min_eq_left hj] at this
          exact hk0 this
        rw [if_neg this, if_neg (by simp [h1]; omega)]
        simp [hv]
    · rw [if_pos (.inr h1)]
      unfold digitsV
      rw [h2]
      split <;> rfl
theorem based_run {base : Nat} {t : Bs} {v k : Nat} (h : basedF base 0 0 t = some (v, k)) (he : okEnd (t.drop k) = true) : run isLD t = k := by
  obtain ⟨hv, j, hk, hj, hor⟩ := based_some t 0 0 v k (by decide) h
  obtain rfl : k = j := by omega
  rcases hor with ⟨h1, h2, h3⟩ | ⟨h1, h2⟩
  · exact h2
  · rw [h1] at he; cases he
/-- the document's number: its value, how many bytes; 0: there is none -/
def docNum (s : Bs) : Nat × Nat :=
  if s.head? = some 39 then (match s with
    | _ :: c :: t :: _ => if t = 39 ∧ stands c 39 = true then (c.toNat, 3) else (0, 0)
    | _ => (0, 0))
  else if s.take 2 = [48, 120] then (match basedF 16 0 0 (s.drop 2) with
    | some (v, k) => if k < 1 then (0, 0) else (v, 2 + k)
    | none => (0, 0))
  else if s.take 2 = [48, 98] then (match basedF 2 0 0 (s.drop 2) with
    | some (v, k) => if k < 1 then (0, 0) else (v, 2 + k)
    | none => (0, 0))
  else (match basedF 10 0 0 s with
    | some (v, k) => if k < 1 ∨ (1 < k ∧ s.head? = some 48) then (0, 0) else (v, k)
    | none => (0, 0))
theorem docNum_le (s : Bs) : (docNum s).2 ≤ s.length := by
  have B : ∀ {base : Nat} {t : Bs} {v k : Nat}, basedF base 0 0 t = some (v, k) → k ≤ t.length := fun {base t v k} h => by
    obtain ⟨hv, j, hk, hj, hor⟩ := based_some t 0 0 v k (by decide) h
    omega
  unfold docNum
  split
  · split
    · split <;> simp
    · simp
  · split
    · rename_i h2
      have : 2 ≤ s.length := by have := congrArg List.length h2; simp at this; omega
      split
      · rename_i v k hb
        have := B hb
        rw [List.length_drop] at this
        split <;> simp <;> omega
      · simp
    · split
      · rename_i h2
        have : 2 ≤ s.length := by have := congrArg List.length h2; simp at this; omega
        split
        · rename_i v k hb
          have := B hb
          rw [List.length_drop] at this
          split <;> simp <;> omega
        · simp
      · split
        · rename_i v k hb
          have := B hb
          split <;> simp <;> omega
        · simp
theorem take2_run {s : Bs} {a b : UInt8} (h : s.take 2 = [a, b]) (ha : isLD a = true) (hb : isLD b = true) : ∃ r, s = a :: b :: r ∧ run isLD s = run isLD r + 2 := by
  match s, h with
  | x :: y :: r, h =>
    simp only [List.take_succ_cons, List.take_zero, List.cons.injEq, and_true] at h
    obtain ⟨rfl, rfl⟩ := h
    exact ⟨r, rfl, by rw [run_head _ ha, run_head _ hb]⟩
theorem numB_doc {s : Bs} (hs : ∀ c, s.head? = some c → isD c = true ∨ c = 39) (hne : s ≠ []) : numB s = if (docNum s).2 = 0 ∨ okEnd (s.drop (docNum s).2) = false then none else some (docNum s) := by
  unfold numB docNum
  by_cases h39 : s.head? = some 39
  · rw [if_pos h39, if_pos h39]
    match s with
    | [] => rfl
    | [_] => rfl
    | [_, _] => rfl
    | a :: c :: t :: r =>
      simp only
      by_cases h1 : t = 39 ∧ stands c 39 = true
      · rw [if_pos h1]
        simp only [List.drop_succ_cons, List.drop_zero]
        cases ho : okEnd r <;> simp [h1]
      · rw [if_neg h1, if_neg (fun h => h1 ⟨h.1, h.2.1⟩)]
        simp
  · rw [if_neg h39, if_neg h39]
    unfold parseD
    have key : ∀ (b : UInt8) (base : Nat), 1 ≤ base → isLD b = true → s.take 2 = [48, b] →
        (digitsV base ((s.take (run isLD s)).drop 2)).map (fun v => (v, run isLD s)) = if (match basedF base 0 0 (s.drop 2) with
          | some (v, k) => if k < 1 then (0, 0) else (v, 2 + k)
          | none => (0, 0)).2 = 0 ∨ okEnd (s.drop (match basedF base 0 0 (s.drop 2) with
          | some (v, k) => if k < 1 then (0, 0) else (v, 2 + k)
          | none => (0, 0)).2) = false then none else some (match basedF base 0 0 (s.drop 2) with
          | some (v, k) => if k < 1 then (0, 0) else (v, 2 + k)
          | none => (0, 0)) := by
      intro b base hb hlb h2
      obtain ⟨r, rfl, hr⟩ := take2_run h2 (by decide) hlb
      rw [hr, show run isLD r + 2 = run isLD r + 1 + 1 from rfl, List.take_succ_cons, List.take_succ_cons, List.drop_succ_cons, List.drop_succ_cons, List.drop_zero, List.drop_succ_cons, List.drop_succ_cons, List.drop_zero, digitsV_based hb]
      cases hbf : basedF base 0 0 r with
      | none => simp
      | some x =>
        obtain ⟨v, k⟩ := x
        simp only
        by_cases hk : k < 1
        · simp [hk]
        · simp only [hk, if_false, false_or]
          rw [show 2 + k = k + 1 + 1 by omega, List.drop_succ_cons, List.drop_succ_cons]
          cases ho : okEnd (r.drop k) with
          | false => simp
          | true =>
            have := based_run hbf ho
            simp [this]
    by_cases hx : s.take 2 = [48, 120]
    · have hd : (s.take (run isLD s)).take 2 = [48, 120] := by
        obtain ⟨r, rfl, hr⟩ := take2_run hx (by decide) (by decide)
        rw [hr]; rfl
      rw [if_pos hd, if_pos hx]
      exact key 120 16 (by decide) (by decide) hx
    · have hd : (s.take (run isLD s)).take 2 ≠ [48, 120] := by
        intro h
        rw [List.take_take] at h
        by_cases hm : 2 ≤ run isLD s
        · rw [Nat.min_eq_left hm] at h; exact hx h
        · have := congrArg List.length h
          rw [List.length_take] at this
          simp at this; omega
      rw [if_neg hd, if_neg hx]
      by_cases hb : s.take 2 = [48, 98]
      · have hd : (s.take (run isLD s)).take 2 = [48, 98] := by
          obtain ⟨r, rfl, hr⟩ := take2_run hb (by decide) (by decide)
          rw [hr]; rfl
        rw [if_pos hd, if_pos hb]
        exact key 98 2 (by decide) (by decide) hb
      · have hd : (s.take (run isLD s)).take 2 ≠ [48, 98] := by
          intro h
          rw [List.take_take] at h
          by_cases hm : 2 ≤ run isLD s
          · rw [Nat.min_eq_left hm] at h; exact hb h
          · have := congrArg List.length h
            rw [List.length_take] at this
            simp at this; omega
        rw [if_neg hd, if_neg hb]
        obtain ⟨c, r, rfl⟩ := List.exists_cons_of_ne_nil hne
        · have hdc : isD c = true := by
            rcases hs c rfl with h | h
            · exact h
            · exact absurd (by rw [h]; rfl) h39
          have hlc : isLD c = true := by simp [isLD, hdc]
          have hR := run_head isLD (c := c) (r := r) hlc
          have hlen : ((c :: r).take (run isLD (c :: r))).length = run isLD (c :: r) := by
            rw [List.length_take]; exact Nat.min_eq_left (run_le _ _)
          have hhd : ((c :: r).take (run isLD (c :: r))).head? = some c := by rw [hR]; rfl
          rw [hlen, hhd, digitsV_based (by decide)]
          simp only [List.head?_cons, Option.some.injEq]
          cases hbf : basedF 10 0 0 (c :: r) with
          | none => simp
          | some x =>
            obtain ⟨v, k⟩ := x
            simp only
            by_cases hk : k < 1
            · simp [hk]
            · have hr1 := based_some (c :: r) 0 0 v k (by decide) hbf
              cases ho : okEnd ((c :: r).drop k) with
              | true =>
                have hrk := based_run hbf ho
                rw [hrk]
                by_cases hz : 1 < k ∧ c = 48
                · simp [hz]
                · have e1 : (if k < 1 ∨ 1 < k ∧ c = 48 then ((0, 0) : Nat × Nat) else (v, k)) = (v, k) := if_neg (fun h => h.elim hk hz)
                  rw [if_neg hz, e1, if_neg (by simp; omega), if_neg (by simp [ho]; omega)]
                  rfl
              | false =>
                have : ∀ y : Nat × Nat, (y = (0, 0) ∨ y = (v, k)) → (if y.2 = 0 ∨ okEnd ((c :: r).drop y.2) = false then none else some y) = none := by
                  intro y hy
                  rcases hy with rfl | rfl
                  · simp
                  · simp [ho]
                rw [this _ (by split <;> simp)]
                split <;> simp
end Go.Proofs.YtjmdcimfmmfinaaDoor
