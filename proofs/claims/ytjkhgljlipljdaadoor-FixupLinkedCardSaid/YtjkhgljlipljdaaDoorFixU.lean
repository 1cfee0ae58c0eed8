/-
  What a value means and what is filled in, or what a relocation says, are the same, whatever addresses sections and symbols elsewhere get. Of no call.
-/
import Derived.Test.YtjkhgljlipljdaaDoorFixT
namespace Go.Proofs.YtjkhgljlipljdaaDoor
open Go.RowKit
set_option linter.unusedVariables false
set_option linter.unusedSimpArgs false

/-- where a part of a value is -/
def ap (S E : List Int) (p : Pt) : Int := if p.is = false then 0 else if p.sec = -1 then E.getD (p.num.toNat % E.length) 0 else wrap64 (atI S p.sec + p.val)
theorem ap0 (S E : List Int) : ap S E pt0 = 0 := rfl
theorem lookF_get {nm : BA} : ∀ {L : List Sy} {b i : Nat} {y : Sy}, lookF nm b L = some (i, y) → ∃ j, i = b + j ∧ L[j]? = some y ∧ y.name = nm
  | [], _, _, _, h => by cases h
  | z :: L, b, i, y, h => by
    unfold lookF at h
    split at h
    · rename_i hz
      cases h
      exact ⟨0, rfl, rfl, hz⟩
    · obtain ⟨j, h1, h2, h3⟩ := lookF_get h
      exact ⟨j + 1, by omega, by simpa using h2, h3⟩
theorem adr_find {S E : List Int} {sec off : Int} {L : List Sy} {nm : BA} {P : Pt} (hs : 0 ≤ sec) (h : findP sec off L nm = some P) : adr S E sec off L nm = (ap S E P, true) := by
  unfold findP at h
  unfold adr
  split at h
  · cases h; rw [if_pos (by assumption)]; rfl
  · rename_i h0
    rw [if_neg h0]
    split at h
    · cases h
      rw [if_pos (by assumption)]
      unfold ap
      simp only [Bool.true_eq_false, if_false]
      rw [if_neg (by omega)]
    · rename_i h1
      rw [if_neg h1]
      cases hl : lookF nm 0 L with
      | none => rw [hl] at h; cases h
      | some x =>
        obtain ⟨i, y⟩ := x
        rw [hl] at h
        cases h
        unfold adrH ap
        simp only [Bool.true_eq_false, if_false, Int.toNat_natCast]
theorem find_sym {sec off : Int} {L : List Sy} {nm : BA} {P : Pt} (h : findP sec off L nm = some P) (hi : P.is = true) (hn : P.num ≠ -1) : ∃ (i : Nat) (y : Sy), P.num = (i : Int) ∧ L[i]? = some y ∧ y.name = nm := by
  unfold findP at h
  split at h
  · cases h; cases hi
  · split at h
    · cases h; exact absurd rfl hn
    · cases hl : lookF nm 0 L with
      | none => rw [hl] at h; cases h
      | some x =>
        obtain ⟨i, y⟩ := x
        rw [hl] at h
        cases h
        obtain ⟨j, h1, h2, h3⟩ := lookF_get hl
        exact ⟨i, y, rfl, by rw [h1, Nat.zero_add]; exact h2, h3⟩
/-- what a sum means -/
def mean (S E : List Int) (s : Sm) : Int := wrap64 (s.n + ap S E s.p - ap S E s.m)
theorem at_abs (S : List Int) : atI S (-2) = 0 := rfl
theorem mean1 (S E : List Int) (s : Sm) : mean S E (rk1 s) = mean S E s := by
  unfold rk1
  split
  · rename_i h
    obtain ⟨n, ⟨pi, ps, pv, pn⟩, m⟩ := s
    unfold numB at h
    simp only [Bool.and_eq_true, beq_iff_eq] at h
    obtain ⟨rfl, rfl⟩ := h
    unfold mean
    simp only [ap0]
    have : ap S E ⟨true, -2, pv, pn⟩ = wrap64 (0 + pv) := by unfold ap; simp [at_abs]
    rw [this]
    generalize ap S E m = M
    unfold wrap64; omega
  · rfl
theorem mean2 (S E : List Int) (s : Sm) : mean S E (rk2 s) = mean S E s := by
  unfold rk2
  split
  · rename_i h
    obtain ⟨n, p, ⟨mi, ms, mv, mn⟩⟩ := s
    unfold numB at h
    simp only [Bool.and_eq_true, beq_iff_eq] at h
    obtain ⟨rfl, rfl⟩ := h
    unfold mean
    simp only [ap0]
    have : ap S E ⟨true, -2, mv, mn⟩ = wrap64 (0 + mv) := by unfold ap; simp [at_abs]
    rw [this]
    generalize ap S E p = M
    unfold wrap64; omega
  · rfl
theorem mean3 (S E : List Int) (s : Sm) : mean S E (rk3 s) = mean S E s := by
  unfold rk3
  split
  · rename_i h
    obtain ⟨n, ⟨pi, ps, pv, pn⟩, ⟨mi, ms, mv, mn⟩⟩ := s
    unfold canc inB at h
    simp only [Bool.and_eq_true, beq_iff_eq, bne_iff_ne] at h
    obtain ⟨rfl, rfl, rfl, h1⟩ := h
    unfold mean
    simp only [ap0]
    have e1 : ap S E ⟨true, ps, pv, pn⟩ = wrap64 (atI S ps + pv) := by unfold ap; simp [h1]
    have e2 : ap S E ⟨true, ps, mv, mn⟩ = wrap64 (atI S ps + mv) := by unfold ap; simp [h1]
    rw [e1, e2]
    generalize atI S ps = A
    unfold wrap64; omega
  · rfl
theorem mean_reck (S E : List Int) (s : Sm) : mean S E (reck s) = mean S E s := by
  unfold reck; rw [mean3, mean2, mean1]
theorem reck_p (s : Sm) (h : (reck s).p.is = true) : (reck s).p = s.p := by
  unfold reck rk3 at *
  split at h
  · cases h
  · rename_i hc
    rw [if_neg hc]
    have e2 : ∀ v : Sm, (rk2 v).p = v.p := by intro v; unfold rk2; split <;> rfl
    rw [e2] at h ⊢
    unfold rk1 at *
    split at h
    · cases h
    · rename_i hb; rw [if_neg hb]
theorem kinds2 {k s : Int} (h : holeOk k s = true) : (shR k s).p ≠ 261 ∧ (shR k s).p ≠ 260 ∧ ((shR k s).f = 0 ∨ (shR k s).f = 261 ∨ (shR k s).f = 260) := by
  unfold shR
  rw [if_pos h]
  obtain ⟨x, hx, rfl, rfl⟩ := holes_all h
  exact (show ∀ x ∈ holesL, (shOf (x.1 : Int) (x.2 : Int)).p ≠ 261 ∧ (shOf (x.1 : Int) (x.2 : Int)).p ≠ 260 ∧ ((shOf (x.1 : Int) (x.2 : Int)).f = 0 ∨ (shOf (x.1 : Int) (x.2 : Int)).f = 261 ∨ (shOf (x.1 : Int) (x.2 : Int)).f = 260) by decide) x hx
theorem kinds3 {k s : Int} (h : holeOk k s = true) : k ≤ 6 → (shR k s).f = 0 := by
  unfold shR
  rw [if_pos h]
  obtain ⟨x, hx, rfl, rfl⟩ := holes_all h
  exact (show ∀ x ∈ holesL, (x.1 : Int) ≤ 6 → (shOf (x.1 : Int) (x.2 : Int)).f = 0 by decide) x hx
theorem in_mean {S E : List Int} {v : Sm} (hp : v.p.is = false) (hm : v.m.is = false) (hv : in64 v.n) : mean S E v = v.n := by
  unfold mean ap
  rw [if_pos hp, if_pos hm]
  unfold in64 at hv
  unfold wrap64; omega
/-- what is meant, and what is done -/
def Linked (S E : List Int) (h : Hl) (sec off : Int) (L : List Sy) (R : Fx) : Prop :=
  ∃ pA mA, adr S E sec off L h.p = (pA, true) ∧ adr S E sec off L h.m = (mA, true) ∧ ∃ meant, (if h.k ≤ 6 then wrap64 (wrap64 (wrap64 (h.a + pA) - mA) - wrap64 (atI S sec + off)) else wrap64 (wrap64 (h.a + pA) - mA)) = meant ∧
    ((R.pt = true ∧ R.v = meant) ∨ (R.pt = false ∧ R.off = off ∧ ∃ (j : Nat) (y : Sy), R.sy = (j : Int) ∧ L[j]? = some y ∧ ∃ q, adr S E sec off L y.name = (q, true) ∧
      (if h.k ≤ 6 ∨ R.ty = 261 ∨ R.ty = 260 then wrap64 (wrap64 (q + R.ad) - wrap64 (atI S sec + off)) else wrap64 (q + R.ad)) = meant))
theorem link_math {S E : List Int} {h : Hl} {sec off : Int} {L : List Sy} {R : Fx} (hs : 0 ≤ sec) (ha : in64 h.a) (hR : resO h sec off L = (R, 0)) : Linked S E h sec off L R := by
  unfold resO at hR
  cases hok : holeOk h.k h.s with
  | false => rw [hok] at hR; simp at hR
  | true =>
    rw [hok, if_pos rfl] at hR
    obtain ⟨hN, hF, hND⟩ := kinds hok
    obtain ⟨k1, k2, k3⟩ := kinds2 hok
    have k4 := kinds3 hok
    cases hP : findP sec off L h.p with
    | none =>
      rw [hP] at hR
      have e : sumO h.a none (findP sec off L h.m) = none := by cases findP sec off L h.m <;> rfl
      rw [e] at hR; cases hR
    | some P =>
      cases hM : findP sec off L h.m with
      | none => rw [hP, hM] at hR; cases hR
      | some M =>
        rw [hP, hM] at hR
        have hR : fixR sec off (shR h.k h.s) (reck ⟨h.a, P, M⟩) = (R, 0) := hR
        have hin : in64 (reck ⟨h.a, P, M⟩).n := reck_in (s := ⟨h.a, P, M⟩) ha
        have hmean := mean_reck S E ⟨h.a, P, M⟩
        have hpp : (reck ⟨h.a, P, M⟩).p.is = true → (reck ⟨h.a, P, M⟩).p = P := reck_p ⟨h.a, P, M⟩
        generalize reck ⟨h.a, P, M⟩ = v at *
        refine ⟨_, _, adr_find hs hP, adr_find hs hM, _, rfl, ?_⟩
        have hm0 : wrap64 (wrap64 (h.a + ap S E P) - ap S E M) = mean S E v := by
          rw [hmean]; unfold mean; simp only
          generalize ap S E P = A; generalize ap S E M = B
          unfold wrap64; omega
        rw [hm0]
        clear hm0 hmean
        generalize shR h.k h.s = sh at *
        unfold fixR at hR
        cases hm : v.m.is with
        | true =>
          rw [if_pos hm] at hR
          cases hi : inB v.m sec with
          | false => rw [hi] at hR; simp at hR
          | true =>
            rw [hi, if_pos rfl] at hR
            unfold inB at hi
            simp only [Bool.and_eq_true, beq_iff_eq, bne_iff_ne] at hi
            obtain ⟨_, hsec, hs1⟩ := hi
            unfold relR at hR
            simp only at hR
            split at hR
            · simp at hR
            rename_i hp
            split at hR
            · simp at hR
            rename_i hn
            split at hR
            · simp at hR
            rename_i hK
            have hpt : v.p.is = true := by simpa using hp
            obtain ⟨i, y, h1, h2, h3⟩ := find_sym hP (by rw [← hpp hpt]; exact hpt) (by rw [← hpp hpt]; exact hn)
            cases hR
            right
            have hrel : relI sh true = sh.f := rfl
            rw [hrel] at hK
            have hnk : ¬ h.k ≤ 6 := fun h6 => hK (k4 h6)
            refine ⟨rfl, rfl, i, y, by rw [hpp hpt]; exact h1, h2, ap S E P, by rw [h3]; exact adr_find hs hP, ?_⟩
            rw [if_neg hnk, if_pos (.inr (show sh.f = 261 ∨ sh.f = 260 by omega))]
            unfold mean
            have e1 : ap S E v.m = wrap64 (atI S sec + v.m.val) := by unfold ap; rw [if_neg (by simp [hm]), if_neg (by omega), hsec]
            rw [e1, hpp hpt]
            simp only
            generalize ap S E P = A
            generalize atI S sec = B
            unfold wrap64; omega
        | false =>
          rw [if_neg (by simp [hm])] at hR
          have e1 : ap S E v.m = 0 := by unfold ap; rw [if_pos hm]
          cases hp : v.p.is with
          | true =>
            rw [if_pos hp] at hR
            cases hb : (nearB sh && inB v.p sec) with
            | true =>
              rw [hb, if_pos rfl] at hR
              simp only [Bool.and_eq_true] at hb
              obtain ⟨hn1, hi⟩ := hb
              unfold inB at hi
              simp only [Bool.and_eq_true, beq_iff_eq, bne_iff_ne] at hi
              obtain ⟨_, hsec, hs1⟩ := hi
              have h6 : h.k ≤ 6 := by rw [hN] at hn1; exact of_decide_eq_true hn1
              unfold fillR fillF fillE at hR
              split at hR
              · split at hR
                · cases hR
                  left
                  refine ⟨rfl, ?_⟩
                  rw [if_pos h6]
                  unfold mean
                  have e2 : ap S E v.p = wrap64 (atI S sec + v.p.val) := by unfold ap; rw [if_neg (by simp [hp]), if_neg (by omega), hsec]
                  rw [e1, e2]
                  simp only
                  generalize atI S sec = B
                  unfold wrap64; omega
                · simp at hR
              · simp at hR
            | false =>
              rw [hb, if_neg (by simp)] at hR
              unfold relR at hR
              split at hR
              · simp at hR
              split at hR
              · simp at hR
              rename_i hn
              split at hR
              · simp at hR
              obtain ⟨i, y, h1, h2, h3⟩ := find_sym hP (by rw [← hpp hp]; exact hp) (by rw [← hpp hp]; exact hn)
              cases hR
              right
              have hrel : relI sh false = sh.p := rfl
              refine ⟨rfl, rfl, i, y, by rw [hpp hp]; exact h1, h2, ap S E P, by rw [h3]; exact adr_find hs hP, ?_⟩
              have hc : (h.k ≤ 6 ∨ relI sh false = 261 ∨ relI sh false = 260) ↔ h.k ≤ 6 := by
                rw [hrel]; exact ⟨fun x => x.elim id (fun x => x.elim (fun y => absurd y k1) (fun y => absurd y k2)), .inl⟩
              simp only [hc]
              have e3 : mean S E v = wrap64 (ap S E P + v.n) := by
                unfold mean; rw [e1, hpp hp]; congr 1; omega
              rw [e3]
          | false =>
            rw [if_neg (by simp [hp])] at hR
            cases hn1 : nearB sh with
            | true => rw [hn1] at hR; simp at hR
            | false =>
              rw [hn1, if_neg (by simp)] at hR
              have h6 : ¬ h.k ≤ 6 := by rw [hN] at hn1; exact of_decide_eq_false hn1
              unfold fillR fillF fillE at hR
              split at hR
              · split at hR
                · cases hR
                  left
                  exact ⟨rfl, by rw [if_neg h6, in_mean hp hm hin]⟩
                · simp at hR
              · simp at hR
theorem res_bad {h : Hl} {sec off : Int} {L : List Sy} {R : Fx} {e : Int} (hR : resO h sec off L = (R, e)) (he : e ≠ 0) : R = fx0 := by
  unfold resO at hR
  split at hR
  · cases hS : sumO h.a (findP sec off L h.p) (findP sec off L h.m) with
    | none => rw [hS] at hR; cases hR; rfl
    | some v =>
      rw [hS] at hR
      unfold fixO fixR relR fillR fillF fillE at hR
      simp only at hR
      repeat' split at hR
      all_goals first
        | (cases hR; rfl)
        | (cases hR; exact absurd rfl he)
  · cases hR; rfl
end Go.Proofs.YtjkhgljlipljdaaDoor
