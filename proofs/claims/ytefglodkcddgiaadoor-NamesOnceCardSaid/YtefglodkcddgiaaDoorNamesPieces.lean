/-
  Texts that are parted at '_', decimal numerals below 100, and the form of numbers of a system register: of no program. No conditions beyond those that each lemma states.
-/
import Derived.Lib.Split
import Derived.Lib.ItoaNum
import Derived.Lib.ParseIntB
import Derived.Lib.Join
namespace Go.Proofs.YtefglodkcddgiaaDoor

/-- a text, parted at '_' -/
def spl : List UInt8 → List (List UInt8)
  | [] => [[]]
  | c :: r => if c = 95 then [] :: spl r else match spl r with
    | p :: ps => (c :: p) :: ps
    | [] => [[c]]
/-- pieces put together with '_' between -/
def joinU : List (List UInt8) → List UInt8
  | [] => []
  | [p] => p
  | p :: q :: r => p ++ 95 :: joinU (q :: r)

theorem spl_ne : ∀ s, spl s ≠ []
  | [] => by simp [spl]
  | c :: r => by
    unfold spl
    split
    · simp
    · split <;> simp
theorem joinU_spl : ∀ s, joinU (spl s) = s
  | [] => rfl
  | c :: r => by
    have ih := joinU_spl r
    have hn := spl_ne r
    unfold spl
    split
    · next h =>
      subst h
      revert ih hn
      cases spl r with
      | nil => intro _ hn; exact absurd rfl hn
      | cons p ps => intro ih _; show [] ++ 95 :: joinU (p :: ps) = _; rw [ih]; rfl
    · revert ih hn
      cases spl r with
      | nil => intro _ hn; exact absurd rfl hn
      | cons p ps =>
        intro ih _
        cases ps with
        | nil => simpa [joinU] using ih
        | cons q ps => simp only [joinU, List.cons_append]; rw [← ih]; rfl
theorem spl_plain : ∀ (a : List UInt8), (∀ c ∈ a, c ≠ 95) → spl a = [a]
  | [], _ => rfl
  | c :: r, h => by
    have h1 : c ≠ 95 := h c (by simp)
    rw [spl, if_neg h1, spl_plain r (fun x hx => h x (by simp [hx]))]
theorem spl_cut : ∀ (a b : List UInt8), (∀ c ∈ a, c ≠ 95) → spl (a ++ 95 :: b) = a :: spl b
  | [], b, _ => by simp [spl]
  | c :: r, b, h => by
    have h1 : c ≠ 95 := h c (by simp)
    rw [List.cons_append, spl, if_neg h1, spl_cut r b (fun x hx => h x (by simp [hx]))]
theorem spl_join : ∀ (l : List (List UInt8)), l ≠ [] → (∀ p ∈ l, ∀ c ∈ p, c ≠ 95) → spl (joinU l) = l
  | [], h, _ => absurd rfl h
  | [p], _, h => spl_plain p (h p (by simp))
  | p :: q :: r, _, h => by
    rw [joinU, spl_cut p _ (h p (by simp)), spl_join (q :: r) (by simp) (fun x hx => h x (by simp [hx]))]

/-- the library's splitting at '_' is this one -/
theorem splitK_spl : ∀ (n : Nat) (s : List UInt8), s.length ≤ n → Lib.splitK [95] 0 (Lib.count s [95]) s = spl s := by
  intro n
  induction n with
  | zero =>
    intro s h
    have : s = [] := List.length_eq_zero_iff.1 (by omega)
    subst this
    rfl
  | succ n ih =>
    intro s h
    rcases Lib.index_spec s [95] with ⟨h1, h2⟩ | ⟨i, h1, h2, h3, h4⟩
    · rw [Lib.count_miss h1]
      have hno : ∀ c ∈ s, c ≠ 95 := by
        intro c hc e
        subst e
        obtain ⟨j, hj, hg⟩ := List.getElem_of_mem hc
        have := h2 j (by omega)
        unfold Lib.occAt at this
        rw [List.drop_eq_getElem_cons hj, hg] at this
        simp at this
      rw [spl_plain s hno]; rfl
    · rw [Lib.count_hit (by simp) h1]
      have hi : i < s.length ∧ s.drop i = 95 :: s.drop (i + 1) := by
        rcases Lib.occAt_room h3 with g | g
        · have hl : i < s.length := by simp at g; omega
          refine ⟨hl, ?_⟩
          unfold Lib.occAt at h3
          rw [List.drop_eq_getElem_cons hl] at h3 ⊢
          simp only [List.isPrefixOf, Bool.and_true, beq_iff_eq] at h3
          rw [← h3]
        · simp at g
      have hs : s = s.take i ++ 95 :: s.drop (i + 1) := by rw [← hi.2, List.take_append_drop]
      have hno : ∀ c ∈ s.take i, c ≠ 95 := by
        intro c hc e
        subst e
        obtain ⟨j, hj, hg⟩ := List.getElem_of_mem hc
        have hj2 : j < i := by rw [List.length_take] at hj; omega
        have := h4 j hj2
        unfold Lib.occAt at this
        rw [List.drop_eq_getElem_cons (by omega)] at this
        rw [List.getElem_take] at hg
        rw [hg] at this
        simp at this
      have e1 : 1 + Lib.count (s.drop (i + ([95] : List UInt8).length)) [95] = Lib.count (s.drop (i + 1)) [95] + 1 := by simp; omega
      have hne : (Lib.index s [95] == -1) = false := by rw [h1]; simp
      rw [e1, Lib.splitK, hne]
      have e2 : (Lib.index s [95]).toNat = i := by rw [h1]; simp
      rw [e2]
      have ihh := ih (s.drop (i + 1)) (by rw [List.length_drop]; omega)
      simp only [Bool.false_eq_true, if_false, Nat.add_zero, List.length_cons, List.length_nil, Nat.zero_add]
      rw [ihh]
      conv => rhs; rw [hs]
      rw [spl_cut _ _ hno]
theorem splitB_spl (s : ByteArray) : (Lib.splitB ⟨#[95]⟩ 0 (Lib.countB s ⟨#[95]⟩) s).map (·.data.toList) = spl s.data.toList := by
  rw [Lib.splitB_data]
  exact splitK_spl _ _ (Nat.le_refl _)

/-! ### numerals below 100 -/
def dd (n : Nat) : List UInt8 := if n < 10 then [UInt8.ofNat (48 + n)] else [UInt8.ofNat (48 + n / 10), UInt8.ofNat (48 + n % 10)]
theorem dec_dd {n : Nat} (h : n < 100) : Lib.decDigits n = dd n := by
  unfold dd
  rw [Lib.decDigits]
  split
  · rfl
  · rw [Lib.decDigits, dif_pos (by omega)]; rfl
theorem dd_parse : ∀ n, n < 100 → Lib.parseIntB 64 (dd n) = .ok (n : Int) := by decide +kernel
theorem dd_inj : ∀ n, n < 100 → ∀ m, m < 100 → dd n = dd m → n = m := by decide +kernel
theorem dd_plain : ∀ n, n < 100 → ∀ c ∈ dd n, c ≠ 95 := by decide +kernel
theorem dd_len (n : Nat) : 1 ≤ (dd n).length ∧ (dd n).length ≤ 2 := by unfold dd; split <;> simp
theorem dd_one : ∀ a : UInt8, 48 ≤ a.toNat → a.toNat ≤ 57 → dd (a.toNat - 48) = [a] := by
  have h : ∀ k, k < 256 → 48 ≤ (UInt8.ofNat k).toNat → (UInt8.ofNat k).toNat ≤ 57 → dd ((UInt8.ofNat k).toNat - 48) = [UInt8.ofNat k] := by decide +kernel
  intro a
  have := h a.toNat a.toNat_lt
  rwa [UInt8.ofNat_toNat] at this
theorem dd_two : ∀ a b : UInt8, 49 ≤ a.toNat → a.toNat ≤ 57 → 48 ≤ b.toNat → b.toNat ≤ 57 → dd (10 * (a.toNat - 48) + (b.toNat - 48)) = [a, b] := by
  intro a b h1 h2 h3 h4
  unfold dd
  rw [if_neg (by omega), show (10 * (a.toNat - 48) + (b.toNat - 48)) / 10 = a.toNat - 48 by omega, show (10 * (a.toNat - 48) + (b.toNat - 48)) % 10 = b.toNat - 48 by omega,
    show 48 + (a.toNat - 48) = a.toNat by omega, show 48 + (b.toNat - 48) = b.toNat by omega, UInt8.ofNat_toNat, UInt8.ofNat_toNat]
/-- the number that a text is the numeral of, if it is from lo to hi -/
def dig (s : List UInt8) (lo hi : Nat) : Option Nat := (List.range 100).find? fun n => decide (lo ≤ n) && decide (n ≤ hi) && decide (dd n = s)
theorem dig_some {s : List UInt8} {lo hi n : Nat} (hh : hi < 100) (h1 : lo ≤ n) (h2 : n ≤ hi) (h3 : dd n = s) : dig s lo hi = some n := by
  unfold dig
  cases e : (List.range 100).find? fun n => decide (lo ≤ n) && decide (n ≤ hi) && decide (dd n = s) with
  | none =>
    rw [List.find?_eq_none] at e
    exact absurd (e n (by simp; omega)) (by simp [h1, h2, h3])
  | some m =>
    have := List.find?_some e
    have hm := List.mem_of_find?_eq_some e
    simp at this hm
    rw [dd_inj m hm n (by omega) (by rw [this.2, h3])]
theorem dig_none {s : List UInt8} {lo hi : Nat} (h : ∀ n, lo ≤ n → n ≤ hi → dd n ≠ s) : dig s lo hi = none := by
  unfold dig
  rw [List.find?_eq_none]
  intro n _
  simp
  intro h1 h2
  exact h n h1 h2
theorem dig_spec {s : List UInt8} {lo hi n : Nat} (h : dig s lo hi = some n) : lo ≤ n ∧ n ≤ hi ∧ dd n = s ∧ n < 100 := by
  unfold dig at h
  have := List.find?_some h
  have hm := List.mem_of_find?_eq_some h
  simp at this hm
  exact ⟨this.1.1, this.1.2, this.2, hm⟩
theorem dig_iff_none {s : List UInt8} {lo hi : Nat} (hh : hi < 100) : dig s lo hi = none ↔ ∀ n, lo ≤ n → n ≤ hi → dd n ≠ s :=
  ⟨fun h n h1 h2 h3 => (by rw [dig_some hh h1 h2 h3] at h; cases h), dig_none⟩

/-! ### the form of numbers -/
def sysNum (a b c d e : Nat) : Nat := (((a * 8 + b) * 16 + c) * 16 + d) * 8 + e
def sysText (n : Nat) : List UInt8 := joinU [115 :: dd (n / 16384 + 2), dd (n / 2048 % 8), 99 :: dd (n / 128 % 16), 99 :: dd (n / 8 % 16), dd (n % 8)]
theorem sysNum_parts {a b c d e : Nat} (ha : a < 2) (hb : b < 8) (hc : c < 16) (hd : d < 16) (he : e < 8) :
    sysNum a b c d e < 32768 ∧ sysNum a b c d e / 16384 = a ∧ sysNum a b c d e / 2048 % 8 = b ∧ sysNum a b c d e / 128 % 16 = c ∧ sysNum a b c d e / 8 % 16 = d ∧ sysNum a b c d e % 8 = e := by
  unfold sysNum; omega
theorem sysNum_own (n : Nat) : sysNum (n / 16384) (n / 2048 % 8) (n / 128 % 16) (n / 8 % 16) (n % 8) = n := by unfold sysNum; omega
theorem spl_sysText {n : Nat} (h : n < 32768) : spl (sysText n) = [115 :: dd (n / 16384 + 2), dd (n / 2048 % 8), 99 :: dd (n / 128 % 16), 99 :: dd (n / 8 % 16), dd (n % 8)] := by
  refine spl_join _ (by simp) ?_
  intro p hp c hc
  simp only [List.mem_cons, List.not_mem_nil, or_false] at hp
  rcases hp with rfl | rfl | rfl | rfl | rfl
  · rcases List.mem_cons.1 hc with rfl | hc
    · decide
    · exact dd_plain _ (by omega) c hc
  · exact dd_plain _ (by omega) c hc
  · rcases List.mem_cons.1 hc with rfl | hc
    · decide
    · exact dd_plain _ (by omega) c hc
  · rcases List.mem_cons.1 hc with rfl | hc
    · decide
    · exact dd_plain _ (by omega) c hc
  · exact dd_plain _ (by omega) c hc
/-- the number of a form of numbers -/
def sysLook (s : List UInt8) : Option Nat :=
  match spl s with
  | [115 :: p, q, 99 :: r, 99 :: t, u] =>
    match dig p 2 3, dig q 0 7, dig r 0 15, dig t 0 15, dig u 0 7 with
    | some a, some b, some c, some d, some e => some (sysNum (a - 2) b c d e)
    | _, _, _, _, _ => none
  | _ => none
theorem sysLook_text {n : Nat} (h : n < 32768) : sysLook (sysText n) = some n := by
  unfold sysLook
  rw [spl_sysText h]
  simp only
  rw [dig_some (by omega) (by omega) (by omega) rfl, dig_some (by omega) (by omega) (by omega) rfl, dig_some (by omega) (by omega) (by omega) rfl, dig_some (by omega) (by omega) (by omega) rfl, dig_some (by omega) (by omega) (by omega) rfl]
  simp only [Nat.add_sub_cancel, sysNum_own]
theorem sysLook_lt {s : List UInt8} {n : Nat} (h : sysLook s = some n) : n < 32768 := by
  unfold sysLook at h
  split at h
  · split at h
    · next h1 h2 h3 h4 h5 =>
      have := dig_spec h1; have := dig_spec h2; have := dig_spec h3; have := dig_spec h4; have := dig_spec h5
      injection h with h
      rw [← h]
      exact (sysNum_parts (by omega) (by omega) (by omega) (by omega) (by omega)).1
    · cases h
  · cases h
end Go.Proofs.YtefglodkcddgiaaDoor
