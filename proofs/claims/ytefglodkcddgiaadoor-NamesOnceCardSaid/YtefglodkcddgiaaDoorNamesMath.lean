/-
  The names of each kind and their numbers, looked up either way: of no program. No conditions beyond those that each lemma states.
-/
import Derived.Test.YtefglodkcddgiaaDoorNamesPieces
namespace Go.Proofs.YtefglodkcddgiaaDoor

abbrev NRow := List UInt8 × Nat
def condT : List (List UInt8 × Nat) := [([101, 113], 0), ([110, 101], 1), ([99, 115], 2), ([99, 99], 3), ([109, 105], 4), ([112, 108], 5), ([118, 115], 6), ([118, 99], 7), ([104, 105], 8), ([108, 115], 9), ([103, 101], 10), ([108, 116], 11), ([103, 116], 12), ([108, 101], 13), ([97, 108], 14), ([110, 118], 15)]
def modT : List (List UInt8 × Nat) := [([108, 115, 108], 1), ([108, 115, 114], 2), ([97, 115, 114], 3), ([114, 111, 114], 4), ([117, 120, 116, 98], 5), ([117, 120, 116, 104], 6), ([117, 120, 116, 119], 7), ([117, 120, 116, 120], 8), ([115, 120, 116, 98], 9), ([115, 120, 116, 104], 10), ([115, 120, 116, 119], 11), ([115, 120, 116, 120], 12)]
def barT : List (List UInt8 × Nat) := [([111, 115, 104, 108, 100], 1), ([111, 115, 104, 115, 116], 2), ([111, 115, 104], 3), ([110, 115, 104, 108, 100], 5), ([110, 115, 104, 115, 116], 6), ([110, 115, 104], 7), ([105, 115, 104, 108, 100], 9), ([105, 115, 104, 115, 116], 10), ([105, 115, 104], 11), ([108, 100], 13), ([115, 116], 14), ([115, 121], 15)]
def hintT : List (List UInt8 × Nat) := [([110, 111, 112], 0), ([121, 105, 101, 108, 100], 1), ([119, 102, 101], 2), ([119, 102, 105], 3), ([115, 101, 118], 4), ([115, 101, 118, 108], 5), ([100, 103, 104], 6), ([101, 115, 98], 16), ([99, 115, 100, 98], 20)]
def sysT : List (List UInt8 × Nat) := [([109, 100, 115, 99, 114, 95, 101, 108, 49], 18), ([109, 105, 100, 114, 95, 101, 108, 49], 16384), ([109, 112, 105, 100, 114, 95, 101, 108, 49], 16389), ([105, 100, 95, 97, 97, 54, 52, 112, 102, 114, 48, 95, 101, 108, 49], 16416), ([105, 100, 95, 97, 97, 54, 52, 105, 115, 97, 114, 48, 95, 101, 108, 49], 16432), ([105, 100, 95, 97, 97, 54, 52, 109, 109, 102, 114, 48, 95, 101, 108, 49], 16440), ([115, 99, 116, 108, 114, 95, 101, 108, 49], 16512), ([97, 99, 116, 108, 114, 95, 101, 108, 49], 16513), ([99, 112, 97, 99, 114, 95, 101, 108, 49], 16514), ([116, 116, 98, 114, 48, 95, 101, 108, 49], 16640), ([116, 116, 98, 114, 49, 95, 101, 108, 49], 16641), ([116, 99, 114, 95, 101, 108, 49], 16642), ([115, 112, 115, 114, 95, 101, 108, 49], 16896), ([101, 108, 114, 95, 101, 108, 49], 16897), ([115, 112, 95, 101, 108, 48], 16904), ([115, 112, 115, 101, 108], 16912), ([99, 117, 114, 114, 101, 110, 116, 101, 108], 16914), ([101, 115, 114, 95, 101, 108, 49], 17040), ([102, 97, 114, 95, 101, 108, 49], 17152), ([112, 97, 114, 95, 101, 108, 49], 17312), ([109, 97, 105, 114, 95, 101, 108, 49], 17680), ([118, 98, 97, 114, 95, 101, 108, 49], 17920), ([105, 115, 114, 95, 101, 108, 49], 17928), ([99, 111, 110, 116, 101, 120, 116, 105, 100, 114, 95, 101, 108, 49], 18049), ([116, 112, 105, 100, 114, 95, 101, 108, 49], 18052), ([99, 116, 114, 95, 101, 108, 48], 22529), ([100, 99, 122, 105, 100, 95, 101, 108, 48], 22535), ([110, 122, 99, 118], 23056), ([100, 97, 105, 102], 23057), ([102, 112, 99, 114], 23072), ([102, 112, 115, 114], 23073), ([116, 112, 105, 100, 114, 95, 101, 108, 48], 24194), ([116, 112, 105, 100, 114, 114, 111, 95, 101, 108, 48], 24195), ([99, 110, 116, 102, 114, 113, 95, 101, 108, 48], 24320), ([99, 110, 116, 112, 99, 116, 95, 101, 108, 48], 24321), ([99, 110, 116, 118, 99, 116, 95, 101, 108, 48], 24322), ([99, 110, 116, 112, 95, 99, 116, 108, 95, 101, 108, 48], 24337), ([99, 110, 116, 118, 95, 99, 116, 108, 95, 101, 108, 48], 24345), ([99, 110, 116, 118, 95, 99, 118, 97, 108, 95, 101, 108, 48], 24346)]
def prfT : List (List UInt8 × Nat) := [([112, 108, 100, 108, 49, 107, 101, 101, 112], 0), ([112, 108, 100, 108, 49, 115, 116, 114, 109], 1), ([112, 108, 100, 108, 50, 107, 101, 101, 112], 2), ([112, 108, 100, 108, 50, 115, 116, 114, 109], 3), ([112, 108, 100, 108, 51, 107, 101, 101, 112], 4), ([112, 108, 100, 108, 51, 115, 116, 114, 109], 5), ([112, 108, 105, 108, 49, 107, 101, 101, 112], 8), ([112, 108, 105, 108, 49, 115, 116, 114, 109], 9), ([112, 108, 105, 108, 50, 107, 101, 101, 112], 10), ([112, 108, 105, 108, 50, 115, 116, 114, 109], 11), ([112, 108, 105, 108, 51, 107, 101, 101, 112], 12), ([112, 108, 105, 108, 51, 115, 116, 114, 109], 13), ([112, 115, 116, 108, 49, 107, 101, 101, 112], 16), ([112, 115, 116, 108, 49, 115, 116, 114, 109], 17), ([112, 115, 116, 108, 50, 107, 101, 101, 112], 18), ([112, 115, 116, 108, 50, 115, 116, 114, 109], 19), ([112, 115, 116, 108, 51, 107, 101, 101, 112], 20), ([112, 115, 116, 108, 51, 115, 116, 114, 109], 21)]
def fieldT : List (List UInt8 × Nat) := [([115, 112, 115, 101, 108], 0), ([100, 97, 105, 102, 115, 101, 116], 1), ([100, 97, 105, 102, 99, 108, 114], 2), ([112, 97, 110], 3), ([117, 97, 111], 4), ([100, 105, 116], 5)]
/-- a register's name -/
def regText (n : Int) (x sp : Bool) : Option (List UInt8) :=
  if n < 0 ∨ n > 31 ∨ (sp = true ∧ n ≠ 31) then none
  else some (if sp = true then (if x = true then [115, 112] else [119, 115, 112]) else (if x = true then 120 else 119) :: (if n = 31 then [122, 114] else dd n.toNat))
def regN (m : Nat) : Int := ((m % 32 : Nat) : Int)
def regX (m : Nat) : Bool := decide (m / 32 % 2 = 1)
def regP (m : Nat) : Bool := decide (m / 64 % 2 = 1)
def regT : List (List UInt8 × Nat) := (List.range 128).filterMap fun m => (regText (regN m) (regX m) (regP m)).map fun t => (t, m)
/-- the names of a kind -/
def tbl (k : Int) : List (List UInt8 × Nat) :=
  if k = 1 then regT else if k = 2 then condT else if k = 3 then modT else if k = 4 then barT else if k = 5 then hintT else if k = 6 then sysT else if k = 7 then prfT else if k = 8 then fieldT else []
def look (t : List NRow) (s : List UInt8) : Option Nat := (t.find? fun r => decide (r.1 = s)).map (·.2)
def rlook (t : List NRow) (n : Int) : Option (List UInt8) := (t.find? fun r => decide ((r.2 : Int) = n)).map (·.1)
def usualS (s : List UInt8) : List UInt8 := if s = [104, 115] then [99, 115] else if s = [108, 111] then [99, 99] else s
def numOf (k : Int) (s : List UInt8) : Option Nat := match look (tbl k) (if k = 2 then usualS s else s) with
  | some n => some n
  | none => if k = 6 then sysLook s else none
def nameOf (k n : Int) : Option (List UInt8) := match rlook (tbl k) n with
  | some x => some x
  | none => if k = 6 ∧ 0 ≤ n ∧ n ≤ 32767 then some (sysText n.toNat) else none
/-- a name of one of the kinds from k to 8 -/
def wordFrom (s : List UInt8) (k : Nat) : Bool := (List.range 9).any fun j => decide (k ≤ j) && (numOf (j : Int) s).isSome
def wordOf (s : List UInt8) : Bool := wordFrom s 1

/-! ### looking up -/
theorem look_yes {t pre : List NRow} {x : NRow} {s : List UInt8} (h : pre ++ [x] <+: t) (hn : ∀ r ∈ pre, r.1 ≠ s) (hx : x.1 = s) : look t s = some x.2 := by
  obtain ⟨u, rfl⟩ := h
  unfold look
  rw [List.append_assoc, List.find?_append, List.find?_eq_none.2 (fun r hr => by simpa using hn r hr)]
  simp [hx]
theorem look_no {t : List NRow} {s : List UInt8} (hn : ∀ r ∈ t, r.1 ≠ s) : look t s = none := by
  unfold look
  rw [List.find?_eq_none.2 (fun r hr => by simpa using hn r hr)]; rfl
theorem look_mem {t : List NRow} {s : List UInt8} {n : Nat} (h : look t s = some n) : (s, n) ∈ t := by
  unfold look at h
  cases e : t.find? fun r => decide (r.1 = s) with
  | none => rw [e] at h; cases h
  | some r =>
    rw [e] at h
    have h1 := List.find?_some e
    have h2 := List.mem_of_find?_eq_some e
    simp at h h1
    rw [← h1, ← h]; exact h2
theorem rlook_yes {t pre : List NRow} {x : NRow} {n : Int} (h : pre ++ [x] <+: t) (hn : ∀ r ∈ pre, (r.2 : Int) ≠ n) (hx : (x.2 : Int) = n) : rlook t n = some x.1 := by
  obtain ⟨u, rfl⟩ := h
  unfold rlook
  rw [List.append_assoc, List.find?_append, List.find?_eq_none.2 (fun r hr => by simpa using hn r hr)]
  simp [hx]
theorem rlook_no {t : List NRow} {n : Int} (hn : ∀ r ∈ t, (r.2 : Int) ≠ n) : rlook t n = none := by
  unfold rlook
  rw [List.find?_eq_none.2 (fun r hr => by simpa using hn r hr)]; rfl
theorem rlook_mem {t : List NRow} {s : List UInt8} {n : Int} (h : rlook t n = some s) : ∃ m : Nat, (m : Int) = n ∧ (s, m) ∈ t := by
  unfold rlook at h
  cases e : t.find? fun r => decide ((r.2 : Int) = n) with
  | none => rw [e] at h; cases h
  | some r =>
    rw [e] at h
    have h1 := List.find?_some e
    have h2 := List.mem_of_find?_eq_some e
    simp at h h1
    exact ⟨r.2, h1, by rw [← h]; exact h2⟩

/-! ### the tables -/
def allT : List (List (List UInt8 × Nat)) := [regT, condT, modT, barT, hintT, sysT, prfT, fieldT, []]
theorem tbl_mem (k : Int) : tbl k ∈ allT := by
  unfold tbl allT
  repeat' split
  all_goals simp
theorem allT_own : ∀ t ∈ allT, ∀ r ∈ t, look t r.1 = some r.2 ∧ rlook t (r.2 : Int) = some r.1 ∧ r.2 < 32768 ∧ 1 ≤ r.1.length ∧ r.1.length ≤ 20 := by decide +kernel
theorem allT_rise : ∀ t ∈ allT, (t.map (·.2)).Pairwise (· < ·) ∧ (t.map (·.1)).Nodup ∧ t.length ≤ 66 := by decide +kernel
theorem sysT_few : ∀ r ∈ sysT, (spl r.1).length ≠ 5 := by decide +kernel
theorem cond_usual : ∀ r ∈ condT, usualS r.1 = r.1 := by decide +kernel
theorem usual_or (s : List UInt8) : usualS s = s ∨ s = [104, 115] ∨ s = [108, 111] := by
  unfold usualS
  split
  · exact .inr (.inl ‹_›)
  · split
    · exact .inr (.inr ‹_›)
    · exact .inl rfl
theorem tbl6 : tbl 6 = sysT := rfl
theorem sysText_fresh {n : Nat} (h : n < 32768) : look sysT (sysText n) = none := by
  cases e : look sysT (sysText n) with
  | none => rfl
  | some m => exact absurd (by rw [spl_sysText h]; rfl) (sysT_few _ (look_mem e))
theorem word_of {k : Int} {x : List UInt8} {n : Nat} (h : numOf k x = some n) : wordOf x = true := by
  have hk : 1 ≤ k ∧ k ≤ 8 := by
    by_cases g : 1 ≤ k ∧ k ≤ 8
    · exact g
    · unfold numOf at h
      have ht : tbl k = [] := by
        unfold tbl
        rw [if_neg (by omega), if_neg (by omega), if_neg (by omega), if_neg (by omega), if_neg (by omega), if_neg (by omega), if_neg (by omega), if_neg (by omega)]
      rw [ht] at h
      simp [look, show k ≠ 6 by omega] at h
  unfold wordOf wordFrom
  rw [List.any_eq_true]
  exact ⟨k.toNat, by simp; omega, by rw [show ((k.toNat : Nat) : Int) = k by omega, h]; simp; omega⟩
/-- P3.5, the one way -/
theorem back_name {k n : Int} {x : List UInt8} (h : nameOf k n = some x) : ∃ m : Nat, (m : Int) = n ∧ numOf k x = some m ∧ wordOf x = true := by
  have key : ∃ m : Nat, (m : Int) = n ∧ numOf k x = some m := by
    unfold nameOf at h
    cases e : rlook (tbl k) n with
    | some y =>
      rw [e] at h
      injection h with h
      subst h
      obtain ⟨m, hm, hmem⟩ := rlook_mem e
      refine ⟨m, hm, ?_⟩
      have ho := (allT_own _ (tbl_mem k) _ hmem).1
      unfold numOf
      by_cases h2 : k = 2
      · subst h2
        rw [if_pos rfl, cond_usual (y, m) hmem, ho]
      · rw [if_neg h2, ho]
    | none =>
      rw [e] at h
      simp only at h
      split at h
      · next hc =>
        injection h with h
        subst h
        obtain ⟨rfl, h1, h2⟩ := hc
        refine ⟨n.toNat, by omega, ?_⟩
        unfold numOf
        rw [if_neg (by decide), tbl6, sysText_fresh (by omega)]
        simp only [if_true]
        exact sysLook_text (by omega)
      · cases h
  obtain ⟨m, h1, h2⟩ := key
  exact ⟨m, h1, h2, word_of h2⟩
/-- P3.5, the other way -/
theorem back_num {k : Int} {s : List UInt8} {m : Nat} (h : numOf k s = some m) : ∃ x, nameOf k (m : Int) = some x ∧ (x = s ∨ (k = 2 ∧ (s = [104, 115] ∨ s = [108, 111])) ∨ k = 6) := by
  unfold numOf at h
  cases e : look (tbl k) (if k = 2 then usualS s else s) with
  | some y =>
    rw [e] at h
    injection h with h
    subst h
    have hmem := look_mem e
    have ho := (allT_own _ (tbl_mem k) _ hmem).2.1
    refine ⟨(if k = 2 then usualS s else s), ?_, ?_⟩
    · unfold nameOf; rw [ho]
    · by_cases h2 : k = 2
      · rw [if_pos h2]
        rcases usual_or s with g | g
        · exact .inl g
        · exact .inr (.inl ⟨h2, g⟩)
      · rw [if_neg h2]; exact .inl rfl
  | none =>
    rw [e] at h
    simp only at h
    split at h
    · next h6 =>
      subst h6
      have hl := sysLook_lt h
      unfold nameOf
      cases rlook (tbl 6) (m : Int) with
      | some x => exact ⟨x, rfl, .inr (.inr rfl)⟩
      | none =>
        refine ⟨sysText m, ?_, .inr (.inr rfl)⟩
        simp only [Int.toNat_natCast]
        rw [if_pos ⟨trivial, by omega, by omega⟩]
    · cases h

/-! ### registers -/
theorem reg_own : ∀ m : Nat, m < 128 → ∀ x, regText (regN m) (regX m) (regP m) = some x → look regT x = some m := by
  intro m hm x h
  have hmem : (x, m) ∈ regT := by
    unfold regT
    rw [List.mem_filterMap]
    exact ⟨m, by simp [hm], by rw [h]; rfl⟩
  exact (allT_own _ (by simp [allT]) _ hmem).1
theorem reg_none : ∀ m : Nat, m < 128 → regText (regN m) (regX m) (regP m) = none → rlook regT (m : Int) = none := by decide +kernel
theorem reg_rlook : ∀ m : Nat, m < 128 → rlook regT (m : Int) = regText (regN m) (regX m) (regP m) := by decide +kernel
theorem regT_lt : ∀ r ∈ regT, r.2 < 128 := by decide +kernel
theorem regT_forms : ∀ r ∈ regT, r.1 = [119, 122, 114] ∨ r.1 = [120, 122, 114] ∨ r.1 = [119, 115, 112] ∨ r.1 = [115, 112] ∨ (∃ n, n < 31 ∧ (r.1 = 120 :: dd n ∨ r.1 = 119 :: dd n)) := by decide +kernel
theorem reg_dd : ∀ n : Nat, n < 31 → look regT (120 :: dd n) = some (n + 32) ∧ look regT (119 :: dd n) = some n ∧ regN (n + 32) = n ∧ regN n = n ∧ regX (n + 32) = true ∧ regX n = false ∧ regP (n + 32) = false ∧ regP n = false := by decide +kernel
/-- the number of a register's name, by its letters -/
theorem reg_look {s : List UInt8} (h1 : s ≠ [119, 122, 114]) (h2 : s ≠ [120, 122, 114]) (h3 : s ≠ [119, 115, 112]) (h4 : s ≠ [115, 112])
    (h5 : ∀ n, n < 31 → s ≠ 120 :: dd n ∧ s ≠ 119 :: dd n) : look regT s = none := by
  refine look_no fun r hr e => ?_
  rcases regT_forms r hr with g | g | g | g | ⟨n, hn, g | g⟩
  · exact h1 (e ▸ g)
  · exact h2 (e ▸ g)
  · exact h3 (e ▸ g)
  · exact h4 (e ▸ g)
  · exact (h5 n hn).1 (e ▸ g)
  · exact (h5 n hn).2 (e ▸ g)
theorem reg_num : ∀ m : Nat, m < 128 → regN m + (if regX m = true then 32 else 0) + (if regP m = true then 64 else 0) = (m : Int) := by decide +kernel
end Go.Proofs.YtefglodkcddgiaaDoor
