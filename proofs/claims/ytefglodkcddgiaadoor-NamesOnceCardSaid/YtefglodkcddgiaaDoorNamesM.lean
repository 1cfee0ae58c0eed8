/-
  What each call of systemNumber returns: the number of a form of numbers. Conditions: what the package-level variables hold (Good), and a text of fewer than 2^32 - 15 letters.
-/
import Derived.Test.YtefglodkcddgiaaDoorNamesL
namespace Go.Proofs.YtefglodkcddgiaaDoor
open Go.RowKit Go.Shelf

def letterC (k : Nat) : List UInt8 := if k = 0 then [115] else if k = 2 ∨ k = 3 then [99] else []
def leastC (k : Nat) : Nat := if k = 0 then 2 else 0
def bitsC (k : Nat) : Nat := if k = 0 then 1 else if k = 2 ∨ k = 3 then 4 else 3
/-- what a piece stands for -/
def pieceV (k : Nat) (p : List UInt8) : Option Nat := if Lib.hasPrefix p (letterC k) = true then dig (Lib.trimPrefix p (letterC k)) (leastC k) (leastC k + 2 ^ bitsC k - 1) else none
/-- what the first pieces come to -/
def accP : Nat → List (List UInt8) → Option Nat
  | 0, _ => some 0
  | k + 1, l => match accP k l, l[k]? with
    | some n, some p => (pieceV k p).map fun v => n * 2 ^ bitsC k + (v - leastC k)
    | _, _ => none
theorem cut_yes (c : UInt8) (r : List UInt8) : Lib.hasPrefix (c :: r) [c] = true ∧ Lib.trimPrefix (c :: r) [c] = r := by
  have h : Lib.hasPrefix (c :: r) [c] = true := by simp [Lib.hasPrefix]
  exact ⟨h, by unfold Lib.trimPrefix; rw [if_pos h]; rfl⟩
theorem cut_some {l : List UInt8} {c : UInt8} (h : Lib.hasPrefix l [c] = true) : ∃ r, l = c :: r := by
  cases l with
  | nil => simp [Lib.hasPrefix] at h
  | cons a r =>
    simp only [Lib.hasPrefix, List.isPrefixOf, Bool.and_true, beq_iff_eq] at h
    exact ⟨r, by rw [h]⟩
theorem cut_nil (l : List UInt8) : Lib.hasPrefix l [] = true ∧ Lib.trimPrefix l [] = l := by
  have h : Lib.hasPrefix l [] = true := by simp [Lib.hasPrefix]
  exact ⟨h, by unfold Lib.trimPrefix; rw [if_pos h]; rfl⟩
theorem pieceV0 (r : List UInt8) : pieceV 0 (115 :: r) = dig r 2 3 := by
  unfold pieceV; rw [show letterC 0 = [115] from rfl, if_pos (cut_yes _ _).1, (cut_yes _ _).2]; rfl
theorem pieceV2 (r : List UInt8) : pieceV 2 (99 :: r) = dig r 0 15 := by
  unfold pieceV; rw [show letterC 2 = [99] from rfl, if_pos (cut_yes _ _).1, (cut_yes _ _).2]; rfl
theorem pieceV3 (r : List UInt8) : pieceV 3 (99 :: r) = dig r 0 15 := by
  unfold pieceV; rw [show letterC 3 = [99] from rfl, if_pos (cut_yes _ _).1, (cut_yes _ _).2]; rfl
theorem pieceV1 (r : List UInt8) : pieceV 1 r = dig r 0 7 := by
  unfold pieceV; rw [show letterC 1 = [] from rfl, if_pos (cut_nil _).1, (cut_nil _).2]; rfl
theorem pieceV4 (r : List UInt8) : pieceV 4 r = dig r 0 7 := by
  unfold pieceV; rw [show letterC 4 = [] from rfl, if_pos (cut_nil _).1, (cut_nil _).2]; rfl
theorem pieceV_some {k : Nat} {p : List UInt8} {v : Nat} (h : pieceV k p = some v) : Lib.hasPrefix p (letterC k) = true ∧ dig (Lib.trimPrefix p (letterC k)) (leastC k) (leastC k + 2 ^ bitsC k - 1) = some v := by
  unfold pieceV at h
  split at h
  · exact ⟨‹_›, h⟩
  · cases h
theorem acc5 (p0 p1 p2 p3 p4 : List UInt8) : accP 5 [p0, p1, p2, p3, p4] = (pieceV 0 p0).bind fun a => (pieceV 1 p1).bind fun b => (pieceV 2 p2).bind fun c => (pieceV 3 p3).bind fun d => (pieceV 4 p4).bind fun e => some (sysNum (a - 2) b c d e) := by
  cases h0 : pieceV 0 p0 <;> cases h1 : pieceV 1 p1 <;> cases h2 : pieceV 2 p2 <;> cases h3 : pieceV 3 p3 <;> cases h4 : pieceV 4 p4 <;> simp [accP, h0, h1, h2, h3, h4, sysNum, bitsC, leastC]
theorem sysLook_acc {s : List UInt8} (h : (spl s).length = 5) : sysLook s = accP 5 (spl s) := by
  obtain ⟨p0, p1, p2, p3, p4, hs⟩ : ∃ p0 p1 p2 p3 p4, spl s = [p0, p1, p2, p3, p4] := by
    match hl : spl s, h with
    | [a, b, c, d, e], _ => exact ⟨a, b, c, d, e, rfl⟩
  unfold sysLook
  rw [hs, acc5]
  split
  · next p q r t u heq =>
    simp only [List.cons.injEq, and_true] at heq
    obtain ⟨rfl, rfl, rfl, rfl, rfl⟩ := heq
    rw [pieceV0, pieceV1, pieceV2, pieceV3, pieceV4]
    cases dig p 2 3 <;> cases dig p1 0 7 <;> cases dig r 0 15 <;> cases dig t 0 15 <;> cases dig p4 0 7 <;> rfl
  · next hne =>
    cases h0 : pieceV 0 p0 with
    | none => rfl
    | some a =>
      obtain ⟨q0, rfl⟩ := cut_some (c := 115) (pieceV_some h0).1
      cases h2 : pieceV 2 p2 with
      | none => cases pieceV 1 p1 <;> rfl
      | some c =>
        obtain ⟨q2, rfl⟩ := cut_some (c := 99) (pieceV_some h2).1
        cases h3 : pieceV 3 p3 with
        | none => cases pieceV 1 p1 <;> rfl
        | some d =>
          obtain ⟨q3, rfl⟩ := cut_some (c := 99) (pieceV_some h3).1
          exact absurd rfl (hne _ _ _ _ _)
theorem sysLook_len {s : List UInt8} (h : (spl s).length ≠ 5) : sysLook s = none := by
  unfold sysLook
  split
  · next heq => rw [heq] at h; exact absurd rfl h
  · rfl
theorem accP_step {k : Nat} {l : List (List UInt8)} {n v : Nat} {p : List UInt8} (h : accP k l = some n) (hp : l[k]? = some p) (hv : pieceV k p = some v) : accP (k + 1) l = some (n * 2 ^ bitsC k + (v - leastC k)) := by
  simp only [accP, h, hp, hv, Option.map_some]
theorem accP_stop {k : Nat} {l : List (List UInt8)} {p : List UInt8} (hp : l[k]? = some p) (hv : pieceV k p = none) : accP (k + 1) l = none := by
  simp only [accP, hp]
  cases accP k l with
  | none => rfl
  | some m => simp only [hv]; rfl
theorem accP_none {l : List (List UInt8)} : ∀ (k d : Nat), accP k l = none → accP (k + d) l = none
  | _, 0, h => h
  | k, d + 1, h => by
    have := accP_none k d h
    rw [show k + (d + 1) = (k + d) + 1 by omega]
    simp only [accP, this]
theorem piece_range {k v : Nat} {p : List UInt8} (h : pieceV k p = some v) : leastC k ≤ v ∧ v < leastC k + 2 ^ bitsC k := by
  have := dig_spec (pieceV_some h).2
  have h2 := Nat.two_pow_pos (bitsC k)
  omega
theorem accP_lt : ∀ (k : Nat) {l : List (List UInt8)} {n : Nat}, accP k l = some n → k ≤ 5 → n < 2 ^ ([0, 1, 4, 8, 12, 15].getD k 0)
  | 0, l, n, h, _ => by simp [accP] at h; subst h; decide
  | k + 1, l, n, h, hk => by
    simp only [accP] at h
    split at h
    · next m p h1 h2 =>
      cases hv : pieceV k p with
      | none => rw [hv] at h; cases h
      | some v =>
        rw [hv] at h
        simp only [Option.map_some, Option.some.injEq] at h
        have ih := accP_lt k h1 (by omega)
        have hr := piece_range hv
        rcases (show k = 0 ∨ k = 1 ∨ k = 2 ∨ k = 3 ∨ k = 4 by omega) with rfl | rfl | rfl | rfl | rfl <;> simp [bitsC, leastC] at ih hr h ⊢ <;> omega
    · cases h
end Go.Proofs.YtefglodkcddgiaaDoor
