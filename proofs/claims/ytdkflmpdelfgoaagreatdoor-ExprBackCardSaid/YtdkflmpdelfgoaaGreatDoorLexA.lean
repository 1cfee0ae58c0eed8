/-
  What each call of the program's small functions on bytes returns: kinds of bytes, how many bytes are of a kind. No conditions beyond those that each lemma states.
-/
import Derived.Test.YtdkflmpdelfgoaaGreatDoorRows
import Derived.Test.YtdkflmpdelfgoaaGreatDoorLexMath
import Derived.WalkKit
import Derived.ProofKit
import Derived.WalkLawsBesides
import Derived.WalkSpells
import Derived.Laws.ShiftsVar
import Derived.Laws.BitsAllLaws
import Derived.Laws.BitsLemmas
import Derived.Deep.RegionWith
import Derived.Deep.RegionHeld3
import Derived.Deep.QuietTactic
import Derived.BigQuiet
import Derived.Lib.Hide
namespace Go.Proofs.YtdkflmpdelfgoaaGreatDoor
open Go.RowKit

theorem Below.thn {B : Nat} {w W w1 : World} (h : Below B w W) (hB : B ≤ W.heap.size) (k : Below W.heap.size W w1) : Below B w w1 := h.trans (k.mono hB)
theorem bcell {W w1 : World} (hb : Below W.heap.size W w1) : (∀ b o, b < W.heap.size → w1.cell? ⟨b, o, none⟩ = W.cell? ⟨b, o, none⟩) ∧ (∀ b o, b < W.heap.size → w1.frozen? ⟨b, o, none⟩ = W.frozen? ⟨b, o, none⟩) :=
  ⟨fun b o h => hb.cell (p := ⟨b, o, none⟩) h, fun b o h => hb.frozen (p := ⟨b, o, none⟩) h⟩
theorem ret1 {k : IntKind} {a b : Int} (h : a = b) : Ending.returned (.int k a) = .returned (.int k b) := by rw [h]
theorem ret1b {a b : Bool} (h : a = b) : Ending.returned (.bool a) = .returned (.bool b) := by rw [h]
theorem ret1s {a b : ByteArray} (h : a = b) : Ending.returned (.string a) = .returned (.string b) := by rw [h]
theorem quiet_eq {P : Program} {f : FuncId} {args : Array Value} {w : World} {n : Nat} {v : Value} (h : Calls P f args (w.drewN n) fun e w' => e = .returned v ∧ w.drewN n = w') :
    Calls P f args (w.drewN n) fun e w'' => e = .returned v ∧ ∃ m, w'' = w.drewN m := Calls.quiet_of_same (h.mono fun _ _ ⟨a, b⟩ => ⟨a, b.symm⟩)
theorem below_drewN {B : Nat} {w w' : World} (h : Below B w w') (n : Nat) : Below B w (w'.drewN n) := by
  induction n with
  | zero => exact h
  | succ n ih => exact ih.drew
theorem bytes_eq {a b : ByteArray} (h : a.data.toList = b.data.toList) : a = b := by
  cases a; cases b; simp only at h; congr; exact Array.ext' h
theorem bytes_mk (s : ByteArray) : (⟨s.data.toList.toArray⟩ : ByteArray) = s := bytes_eq (by simp)
theorem size_list (s : ByteArray) : s.size = s.data.toList.length := (Array.length_toList ..).symm
theorem lit_no {s : ByteArray} {l : List UInt8} (h : s ≠ ⟨l.toArray⟩) : (s.toList == l) = false := by
  rw [beq_eq_false_iff_ne]
  intro e
  exact h (bytes_eq (by rw [← ByteArray.toList_eq]; exact e))
theorem lit_yes (l : List UInt8) : ((⟨l.toArray⟩ : ByteArray).toList == l) = true := by
  rw [beq_iff_eq, ByteArray.toList_eq]
theorem ofInt_i64 (a : Nat) (ha : a < 9223372036854775808) : (BitVec.ofInt 64 (a : Int)).toNat = a := by
  rw [BitVec.ofInt_natCast, BitVec.toNat_ofNat]; exact Nat.mod_eq_of_lt (by omega)
theorem i64_and_nat (a b : Nat) (ha : a < 9223372036854775808) (hb : b < 9223372036854775808) : bits .and .i64 (a : Int) (b : Int) = ((a &&& b : Nat) : Int) := by
  have hx : a &&& b < 2 ^ 63 := Nat.and_lt_two_pow _ (by omega)
  show IntKind.i64.wrap ((BitVec.ofInt 64 (a : Int) &&& BitVec.ofInt 64 (b : Int)).toNat : Int) = _
  rw [BitVec.toNat_and, ofInt_i64 a ha, ofInt_i64 b hb, IntKind.wrap_i64]
  omega

/-- a statement over all bytes -/
theorem all_bytes {p : UInt8 → Prop} (h : ∀ n : Fin 256, p (UInt8.ofNat n.val)) (c : UInt8) : p c := by
  have := h ⟨c.toNat, c.toNat_lt⟩
  rwa [UInt8.ofNat_toNat] at this
/-- the kind of a byte, in the order of the text -/
def classI (n : Int) : Int := if 97 ≤ n ∧ n ≤ 122 then 2 else if 65 ≤ n ∧ n ≤ 90 then 2 else if n = 95 then 2 else if n = 46 then 2 else if n = 36 then 2 else if 48 ≤ n ∧ n ≤ 57 then 4 else if n = 32 then 1 else if n = 9 then 1 else if n = 39 then 8 else if n = 34 then 16 else 32
theorem classI_eq : ∀ c : UInt8, classI (c.toNat : Int) = (classN c : Int) := all_bytes (by decide +kernel)
theorem class_lt : ∀ c : UInt8, classN c < 64 := all_bytes (by decide +kernel)
set_option maxHeartbeats 1000000 in
theorem classOf_any (c : UInt8) (w : World) :
    Calls Tryz.prog 67 #[.int .u8 (c.toNat : Int)] w fun e w' => e = .returned (.int .i64 (classN c : Int)) ∧ w = w' := by
  rw [← classI_eq c]
  have h0 : 0 ≤ (c.toNat : Int) := by omega
  have h1 : (c.toNat : Int) < 256 := by have := c.toNat_lt; omega
  generalize (c.toNat : Int) = n at *
  go_enter Tryz.func67, Tryz.ntmps67
  go_wp2
  all_goals
    go_ret
    exact ⟨ret1 (by unfold classI; simp_all <;> omega), rfl⟩
theorem hasB_int (m : Nat) (c : UInt8) : (((m &&& classN c : Nat) : Int) != 0) = hasB m c := by
  unfold hasB
  rw [Bool.eq_iff_iff]
  simp only [bne_iff_ne, ne_eq]
  omega
set_option maxHeartbeats 1000000 in
theorem has_any (m : Nat) (c : UInt8) (w : World) (hm : m < 64) :
    Calls Tryz.prog 48 #[.int .i64 (m : Int), .int .u8 (c.toNat : Int)] w fun e w' => e = .returned (.bool (hasB m c)) ∧ w = w' := by
  have hc := class_lt c
  have hb := i64_and_nat m (classN c) (by omega) (by omega)
  have C := Lib.hid (fun w => classOf_any c w)
  have R := Lib.hid (hasB_int m c)
  generalize (c.toNat : Int) = n at *
  generalize classN c = k at *
  go_enter Tryz.func48, Tryz.ntmps48
  go_wp2_with fail
  refine (C.out _).mono ?_
  rintro e w' ⟨rfl, rfl⟩
  go_wp2_with fail
  go_ret
  exact ⟨ret1b R.out, rfl⟩
theorem hasB_2 : ∀ c : UInt8, hasB 2 c = isL c := all_bytes (by decide +kernel)
theorem hasB_6 : ∀ c : UInt8, hasB 6 c = isLD c := all_bytes (by decide +kernel)
theorem hasB_1 : ∀ c : UInt8, hasB 1 c = isBl c := all_bytes (by decide +kernel)
theorem hasB_12 : ∀ c : UInt8, hasB 12 c = (isD c || c == 39) := all_bytes (by decide +kernel)
theorem hasB_16 : ∀ c : UInt8, hasB 16 c = (c == 34) := all_bytes (by decide +kernel)
theorem hasB_32 : ∀ c : UInt8, hasB 32 c = !(isLD c || isBl c || c == 39 || c == 34) := all_bytes (by decide +kernel)

theorem stands_int (c a : UInt8) : (decide (32 ≤ (c.toNat : Int)) && decide ((c.toNat : Int) ≤ 126) && ((c.toNat : Int) != 92) && ((c.toNat : Int) != (a.toNat : Int))) = stands c a := by
  unfold stands
  rw [Bool.eq_iff_iff]
  simp only [Bool.and_eq_true, decide_eq_true_eq, bne_iff_ne, UInt8.le_iff_toNat_le, ne_eq, ← UInt8.toNat_inj]
  have e1 : (32 : UInt8).toNat = 32 := rfl
  have e2 : (126 : UInt8).toNat = 126 := rfl
  have e3 : (92 : UInt8).toNat = 92 := rfl
  omega
set_option maxHeartbeats 1000000 in
theorem stands_any (c a : UInt8) (w : World) :
    Calls Tryz.prog 84 #[.int .u8 (c.toNat : Int), .int .u8 (a.toNat : Int)] w fun e w' => e = .returned (.bool (stands c a)) ∧ w = w' := by
  rw [← stands_int c a]
  have h0 : 0 ≤ (c.toNat : Int) := by omega
  have h1 : (c.toNat : Int) < 256 := by have := c.toNat_lt; omega
  generalize (c.toNat : Int) = n at *
  generalize (a.toNat : Int) = m at *
  go_enter Tryz.func84, Tryz.ntmps84
  go_wp2
  all_goals
    go_ret
    exact ⟨ret1b (by simp_all <;> (intros; omega)), rfl⟩

theorem run_take_succ (p : UInt8 → Bool) : ∀ (l : Bs) (k : Nat) (h : k < l.length), k ≤ run p l → p (l[k]) = true → k + 1 ≤ run p l
  | c :: r, 0, _, _, hp => by rw [run_head p (by simpa using hp)]; omega
  | c :: r, k + 1, h, hk, hp => by
    cases hc : p c with
    | false => rw [run_no p hc] at hk; omega
    | true =>
      rw [run_head p hc] at hk ⊢
      have := run_take_succ p r k (by simpa using h) (by omega) (by simpa using hp)
      omega
theorem run_stop (p : UInt8 → Bool) : ∀ (l : Bs) (k : Nat) (h : k < l.length), k ≤ run p l → p (l[k]) = false → run p l = k
  | c :: r, 0, _, _, hp => run_no p (by simpa using hp)
  | c :: r, k + 1, h, hk, hp => by
    cases hc : p c with
    | false => rw [run_no p hc] at hk; omega
    | true =>
      rw [run_head p hc] at hk ⊢
      rw [run_stop p r k (by simpa using h) (by omega) (by simpa using hp)]
theorem get_list {s : ByteArray} {k : Nat} (h : k < s.size) : s[k] = s.data.toList[k]'(by rw [← size_list]; exact h) := by
  show s.data[k] = _
  simp
set_option maxHeartbeats 1000000 in
theorem count_any (m : Nat) (s : ByteArray) (w : World) (hm : m < 64) (hs : s.size ≤ maxLen) :
    Calls Tryz.prog 53 #[.string s, .func (.func 48) #[.int .i64 (m : Int)] #[]] w fun e w' => e = .returned (.int .i64 (run (hasB m) s.data.toList : Int)) ∧ w = w' := by
  unfold maxLen at hs
  have C := Lib.hid (fun c w => has_any m c w hm)
  have hr := run_le (hasB m) s.data.toList
  rw [← size_list] at hr
  have HR := Lib.hid hr
  clear hr
  go_enter Tryz.func53, Tryz.ntmps53
  go_wp2_with fail
  go_loop [8] (fun i => ∃ k : Nat, k ≤ s.size ∧ i = .int .i64 (k : Int) ∧ Hid (k ≤ run (hasB m) s.data.toList)) (fun i => s.size - (intOf i).toNat)
  case atStart => exact ⟨0, Nat.zero_le _, rfl, Lib.hid (Nat.zero_le _)⟩
  case round =>
    obtain ⟨k, hk, rfl, hrun⟩ := hrel
    by_cases hlt : k < s.size
    · have w9 : IntKind.i64.wrap ((k : Int) + 1) = ((k + 1 : Nat) : Int) := by rw [IntWalk.i64_in _ (by omega)]; omega
      cases hp : hasB m s[k] with
      | false =>
        have HS := Lib.hid (run_stop (hasB m) s.data.toList k (by rw [← size_list]; exact hlt) hrun.out (by rw [← get_list hlt]; exact hp))
        have CC := Lib.hid (fun w => (C.out s[k] w))
        rw [hp] at CC
        clear hp
        go_wp2_with fail
        refine (CC.out _).mono ?_
        rintro e w' ⟨rfl, rfl⟩
        go_wp2_with fail
        go_ret
        exact ⟨ret1 (by rw [HS.out]), rfl⟩
      | true =>
        have HS := Lib.hid (run_take_succ (hasB m) s.data.toList k (by rw [← size_list]; exact hlt) hrun.out (by rw [← get_list hlt]; exact hp))
        have CC := Lib.hid (fun w => (C.out s[k] w))
        rw [hp] at CC
        clear hp
        go_wp2_with fail
        refine (CC.out _).mono ?_
        rintro e w' ⟨rfl, rfl⟩
        go_wp2_with fail
        go_round
        case rel => exact ⟨k + 1, by omega, by first | rfl | rw [← w9], HS⟩
        case measure => simp [intOf]; omega
    · have HS := Lib.hid (show run (hasB m) s.data.toList = s.size by have := HR.out; have := hrun.out; omega)
      go_wp2_with fail
      go_ret
      exact ⟨ret1 (by rw [HS.out]), rfl⟩
end Go.Proofs.YtdkflmpdelfgoaaGreatDoor
namespace Go.Proofs.YtdkflmpdelfgoaaGreatDoor
open Go.RowKit

theorem head_byte {s : ByteArray} {c : UInt8} {r : List UInt8} (h : s.data.toList = c :: r) : ∃ h0 : 0 < s.size, s[0]'h0 = c := by
  have h0 : 0 < s.size := by rw [size_list, h]; simp
  exact ⟨h0, by rw [get_list h0]; simp [h]⟩
theorem empty_yes {s : ByteArray} (h : s.data.toList = []) : s = ⟨#[]⟩ := bytes_eq h
theorem empty_no {s : ByteArray} {c : UInt8} {r : List UInt8} (h : s.data.toList = c :: r) : (s.toList == []) = false ∧ (s.toList != []) = true ∧ s.toList.isEmpty = false := by
  rw [ByteArray.toList_eq, h]; exact ⟨rfl, rfl, rfl⟩
theorem run_all (p : UInt8 → Bool) : ∀ l : Bs, (run p l = l.length) ↔ l.all p = true
  | [] => by simp [run]
  | c :: r => by
    cases h : p c with
    | false => rw [run_no p h]; simp [h]
    | true => rw [run_head p h]; simp [h, run_all p r]
theorem nameB_run (c : UInt8) (r : Bs) : nameB (c :: r) = (isL c && decide (run isLD (c :: r) = (c :: r).length)) := by
  have e : nameB (c :: r) = (isL c && r.all isLD) := rfl
  rw [e]
  cases h : isL c with
  | false => simp
  | true =>
    have hl : isLD c = true := by simp [isLD, h]
    rw [Bool.eq_iff_iff]
    simp only [Bool.true_and, decide_eq_true_eq, run_all, List.all_cons, hl]
set_option maxHeartbeats 1000000 in
theorem name_any (s : ByteArray) (w : World) (hs : s.size ≤ maxLen) :
    Calls Tryz.prog 57 #[.string s] w fun e w' => e = .returned (.bool (nameB s.data.toList)) ∧ w = w' := by
  cases hl : s.data.toList with
  | nil =>
    obtain rfl := empty_yes hl
    go_enter Tryz.func57, Tryz.ntmps57
    go_wp2
    go_ret
    exact ⟨rfl, rfl⟩
  | cons c r =>
    obtain ⟨h0, gx⟩ := head_byte hl
    obtain ⟨g1, g2, g3⟩ := empty_no hl
    have h0' : 0 < (s.size : Int) := by omega
    have H := Lib.hid (fun w => has_any 2 c w (by decide))
    have K := Lib.hid (fun w => count_any 6 s w (by decide) hs)
    rw [hasB_2] at H
    rw [show hasB 6 = isLD from funext hasB_6, hl] at K
    have R := Lib.hid (nameB_run c r)
    have Z := Lib.hid (show (c :: r).length = s.size by rw [size_list, hl])
    generalize run isLD (c :: r) = n at *
    generalize nameB (c :: r) = b at *
    unfold maxLen at hs
    clear hl
    cases hc : isL c with
    | false =>
      rw [hc] at H R
      clear hc
      go_enter Tryz.func57, Tryz.ntmps57
      go_wp2_with fail
      refine (H.out _).mono ?_
      rintro e w' ⟨rfl, rfl⟩
      go_wp2_with fail
      go_ret
      exact ⟨ret1b (by rw [R.out]; rfl), rfl⟩
    | true =>
      rw [hc] at H R
      clear hc
      go_enter Tryz.func57, Tryz.ntmps57
      go_wp2_with fail
      refine (H.out _).mono ?_
      rintro e w' ⟨rfl, rfl⟩
      go_wp2_with fail
      refine (K.out _).mono ?_
      rintro e w' ⟨rfl, rfl⟩
      go_wp2_with fail
      go_ret
      exact ⟨ret1b (by rw [R.out, Z.out, Bool.true_and, Bool.eq_iff_iff]; simp; omega), rfl⟩

theorem below1 (w : World) (o : Obj) : Below w.heap.size w (w.alloc o) := (Below.refl _ _).alloc (Nat.le_refl _) _
end Go.Proofs.YtdkflmpdelfgoaaGreatDoor
namespace Go.Proofs.YtdkflmpdelfgoaaGreatDoor
open Go.RowKit

def wordy (k : Int) : Bool := k == 1 || k == 2
def partedB (ka : Int) (ta : Bs) (kb : Int) (tb : Bs) : Bool := wordy ka && wordy kb || (ta == [47] && tb == [47] && ka == 4 && kb == 4)
theorem slash_int (t : ByteArray) : (t.toList == [47]) = (t.data.toList == [47]) := by rw [ByteArray.toList_eq]
end Go.Proofs.YtdkflmpdelfgoaaGreatDoor
