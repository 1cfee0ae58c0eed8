/-
  Whether names are few; what follows for tables of few names. Conditions: how the argument lies, and the names' sizes.
-/
import Derived.Test.YtbheeahdbimeiaaStbT
namespace Go.Proofs.Ytbheeahdbimeiaa
open Go.RowKit Go.Maps
set_option linter.unusedVariables false
set_option linter.unusedSimpArgs false

/-- so many letters, each name's counted up to 2000 -/
def cnt (l : List BA) : Nat := (l.map fun s => min s.size 2000).sum
def fewB (L : List BA) : Bool := decide (L.length ≤ 100) && decide (cnt (L.take (min L.length 100)) ≤ 2000)
theorem cnt_cons (a : BA) (r : List BA) : cnt (a :: r) = min a.size 2000 + cnt r := by simp [cnt]
theorem cnt_snoc (l : List BA) (a : BA) : cnt (l ++ [a]) = cnt l + min a.size 2000 := by simp [cnt]
theorem cnt_le : ∀ (l : List BA), cnt l ≤ l.length * 2000
  | [] => by simp [cnt]
  | a :: r => by have := cnt_le r; rw [cnt_cons, List.length_cons]; omega
def tot (l : List BA) : Nat := (l.map fun s => s.size).sum
theorem tot_cons (a : BA) (r : List BA) : tot (a :: r) = a.size + tot r := by simp [tot]
theorem tot_zero : ∀ (l : List BA), cnt l = 0 → tot l = 0
  | [], _ => rfl
  | a :: r, h => by
    rw [cnt_cons] at h
    rw [tot_cons, tot_zero r (by omega)]
    omega
theorem tot_le (M : Nat) : ∀ (l : List BA) (c : Nat), cnt l ≤ c → c ≤ 2000 → (∀ x ∈ l, x.size ≤ M) → tot l ≤ c + M
  | [], c, _, _, _ => by simp [tot]
  | a :: r, c, h, hc, hM => by
    rw [cnt_cons] at h
    rw [tot_cons]
    by_cases ha : 2000 ≤ a.size
    · have h0 : cnt r = 0 := by omega
      have := tot_zero r h0
      have := hM a List.mem_cons_self
      omega
    · have := tot_le M r (c - a.size) (by omega) (by omega) (fun x hx => hM x (List.mem_cons_of_mem _ hx))
      omega
theorem sum_tot : ∀ (l : List BA), (l.map fun s => s.size + 1).sum = tot l + l.length
  | [] => rfl
  | a :: r => by rw [List.map_cons, List.sum_cons, sum_tot r, tot_cons, List.length_cons]; omega
theorem nms_sum (l : List BA) : ((nms l).map fun s => s.length + 1).sum = tot l + l.length := by
  rw [← sum_tot]
  unfold nms
  rw [List.map_map]
  congr 1
  refine List.map_congr_left fun s _ => ?_
  simp [nm_len]
theorem nms_take (L : List BA) (i : Nat) : (nms L).take i = nms (L.take i) := by unfold nms; rw [List.map_take]
theorem tot_take (L : List BA) (i : Nat) (hi : i < L.length) : tot (L.take i) + (L.getD i default).size ≤ tot L := by
  have e : L = L.take i ++ L.getD i default :: L.drop (i + 1) := by
    have : L[i]? = some (L.getD i default) := by simp [List.getD, List.getElem?_eq_getElem hi]
    rw [← drop_cons this, List.take_append_drop]
  conv => rhs; rw [e]
  unfold tot
  rw [List.map_append, List.sum_append, List.map_cons, List.sum_cons]
  omega
theorem out_len (L : List BA) (i : Nat) : (outI L i).length ≤ 1 + tot (L.take i) + i := by
  unfold outI
  rw [nms_take]
  have h1 := uniq_len (nms (L.take i))
  rw [nms_sum] at h1
  have h2 : (L.take i).length ≤ i := by rw [List.length_take]; omega
  omega
theorem few_facts {L : List BA} (h : fewB L = true) (hM : ∀ x ∈ L, x.size ≤ 140737488351232) : L.length ≤ 100 ∧ (∀ i, i < L.length → (outI L i).length + (L.getD i default).size + 1 ≤ 140737488355328) ∧ (outI L L.length).length ≤ 140737488355328 := by
  unfold fewB at h
  rw [Bool.and_eq_true, decide_eq_true_eq, decide_eq_true_eq] at h
  obtain ⟨h1, h2⟩ := h
  rw [Nat.min_eq_left h1, List.take_length] at h2
  have h3 := tot_le 140737488351232 L 2000 h2 (Nat.le_refl _) hM
  refine ⟨h1, fun i hi => ?_, ?_⟩
  · have h4 := out_len L i
    have h5 := tot_take L i hi
    omega
  · have h4 := out_len L L.length
    rw [List.take_length] at h4
    omega
set_option maxHeartbeats 2000000 in
theorem few_any (v : Value) (L : List BA) (w : World) (hL : StrO w v L) :
    Calls Try.prog 9 #[v] w fun e w' => e = .returned (.bool (fewB L)) ∧ w = w' := by
  have HL := Lib.hid hL
  obtain ⟨aa, ca, rfl⟩ := hL.slice
  have hlen : L.length ≤ maxLen := by have := RowsO.len hL; rwa [List.length_map] at this
  unfold maxLen at hlen
  have hcap : L.length ≤ ca ∨ L.length = 0 := by have := RowsO.capL hL; omega
  obtain ⟨n, hn⟩ : ∃ n, min L.length 100 = n := ⟨_, rfl⟩
  have hn1 : n ≤ L.length := by omega
  have hn2 : n ≤ 100 := by omega
  have hmin : min (L.length : Int) 100 = (n : Int) := by omega
  have hnc : n ≤ ca := by omega
  have HF := Lib.hid (show fewB L = (decide (L.length ≤ 100) && decide (cnt (L.take n) ≤ 2000)) by unfold fewB; rw [hn])
  generalize fewB L = F at *
  clear hL hn
  go_enter Try.func9, Try.ntmps9
  go_wp2_with fail
  go_loopw [3, 12] (fun sv iv wr => ∃ i : Nat, i ≤ n ∧ sv = .int .i64 ((cnt (L.take i) : Nat) : Int) ∧ iv = .int .i64 (i : Int) ∧ wr = w) (fun sv iv _ => n - (intOf iv).toNat)
  case atStart => exact ⟨0, Nat.zero_le _, rfl, rfl, rfl⟩
  case round =>
    obtain ⟨i, hi, rfl, rfl, rfl⟩ := hrel
    have hc1 := cnt_le (L.take i)
    have hc2 : (L.take i).length ≤ i := by rw [List.length_take]; omega
    have hc3 : cnt (L.take i) ≤ 200000 := by have : (L.take i).length * 2000 ≤ 100 * 2000 := Nat.mul_le_mul_right _ (by omega); omega
    by_cases hlt : (i : Int) < (n : Int)
    · obtain ⟨g, off, cap, x, hx, hv, hg, x0⟩ := HL.out.at (k := i) (by omega)
      cases hv
      have w9 : IntKind.i64.wrap ((i : Int) + 1) = ((i + 1 : Nat) : Int) := by rw [IntWalk.i64_in _ (by omega)]; omega
      have ip : (0 : Int) ≤ (i : Int) := by omega
      have hm : min (x.size : Int) 2000 = ((min x.size 2000 : Nat) : Int) := by omega
      have HC := Lib.hid (show cnt (L.take (i + 1)) = cnt (L.take i) + min x.size 2000 by rw [List.take_add_one, hx]; exact cnt_snoc _ _)
      have hq : min x.size 2000 ≤ 2000 := by omega
      generalize min x.size 2000 = q at *
      have w8 : IntKind.i64.wrap (((cnt (L.take i) : Nat) : Int) + (q : Int)) = ((cnt (L.take i) + q : Nat) : Int) := by rw [IntWalk.i64_in _ (by omega)]; omega
      have hlt3 : ((i : Nat) : Int) < ((L.length : Nat) : Int) := by omega
      clear hx hc1 hc2
      go_wp2_with fail
      go_roundw
      case rel => exact ⟨i + 1, by omega, by rw [HC.out]; first | rfl | rw [← w8], by first | rfl | rw [← w9], by first | rfl | trivial⟩
      case measure => simp [intOf]; omega
    · obtain rfl : i = n := by omega
      clear hc1 hc2
      generalize cnt (L.take i) = C at *
      by_cases h1 : L.length ≤ 100
      · have h1' : ((L.length : Nat) : Int) ≤ 100 := by omega
        have HD := Lib.hid (show F = decide ((C : Int) ≤ 2000) by rw [HF.out, decide_eq_true h1, Bool.true_and]; exact decide_eq_decide.2 (by omega))
        go_wp2_with fail
        go_ret
        exact ⟨ret1b (by rw [HD.out]), rfl⟩
      · have h1' : ¬ ((L.length : Nat) : Int) ≤ 100 := by omega
        have HD := Lib.hid (show F = false by rw [HF.out, decide_eq_false h1]; rfl)
        clear h1
        go_wp2_with fail
        go_ret
        exact ⟨ret1b (by rw [HD.out]), rfl⟩
end Go.Proofs.Ytbheeahdbimeiaa
