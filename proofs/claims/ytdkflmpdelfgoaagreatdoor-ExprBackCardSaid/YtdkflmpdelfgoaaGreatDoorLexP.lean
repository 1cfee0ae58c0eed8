/-
  What each call of skipped, kinds and piece returns. Conditions: what the variables of the library hold (Good), and the sizes that each lemma states.
-/
import Derived.Test.YtdkflmpdelfgoaaGreatDoorLexO
import Derived.Laws.EntriesVeiled
namespace Go.Proofs.YtdkflmpdelfgoaaGreatDoor
open Go.RowKit

set_option maxHeartbeats 2000000 in
theorem skipped_any (s : ByteArray) (w : World) (hs : s.size ≤ 281474976710656) :
    Calls Tryz.prog 33 #[.string s] w fun e w' => e = .returned (.int .i64 (skipB s.data.toList : Int)) ∧ w = w' := by
  have K := Lib.hid (fun w => count_any 1 s w (by decide) (by unfold maxLen; omega))
  rw [show hasB 1 = isBl from funext hasB_1] at K
  have hn := run_le isBl s.data.toList
  rw [← size_list] at hn
  have HP := fun w => Tryz.strings_HasPrefix (s.extract (run isBl s.data.toList) s.size) ⟨#[47, 47]⟩ w
  rw [show (⟨#[47, 47]⟩ : ByteArray).data.toList = [47, 47] from rfl, list_drop rfl, hasPrefix_two] at HP
  have E : skipB s.data.toList = if (s.data.toList.drop (run isBl s.data.toList)).take 2 = [47, 47] then s.size else run isBl s.data.toList := by unfold skipB; rw [size_list]
  generalize skipB s.data.toList = y at *
  generalize run isBl s.data.toList = n at *
  have hn' : (n : Int) ≤ (s.size : Int) := by omega
  by_cases h2 : (s.data.toList.drop n).take 2 = [47, 47]
  · rw [if_pos h2] at E
    rw [decide_eq_true h2] at HP
    have H := Lib.hid HP
    have HE := Lib.hid E
    clear HP E h2 hs
    go_enter Tryz.func33, Tryz.ntmps33
    go_wp2_with fail
    refine (K.out _).mono ?_
    rintro e w' ⟨rfl, rfl⟩
    go_wp2_with fail
    refine (H.out _).mono ?_
    rintro e w' ⟨rfl, rfl⟩
    go_wp2_with fail
    go_ret
    exact ⟨ret1 (by rw [HE.out]), rfl⟩
  · rw [if_neg h2] at E
    rw [decide_eq_false h2] at HP
    have H := Lib.hid HP
    have HE := Lib.hid E
    clear HP E h2 hs
    go_enter Tryz.func33, Tryz.ntmps33
    go_wp2_with fail
    refine (K.out _).mono ?_
    rintro e w' ⟨rfl, rfl⟩
    go_wp2_with fail
    refine (H.out _).mono ?_
    rintro e w' ⟨rfl, rfl⟩
    go_wp2_with fail
    go_ret
    exact ⟨ret1 (by rw [HE.out]), rfl⟩

/-- the four kinds of pieces -/
def kdsC : Array Value := #[.func (.func 48) #[.int .i64 2] #[], .func (.func 49) #[] #[], .func (.func 48) #[.int .i64 12] #[], .func (.func 50) #[] #[], .func (.func 48) #[.int .i64 16] #[], .func (.func 51) #[] #[], .func (.func 48) #[.int .i64 32] #[], .func (.func 52) #[] #[]]
set_option maxRecDepth 100000 in
theorem kinds_any (w : World) :
    Calls Tryz.prog 32 #[] w fun e w' => e = .returned (.slice (some ⟨w.heap.size, 0, none⟩) 4 4) ∧ w' = w.alloc (.cells kdsC 110) := by
  go_enter Tryz.func32, Tryz.ntmps32
  go_wp2
  go_ret
  exact ⟨rfl, rfl⟩
def KdsAt (b : Nat) (w : World) : Prop := ∀ (j : Nat) v, kdsC[j]? = some v → w.cell? ⟨b, j, none⟩ = some v

theorem pcout_val {o : Option (Int × Bs × Nat × Nat)} {err : Int} {e : Ending} (h : PcOut o err e) : ∃ (k : Int) (t : Bs) (n p z x : Int), e = .returned (pcV k t n p z x) := by
  rcases h with ⟨k, t, n, z, _, rfl⟩ | ⟨_, rfl⟩
  · exact ⟨k, t, n, 0, z, 0, rfl⟩
  · exact ⟨0, [], 0, 0, 0, err, rfl⟩
theorem numpc_out {s : Bs} {e : Ending} (h : NumPc s e) : PcOut ((numB s).map fun x => (2, [], x.1, x.2)) 81 e := by
  rcases h with ⟨v, n, h1, rfl⟩ | ⟨h1, rfl⟩
  · rw [h1]; exact .inl ⟨2, [], v, n, rfl, rfl⟩
  · rw [h1]; exact .inr ⟨rfl, rfl⟩
theorem kd_facts {b : Nat} {w : World} (hK : KdsAt b w) :
    (w.cell? ⟨b, 0, none⟩ = some (.func (.func 48) #[.int .i64 2] #[]) ∧ w.cell? ⟨b, 1, none⟩ = some (.func (.func 49) #[] #[])) ∧
    (w.cell? ⟨b, 2, none⟩ = some (.func (.func 48) #[.int .i64 12] #[]) ∧ w.cell? ⟨b, 3, none⟩ = some (.func (.func 50) #[] #[])) ∧
    (w.cell? ⟨b, 4, none⟩ = some (.func (.func 48) #[.int .i64 16] #[]) ∧ w.cell? ⟨b, 5, none⟩ = some (.func (.func 51) #[] #[])) ∧
    (w.cell? ⟨b, 6, none⟩ = some (.func (.func 48) #[.int .i64 32] #[]) ∧ w.cell? ⟨b, 7, none⟩ = some (.func (.func 52) #[] #[])) :=
  ⟨⟨hK 0 _ rfl, hK 1 _ rfl⟩, ⟨hK 2 _ rfl, hK 3 _ rfl⟩, ⟨hK 4 _ rfl, hK 5 _ rfl⟩, ⟨hK 6 _ rfl, hK 7 _ rfl⟩⟩
theorem has_at (m : Nat) (hm : m < 64) (c : UInt8) (x : Bool) (h : hasB m c = x) (w : World) : Calls Tryz.prog 48 #[.int .i64 (m : Int), .int .u8 (c.toNat : Int)] w fun e w' => e = .returned (.bool x) ∧ w = w' := h ▸ has_any m c w hm

set_option maxRecDepth 100000 in
set_option maxHeartbeats 8000000 in
theorem piece_name (s : ByteArray) (c : UInt8) (r : Bs) (b : Nat) (o : Option (Int × Bs × Nat × Nat)) (err : Int) (w : World) (hl : s.data.toList = c :: r) (hb : b < w.heap.size) (hK : KdsAt b w) (h0 : hasB 2 c = true) (N : ∀ w1, Below w.heap.size w w1 → Calls Tryz.prog 49 #[.string s] w1 fun e w' => PcOut o err e ∧ Below w1.heap.size w1 w') :
    Calls Tryz.prog 34 #[.string s, .slice (some ⟨b, 0, none⟩) 4 4] w fun e w' => PcOut o err e ∧ Below w.heap.size w w' := by
  obtain ⟨⟨c0, c1⟩, ⟨c2, c3⟩, ⟨c4, c5⟩, ⟨c6, c7⟩⟩ := kd_facts hK
  obtain ⟨h00, gx⟩ := head_byte hl
  have h00' : 0 < (s.size : Int) := by omega
  have hb1 : b < w.heap.size + 1 := by omega
  have hb2 : b < w.heap.size + 1 + 1 := by omega
  have hb3 : b < w.heap.size + 1 + 1 + 1 := by omega
  have hb4 : b < w.heap.size + 1 + 1 + 1 + 1 := by omega
  have H0 := Lib.hid (has_at 2 (by decide) c _ h0)
  have NH := Lib.hid N
  clear hK hl h0 N
  go_enter Tryz.func34, Tryz.ntmps34
  go_wp2_with fail
  refine wp_loop_rounds 1 ?_
  rw [rounds_succ]
  go_wp2_with fail
  go_quiet ((exact quiet_eq (H0.out _)))
  go_wp2_with fail
  refine (NH.out _ (by repeat (first | exact Below.refl _ _ | refine below_drewN ?_ _ | refine Below.alloc ?_ (by simp <;> omega) _))).mono ?_
  rintro e w1 ⟨ho, hbw⟩
  obtain ⟨k, tt, n, p, z, x, rfl⟩ := pcout_val ho
  have HB1 := Lib.hid (Below.thn (B := w.heap.size) (w := w) (by repeat (first | exact Below.refl _ _ | refine below_drewN ?_ _ | refine Below.alloc ?_ (by simp <;> omega) _)) (by simp <;> omega) hbw)
  have HP : w1.heap[w.heap.size]? = some (.cells #[.int .i64 0, .string ⟨#[]⟩, .int .u64 0, .int .i64 0, .int .i64 0, .int .i64 0] 64 (0, 0)) :=
    ((Below.thn (B := w.heap.size + 1) (w := w.alloc (.cells #[.int .i64 0, .string ⟨#[]⟩, .int .u64 0, .int .i64 0, .int .i64 0, .int .i64 0] 64)) (by repeat (first | exact Below.refl _ _ | refine below_drewN ?_ _ | refine Below.alloc ?_ (by simp <;> omega) _)) (by simp <;> omega) hbw).block w.heap.size (by omega)).trans (heap_alloc_new w _)
  have e0 : w1.cell? ⟨w.heap.size, 0, none⟩ = some (.int .i64 0) := by rw [Lib.cell_of_heap HP]; rfl
  have e1 : w1.cell? ⟨w.heap.size, 1, none⟩ = some (.string ⟨#[]⟩) := by rw [Lib.cell_of_heap HP]; rfl
  have e2 : w1.cell? ⟨w.heap.size, 2, none⟩ = some (.int .u64 0) := by rw [Lib.cell_of_heap HP]; rfl
  have e3 : w1.cell? ⟨w.heap.size, 3, none⟩ = some (.int .i64 0) := by rw [Lib.cell_of_heap HP]; rfl
  have e4 : w1.cell? ⟨w.heap.size, 4, none⟩ = some (.int .i64 0) := by rw [Lib.cell_of_heap HP]; rfl
  have e5 : w1.cell? ⟨w.heap.size, 5, none⟩ = some (.int .i64 0) := by rw [Lib.cell_of_heap HP]; rfl
  have ff : ∀ o, w1.frozen? ⟨w.heap.size, o, none⟩ = false := fun o => Lib.frozen_of_heap HP o
  obtain ⟨D, hD⟩ : ∃ D, (⟨tt.toArray⟩ : ByteArray) = D := ⟨_, rfl⟩
  unfold pcV at ho ⊢
  rw [hD] at ho ⊢
  have HO := Lib.hid ho
  clear ho hbw hD HP
  go_wp2_with fail
  exact bodyPost_ret (v := .agg #[.int .i64 k, .string D, .int .u64 n, .int .i64 p, .int .i64 z, .int .i64 x]) (by simp [results, Tryz.results34, e0, e1, e2, e3, e4, e5, go_sem]) rfl ⟨HO.out, below_set6 HB1.out (Nat.le_refl _) _ _ _ _ _ _⟩

set_option maxRecDepth 100000 in
set_option maxHeartbeats 8000000 in
theorem piece_number (s : ByteArray) (c : UInt8) (r : Bs) (b : Nat) (o : Option (Int × Bs × Nat × Nat)) (err : Int) (w : World) (hl : s.data.toList = c :: r) (hb : b < w.heap.size) (hK : KdsAt b w) (h0 : hasB 2 c = false) (h1 : hasB 12 c = true) (N : ∀ w1, Below w.heap.size w w1 → Calls Tryz.prog 50 #[.string s] w1 fun e w' => PcOut o err e ∧ Below w1.heap.size w1 w') :
    Calls Tryz.prog 34 #[.string s, .slice (some ⟨b, 0, none⟩) 4 4] w fun e w' => PcOut o err e ∧ Below w.heap.size w w' := by
  obtain ⟨⟨c0, c1⟩, ⟨c2, c3⟩, ⟨c4, c5⟩, ⟨c6, c7⟩⟩ := kd_facts hK
  obtain ⟨h00, gx⟩ := head_byte hl
  have h00' : 0 < (s.size : Int) := by omega
  have hb1 : b < w.heap.size + 1 := by omega
  have hb2 : b < w.heap.size + 1 + 1 := by omega
  have hb3 : b < w.heap.size + 1 + 1 + 1 := by omega
  have hb4 : b < w.heap.size + 1 + 1 + 1 + 1 := by omega
  have H0 := Lib.hid (has_at 2 (by decide) c _ h0)
  have H1 := Lib.hid (has_at 12 (by decide) c _ h1)
  have NH := Lib.hid N
  clear hK hl h0 h1 N
  go_enter Tryz.func34, Tryz.ntmps34
  go_wp2_with fail
  refine wp_loop_rounds 2 ?_
  rw [rounds_succ]
  go_wp2_with fail
  go_quiet ((exact quiet_eq (H0.out _)))
  go_wp2_with fail
  rw [rounds_succ]
  go_wp2_with fail
  go_quiet ((exact quiet_eq (H1.out _)))
  go_wp2_with fail
  refine (NH.out _ (by repeat (first | exact Below.refl _ _ | refine below_drewN ?_ _ | refine Below.alloc ?_ (by simp <;> omega) _))).mono ?_
  rintro e w1 ⟨ho, hbw⟩
  obtain ⟨k, tt, n, p, z, x, rfl⟩ := pcout_val ho
  have HB1 := Lib.hid (Below.thn (B := w.heap.size) (w := w) (by repeat (first | exact Below.refl _ _ | refine below_drewN ?_ _ | refine Below.alloc ?_ (by simp <;> omega) _)) (by simp <;> omega) hbw)
  have HP : w1.heap[w.heap.size]? = some (.cells #[.int .i64 0, .string ⟨#[]⟩, .int .u64 0, .int .i64 0, .int .i64 0, .int .i64 0] 64 (0, 0)) :=
    ((Below.thn (B := w.heap.size + 1) (w := w.alloc (.cells #[.int .i64 0, .string ⟨#[]⟩, .int .u64 0, .int .i64 0, .int .i64 0, .int .i64 0] 64)) (by repeat (first | exact Below.refl _ _ | refine below_drewN ?_ _ | refine Below.alloc ?_ (by simp <;> omega) _)) (by simp <;> omega) hbw).block w.heap.size (by omega)).trans (heap_alloc_new w _)
  have e0 : w1.cell? ⟨w.heap.size, 0, none⟩ = some (.int .i64 0) := by rw [Lib.cell_of_heap HP]; rfl
  have e1 : w1.cell? ⟨w.heap.size, 1, none⟩ = some (.string ⟨#[]⟩) := by rw [Lib.cell_of_heap HP]; rfl
  have e2 : w1.cell? ⟨w.heap.size, 2, none⟩ = some (.int .u64 0) := by rw [Lib.cell_of_heap HP]; rfl
  have e3 : w1.cell? ⟨w.heap.size, 3, none⟩ = some (.int .i64 0) := by rw [Lib.cell_of_heap HP]; rfl
  have e4 : w1.cell? ⟨w.heap.size, 4, none⟩ = some (.int .i64 0) := by rw [Lib.cell_of_heap HP]; rfl
  have e5 : w1.cell? ⟨w.heap.size, 5, none⟩ = some (.int .i64 0) := by rw [Lib.cell_of_heap HP]; rfl
  have ff : ∀ o, w1.frozen? ⟨w.heap.size, o, none⟩ = false := fun o => Lib.frozen_of_heap HP o
  obtain ⟨D, hD⟩ : ∃ D, (⟨tt.toArray⟩ : ByteArray) = D := ⟨_, rfl⟩
  unfold pcV at ho ⊢
  rw [hD] at ho ⊢
  have HO := Lib.hid ho
  clear ho hbw hD HP
  go_wp2_with fail
  exact bodyPost_ret (v := .agg #[.int .i64 k, .string D, .int .u64 n, .int .i64 p, .int .i64 z, .int .i64 x]) (by simp [results, Tryz.results34, e0, e1, e2, e3, e4, e5, go_sem]) rfl ⟨HO.out, below_set6 HB1.out (Nat.le_refl _) _ _ _ _ _ _⟩

set_option maxRecDepth 100000 in
set_option maxHeartbeats 8000000 in
theorem piece_quotes (s : ByteArray) (c : UInt8) (r : Bs) (b : Nat) (o : Option (Int × Bs × Nat × Nat)) (err : Int) (w : World) (hl : s.data.toList = c :: r) (hb : b < w.heap.size) (hK : KdsAt b w) (h0 : hasB 2 c = false) (h1 : hasB 12 c = false) (h2 : hasB 16 c = true) (N : ∀ w1, Below w.heap.size w w1 → Calls Tryz.prog 51 #[.string s] w1 fun e w' => PcOut o err e ∧ Below w1.heap.size w1 w') :
    Calls Tryz.prog 34 #[.string s, .slice (some ⟨b, 0, none⟩) 4 4] w fun e w' => PcOut o err e ∧ Below w.heap.size w w' := by
  obtain ⟨⟨c0, c1⟩, ⟨c2, c3⟩, ⟨c4, c5⟩, ⟨c6, c7⟩⟩ := kd_facts hK
  obtain ⟨h00, gx⟩ := head_byte hl
  have h00' : 0 < (s.size : Int) := by omega
  have hb1 : b < w.heap.size + 1 := by omega
  have hb2 : b < w.heap.size + 1 + 1 := by omega
  have hb3 : b < w.heap.size + 1 + 1 + 1 := by omega
  have hb4 : b < w.heap.size + 1 + 1 + 1 + 1 := by omega
  have H0 := Lib.hid (has_at 2 (by decide) c _ h0)
  have H1 := Lib.hid (has_at 12 (by decide) c _ h1)
  have H2 := Lib.hid (has_at 16 (by decide) c _ h2)
  have NH := Lib.hid N
  clear hK hl h0 h1 h2 N
  go_enter Tryz.func34, Tryz.ntmps34
  go_wp2_with fail
  refine wp_loop_rounds 3 ?_
  rw [rounds_succ]
  go_wp2_with fail
  go_quiet ((exact quiet_eq (H0.out _)))
  go_wp2_with fail
  rw [rounds_succ]
  go_wp2_with fail
  go_quiet ((exact quiet_eq (H1.out _)))
  go_wp2_with fail
  rw [rounds_succ]
  go_wp2_with fail
  go_quiet ((exact quiet_eq (H2.out _)))
  go_wp2_with fail
  refine (NH.out _ (by repeat (first | exact Below.refl _ _ | refine below_drewN ?_ _ | refine Below.alloc ?_ (by simp <;> omega) _))).mono ?_
  rintro e w1 ⟨ho, hbw⟩
  obtain ⟨k, tt, n, p, z, x, rfl⟩ := pcout_val ho
  have HB1 := Lib.hid (Below.thn (B := w.heap.size) (w := w) (by repeat (first | exact Below.refl _ _ | refine below_drewN ?_ _ | refine Below.alloc ?_ (by simp <;> omega) _)) (by simp <;> omega) hbw)
  have HP : w1.heap[w.heap.size]? = some (.cells #[.int .i64 0, .string ⟨#[]⟩, .int .u64 0, .int .i64 0, .int .i64 0, .int .i64 0] 64 (0, 0)) :=
    ((Below.thn (B := w.heap.size + 1) (w := w.alloc (.cells #[.int .i64 0, .string ⟨#[]⟩, .int .u64 0, .int .i64 0, .int .i64 0, .int .i64 0] 64)) (by repeat (first | exact Below.refl _ _ | refine below_drewN ?_ _ | refine Below.alloc ?_ (by simp <;> omega) _)) (by simp <;> omega) hbw).block w.heap.size (by omega)).trans (heap_alloc_new w _)
  have e0 : w1.cell? ⟨w.heap.size, 0, none⟩ = some (.int .i64 0) := by rw [Lib.cell_of_heap HP]; rfl
  have e1 : w1.cell? ⟨w.heap.size, 1, none⟩ = some (.string ⟨#[]⟩) := by rw [Lib.cell_of_heap HP]; rfl
  have e2 : w1.cell? ⟨w.heap.size, 2, none⟩ = some (.int .u64 0) := by rw [Lib.cell_of_heap HP]; rfl
  have e3 : w1.cell? ⟨w.heap.size, 3, none⟩ = some (.int .i64 0) := by rw [Lib.cell_of_heap HP]; rfl
  have e4 : w1.cell? ⟨w.heap.size, 4, none⟩ = some (.int .i64 0) := by rw [Lib.cell_of_heap HP]; rfl
  have e5 : w1.cell? ⟨w.heap.size, 5, none⟩ = some (.int .i64 0) := by rw [Lib.cell_of_heap HP]; rfl
  have ff : ∀ o, w1.frozen? ⟨w.heap.size, o, none⟩ = false := fun o => Lib.frozen_of_heap HP o
  obtain ⟨D, hD⟩ : ∃ D, (⟨tt.toArray⟩ : ByteArray) = D := ⟨_, rfl⟩
  unfold pcV at ho ⊢
  rw [hD] at ho ⊢
  have HO := Lib.hid ho
  clear ho hbw hD HP
  go_wp2_with fail
  exact bodyPost_ret (v := .agg #[.int .i64 k, .string D, .int .u64 n, .int .i64 p, .int .i64 z, .int .i64 x]) (by simp [results, Tryz.results34, e0, e1, e2, e3, e4, e5, go_sem]) rfl ⟨HO.out, below_set6 HB1.out (Nat.le_refl _) _ _ _ _ _ _⟩

set_option maxRecDepth 100000 in
set_option maxHeartbeats 8000000 in
theorem piece_sign (s : ByteArray) (c : UInt8) (r : Bs) (b : Nat) (o : Option (Int × Bs × Nat × Nat)) (err : Int) (w : World) (hl : s.data.toList = c :: r) (hb : b < w.heap.size) (hK : KdsAt b w) (h0 : hasB 2 c = false) (h1 : hasB 12 c = false) (h2 : hasB 16 c = false) (h3 : hasB 32 c = true) (N : ∀ w1, Below w.heap.size w w1 → Calls Tryz.prog 52 #[.string s] w1 fun e w' => PcOut o err e ∧ Below w1.heap.size w1 w') :
    Calls Tryz.prog 34 #[.string s, .slice (some ⟨b, 0, none⟩) 4 4] w fun e w' => PcOut o err e ∧ Below w.heap.size w w' := by
  obtain ⟨⟨c0, c1⟩, ⟨c2, c3⟩, ⟨c4, c5⟩, ⟨c6, c7⟩⟩ := kd_facts hK
  obtain ⟨h00, gx⟩ := head_byte hl
  have h00' : 0 < (s.size : Int) := by omega
  have hb1 : b < w.heap.size + 1 := by omega
  have hb2 : b < w.heap.size + 1 + 1 := by omega
  have hb3 : b < w.heap.size + 1 + 1 + 1 := by omega
  have hb4 : b < w.heap.size + 1 + 1 + 1 + 1 := by omega
  have H0 := Lib.hid (has_at 2 (by decide) c _ h0)
  have H1 := Lib.hid (has_at 12 (by decide) c _ h1)
  have H2 := Lib.hid (has_at 16 (by decide) c _ h2)
  have H3 := Lib.hid (has_at 32 (by decide) c _ h3)
  have NH := Lib.hid N
  clear hK hl h0 h1 h2 h3 N
  go_enter Tryz.func34, Tryz.ntmps34
  go_wp2_with fail
  refine wp_loop_rounds 4 ?_
  rw [rounds_succ]
  go_wp2_with fail
  go_quiet ((exact quiet_eq (H0.out _)))
  go_wp2_with fail
  rw [rounds_succ]
  go_wp2_with fail
  go_quiet ((exact quiet_eq (H1.out _)))
  go_wp2_with fail
  rw [rounds_succ]
  go_wp2_with fail
  go_quiet ((exact quiet_eq (H2.out _)))
  go_wp2_with fail
  rw [rounds_succ]
  go_wp2_with fail
  go_quiet ((exact quiet_eq (H3.out _)))
  go_wp2_with fail
  refine (NH.out _ (by repeat (first | exact Below.refl _ _ | refine below_drewN ?_ _ | refine Below.alloc ?_ (by simp <;> omega) _))).mono ?_
  rintro e w1 ⟨ho, hbw⟩
  obtain ⟨k, tt, n, p, z, x, rfl⟩ := pcout_val ho
  have HB1 := Lib.hid (Below.thn (B := w.heap.size) (w := w) (by repeat (first | exact Below.refl _ _ | refine below_drewN ?_ _ | refine Below.alloc ?_ (by simp <;> omega) _)) (by simp <;> omega) hbw)
  have HP : w1.heap[w.heap.size]? = some (.cells #[.int .i64 0, .string ⟨#[]⟩, .int .u64 0, .int .i64 0, .int .i64 0, .int .i64 0] 64 (0, 0)) :=
    ((Below.thn (B := w.heap.size + 1) (w := w.alloc (.cells #[.int .i64 0, .string ⟨#[]⟩, .int .u64 0, .int .i64 0, .int .i64 0, .int .i64 0] 64)) (by repeat (first | exact Below.refl _ _ | refine below_drewN ?_ _ | refine Below.alloc ?_ (by simp <;> omega) _)) (by simp <;> omega) hbw).block w.heap.size (by omega)).trans (heap_alloc_new w _)
  have e0 : w1.cell? ⟨w.heap.size, 0, none⟩ = some (.int .i64 0) := by rw [Lib.cell_of_heap HP]; rfl
  have e1 : w1.cell? ⟨w.heap.size, 1, none⟩ = some (.string ⟨#[]⟩) := by rw [Lib.cell_of_heap HP]; rfl
  have e2 : w1.cell? ⟨w.heap.size, 2, none⟩ = some (.int .u64 0) := by rw [Lib.cell_of_heap HP]; rfl
  have e3 : w1.cell? ⟨w.heap.size, 3, none⟩ = some (.int .i64 0) := by rw [Lib.cell_of_heap HP]; rfl
  have e4 : w1.cell? ⟨w.heap.size, 4, none⟩ = some (.int .i64 0) := by rw [Lib.cell_of_heap HP]; rfl
  have e5 : w1.cell? ⟨w.heap.size, 5, none⟩ = some (.int .i64 0) := by rw [Lib.cell_of_heap HP]; rfl
  have ff : ∀ o, w1.frozen? ⟨w.heap.size, o, none⟩ = false := fun o => Lib.frozen_of_heap HP o
  obtain ⟨D, hD⟩ : ∃ D, (⟨tt.toArray⟩ : ByteArray) = D := ⟨_, rfl⟩
  unfold pcV at ho ⊢
  rw [hD] at ho ⊢
  have HO := Lib.hid ho
  clear ho hbw hD HP
  go_wp2_with fail
  exact bodyPost_ret (v := .agg #[.int .i64 k, .string D, .int .u64 n, .int .i64 p, .int .i64 z, .int .i64 x]) (by simp [results, Tryz.results34, e0, e1, e2, e3, e4, e5, go_sem]) rfl ⟨HO.out, below_set6 HB1.out (Nat.le_refl _) _ _ _ _ _ _⟩

set_option maxRecDepth 100000 in
set_option maxHeartbeats 8000000 in
theorem piece_none (s : ByteArray) (c : UInt8) (r : Bs) (b : Nat) (w : World) (hl : s.data.toList = c :: r) (hb : b < w.heap.size) (hK : KdsAt b w) (h0 : hasB 2 c = false) (h1 : hasB 12 c = false) (h2 : hasB 16 c = false) (h3 : hasB 32 c = false) :
    Calls Tryz.prog 34 #[.string s, .slice (some ⟨b, 0, none⟩) 4 4] w fun e w' => PcOut none 80 e ∧ Below w.heap.size w w' := by
  obtain ⟨⟨c0, c1⟩, ⟨c2, c3⟩, ⟨c4, c5⟩, ⟨c6, c7⟩⟩ := kd_facts hK
  obtain ⟨h00, gx⟩ := head_byte hl
  have h00' : 0 < (s.size : Int) := by omega
  have hb1 : b < w.heap.size + 1 := by omega
  have hb2 : b < w.heap.size + 1 + 1 := by omega
  have hb3 : b < w.heap.size + 1 + 1 + 1 := by omega
  have hb4 : b < w.heap.size + 1 + 1 + 1 + 1 := by omega
  have H0 := Lib.hid (has_at 2 (by decide) c _ h0)
  have H1 := Lib.hid (has_at 12 (by decide) c _ h1)
  have H2 := Lib.hid (has_at 16 (by decide) c _ h2)
  have H3 := Lib.hid (has_at 32 (by decide) c _ h3)
  clear hK hl h0 h1 h2 h3
  go_enter Tryz.func34, Tryz.ntmps34
  go_wp2_with fail
  refine wp_loop_rounds 5 ?_
  rw [rounds_succ]
  go_wp2_with fail
  go_quiet ((exact quiet_eq (H0.out _)))
  go_wp2_with fail
  rw [rounds_succ]
  go_wp2_with fail
  go_quiet ((exact quiet_eq (H1.out _)))
  go_wp2_with fail
  rw [rounds_succ]
  go_wp2_with fail
  go_quiet ((exact quiet_eq (H2.out _)))
  go_wp2_with fail
  rw [rounds_succ]
  go_wp2_with fail
  go_quiet ((exact quiet_eq (H3.out _)))
  go_wp2_with fail
  rw [rounds_succ]
  generalize hW : World.drewN _ nq = W
  have HBW : Below (w.heap.size + 1) (w.alloc (.cells #[.int .i64 0, .string ⟨#[]⟩, .int .u64 0, .int .i64 0, .int .i64 0, .int .i64 0] 64)) W := by rw [← hW]; repeat (first | exact Below.refl _ _ | refine below_drewN ?_ _ | refine Below.alloc ?_ (by simp <;> omega) _)
  have HP : W.heap[w.heap.size]? = some (.cells #[.int .i64 0, .string ⟨#[]⟩, .int .u64 0, .int .i64 0, .int .i64 0, .int .i64 0] 64 (0, 0)) := (HBW.block w.heap.size (by omega)).trans (heap_alloc_new w _)
  have HB1 := Lib.hid ((below1 w (.cells #[.int .i64 0, .string ⟨#[]⟩, .int .u64 0, .int .i64 0, .int .i64 0, .int .i64 0] 64)).trans (HBW.mono (by omega)))
  have e0 : W.cell? ⟨w.heap.size, 0, none⟩ = some (.int .i64 0) := by rw [Lib.cell_of_heap HP]; rfl
  have e1 : W.cell? ⟨w.heap.size, 1, none⟩ = some (.string ⟨#[]⟩) := by rw [Lib.cell_of_heap HP]; rfl
  have e2 : W.cell? ⟨w.heap.size, 2, none⟩ = some (.int .u64 0) := by rw [Lib.cell_of_heap HP]; rfl
  have e3 : W.cell? ⟨w.heap.size, 3, none⟩ = some (.int .i64 0) := by rw [Lib.cell_of_heap HP]; rfl
  have e4 : W.cell? ⟨w.heap.size, 4, none⟩ = some (.int .i64 0) := by rw [Lib.cell_of_heap HP]; rfl
  have e5 : W.cell? ⟨w.heap.size, 5, none⟩ = some (.int .i64 0) := by rw [Lib.cell_of_heap HP]; rfl
  have ff : ∀ o, W.frozen? ⟨w.heap.size, o, none⟩ = false := fun o => Lib.frozen_of_heap HP o
  clear hW HBW HP
  go_wp2_with fail
  exact bodyPost_ret (v := pcV 0 [] 0 0 0 80) (by simp [results, Tryz.results34, e0, e1, e2, e3, e4, e5, pcV, go_sem]) rfl ⟨.inr ⟨rfl, rfl⟩, below_set6 HB1.out (Nat.le_refl _) _ _ _ _ _ _⟩

theorem piece_any (s : ByteArray) (c : UInt8) (r : Bs) (b : Nat) (w : World) (hG : Good w) (hs : s.size ≤ 281474976710656 / 4) (hl : s.data.toList = c :: r) (hb : b < w.heap.size) (hK : KdsAt b w) :
    Calls Tryz.prog 34 #[.string s, .slice (some ⟨b, 0, none⟩) 4 4] w fun e w' => PcOut (one (c :: r)) (errO (c :: r)) e ∧ Below w.heap.size w w' := by
  cases h0 : isL c with
  | true =>
    refine piece_name s c r b _ _ w hl hb hK (by rw [hasB_2, h0]) (fun w1 hb1 => ?_)
    have N := rname_any s w1 (by omega)
    rw [hl] at N
    have E : one (c :: r) = some (1, (c :: r).take (run isLD (c :: r)), 0, run isLD (c :: r)) := by simp [one, h0]
    rw [E]
    exact N.mono fun e w' ⟨h, k⟩ => ⟨h.elim (fun h => .inl h) (fun h => by cases h.1), k⟩
  | false =>
    cases h1 : (isD c || c == 39) with
    | true =>
      have E : one (c :: r) = (numB (c :: r)).map fun x => (2, [], x.1, x.2) := by simp only [one, h0, h1]; simp
      have F : errO (c :: r) = 81 := by simp only [errO, h1]; simp
      rw [E, F]
      exact piece_number s c r b _ _ w hl hb hK (by rw [hasB_2, h0]) (by rw [hasB_12, h1]) (fun w1 hb1 => (number_any s c r w1 (hG.thn hb1) (by omega) hl).mono fun e w' ⟨h, k⟩ => ⟨numpc_out h, k⟩)
    | false =>
      cases h2 : (c == 34) with
      | true =>
        have E : one (c :: r) = (quotesB (c :: r)).map fun x => (3, x.1, 0, x.2) := by simp only [one, h0, h1, h2]; simp
        have F : errO (c :: r) = 82 := by simp only [errO, h1, h2]; simp
        rw [E, F]
        refine piece_quotes s c r b _ _ w hl hb hK (by rw [hasB_2, h0]) (by rw [hasB_12, h1]) (by rw [hasB_16, h2]) (fun w1 hb1 => ?_)
        have N := rquotes_any s w1 (hG.thn hb1) hs
        rwa [hl] at N
      | false =>
        have E : one (c :: r) = if signN (c :: r) = 0 then none else some (4, (c :: r).take (signN (c :: r)), 0, signN (c :: r)) := by simp only [one, h0, h1, h2]; simp
        have F : errO (c :: r) = 80 := by simp only [errO, h1, h2]; simp
        rw [F]
        cases h3 : isBl c with
        | false =>
          rw [E]
          refine piece_sign s c r b _ _ w hl hb hK (by rw [hasB_2, h0]) (by rw [hasB_12, h1]) (by rw [hasB_16, h2]) ?_ (fun w1 hb1 => rsign_any s c r w1 (by omega) hl)
          rw [Bool.or_eq_false_iff] at h1
          rw [hasB_32, isLD, h0, h1.1, h1.2, h2, h3]; rfl
        | true =>
          have hn : one (c :: r) = none := by
            rw [E, if_pos]
            revert h3
            rw [signN_cons]
            have key : ∀ c : UInt8, isBl c = true → (c == 60) = false ∧ (c == 62) = false ∧ signL.contains c = false := all_bytes (by decide +kernel)
            intro h3
            obtain ⟨k1, k2, k3⟩ := key c h3
            rw [k1, k2, k3]; simp
          rw [hn]
          refine piece_none s c r b w hl hb hK (by rw [hasB_2, h0]) (by rw [hasB_12, h1]) (by rw [hasB_16, h2]) ?_
          rw [hasB_32, h3]; simp
end Go.Proofs.YtdkflmpdelfgoaaGreatDoor
