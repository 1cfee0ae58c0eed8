/-
  What each call of the reader of signs returns. No conditions beyond the sizes that each lemma states.
-/
import Derived.Test.YtdkflmpdelfgoaaGreatDoorLexN
namespace Go.Proofs.YtdkflmpdelfgoaaGreatDoor
open Go.RowKit

theorem signN_cons (c : UInt8) (r : Bs) : signN (c :: r) = if ((c == 60 && r.head? == some 60) || (c == 62 && r.head? == some 62)) = true then 2 else if signL.contains c = true then 1 else 0 := rfl
theorem signN_two (c d : UInt8) (r : Bs) : signN (c :: d :: r) = if ((c == 60 && d == 60) || (c == 62 && d == 62)) = true then 2 else if signL.contains c = true then 1 else 0 := rfl
theorem sign_two {c : UInt8} {r : Bs} : isSignB ((c :: r).take 2) = true ∧ 2 ≤ (c :: r).length ↔ signN (c :: r) = 2 := by
  cases r with
  | nil =>
    have : signN [c] ≠ 2 := by have := (signN_le [c]).1; simp at this; omega
    simp [this]
  | cons d r =>
    have e : isSignB ((c :: d :: r).take 2) = ((c == 60 && d == 60) || (c == 62 && d == 62)) := by
      show isSignB [c, d] = _
      unfold isSignB
      rw [Bool.eq_iff_iff]
      simp
    have f : signN (c :: d :: r) = 2 ↔ ((c == 60 && d == 60) || (c == 62 && d == 62)) = true := by
      rw [signN_two]
      cases (c == 60 && d == 60 || c == 62 && d == 62) with
      | true => simp
      | false =>
        simp only [Bool.false_eq_true, if_false, iff_false]
        split <;> decide
    rw [e, f]
    simp
theorem sign_one {c : UInt8} {r : Bs} (h : signN (c :: r) ≠ 2) : signN (c :: r) = if isSignB [c] = true then 1 else 0 := by
  rw [signN_cons] at h ⊢
  have : isSignB [c] = signL.contains c := by simp [isSignB]
  by_cases h2 : ((c == 60 && r.head? == some 60) || (c == 62 && r.head? == some 62)) = true
  · rw [if_pos h2] at h; exact absurd rfl h
  · rw [if_neg h2, this]
theorem rsign_out {s : Bs} : PcOut (if signN s = 0 then none else some (4, s.take (signN s), 0, signN s)) 80 (.returned (pcV (if signN s = 0 then 0 else 4) (s.take (signN s)) 0 0 (signN s) (if signN s = 0 then 80 else 0))) := by
  by_cases h : signN s = 0
  · rw [if_pos h, if_pos h, if_pos h, h]; exact .inr ⟨rfl, rfl⟩
  · rw [if_neg h, if_neg h, if_neg h]; exact .inl ⟨4, _, 0, _, rfl, rfl⟩
set_option maxRecDepth 100000 in
set_option maxHeartbeats 4000000 in
theorem rsign_any (s : ByteArray) (c : UInt8) (r : Bs) (w : World) (hs : s.size ≤ 281474976710656) (hl : s.data.toList = c :: r) :
    Calls Tryz.prog 52 #[.string s] w fun e w' => PcOut (if signN (c :: r) = 0 then none else some (4, (c :: r).take (signN (c :: r)), 0, signN (c :: r))) 80 e ∧ Below w.heap.size w w' := by
  have G := Lib.hid (fun (t : ByteArray) w => isSign_any t w)
  have hb0 := below1 w (.cells #[.int .i64 0, .string ⟨#[]⟩, .int .u64 0, .int .i64 0, .int .i64 0, .int .i64 0] 64)
  have HB0 := Lib.hid hb0
  clear hb0
  have C := Lib.hid (fun n hn w => copied_any s n w hs hn)
  have hsz : s.size = r.length + 1 := by rw [size_list, hl]; rfl
  have R := rsign_out (s := c :: r)
  have g2 : ∀ b, isSignB ((c :: r).take 2) = b → Hid (∀ w, Calls Tryz.prog 72 #[.string (s.extract 0 2)] w fun e w' => e = .returned (.bool b) ∧ w = w') := fun b hb => Lib.hid (fun w => by
    have := G.out (s.extract 0 2) w; rwa [list_take hl, hb] at this)
  have g1 : ∀ b, isSignB [c] = b → Hid (∀ w, Calls Tryz.prog 72 #[.string (s.extract 0 1)] w fun e w' => e = .returned (.bool b) ∧ w = w') := fun b hb => Lib.hid (fun w => by
    have := G.out (s.extract 0 1) w; rwa [list_take hl, show (c :: r).take 1 = [c] from rfl, hb] at this)
  by_cases h2 : signN (c :: r) = 2
  · have hI := (sign_two (c := c) (r := r)).2 h2
    have GH := g2 _ hI.1
    have C2 := C.out 2 (by rw [hsz]; have := hI.2; simpa using this)
    rw [hl] at C2
    rw [h2] at R ⊢
    simp only [Nat.reduceEqDiff, if_false] at R ⊢
    obtain ⟨D, hD⟩ : ∃ D, (⟨((c :: r).take 2).toArray⟩ : ByteArray) = D := ⟨_, rfl⟩
    unfold pcV at R
    rw [hD] at C2 R
    have CH := Lib.hid C2
    have RH := Lib.hid R
    have h2' : 2 ≤ (s.size : Int) := by rw [hsz]; have := hI.2; simp at this; omega
    have hm : min (2 : Int) (s.size : Int) = 2 := by omega
    clear G C2 C R hD hI h2 hl hsz hs g2 g1
    go_enter Tryz.func52, Tryz.ntmps52
    go_wp2_with fail
    refine wp_loop_rounds 1 ?_
    rw [rounds_succ]
    go_wp2_with fail
    refine (GH.out _).mono ?_
    rintro e w' ⟨rfl, rfl⟩
    go_wp2_with fail
    refine (CH.out _).mono ?_
    rintro e w1 ⟨rfl, hb⟩
    have hb1 := Lib.hid (Below.thn HB0.out HB0.out.size hb)
    obtain ⟨hcc, hff⟩ := bcell hb
    simp only [World.size_alloc] at hcc hff
    have hz : w.heap.size < w1.heap.size := by have := hb.size; simp at this; omega
    clear hb
    go_wp2_with fail
    exact bodyPost_ret (v := .agg #[.int .i64 4, .string D, .int .u64 0, .int .i64 0, .int .i64 2, .int .i64 0]) (by simp [results, Tryz.results52, hcc, go_sem]) rfl ⟨RH.out, below_set6 hb1.out (Nat.le_refl _) _ _ _ _ _ _⟩
  · rw [sign_one h2] at R ⊢
    have C1 := C.out 1 (by rw [hsz]; omega)
    rw [hl] at C1
    have hn2 : 2 ≤ (c :: r).length → isSignB ((c :: r).take 2) = false := fun h => by
      cases hb : isSignB ((c :: r).take 2) with
      | false => rfl
      | true => exact absurd (sign_two.1 ⟨hb, h⟩) h2
    cases hx : isSignB [c] with
    | true =>
      have G1 := g1 _ hx
      rw [hx] at R
      simp only [if_true, Nat.one_ne_zero, if_false] at R ⊢
      obtain ⟨D, hD⟩ : ∃ D, (⟨((c :: r).take 1).toArray⟩ : ByteArray) = D := ⟨_, rfl⟩
      unfold pcV at R
      rw [hD] at C1 R
      have CH := Lib.hid C1
      have RH := Lib.hid R
      by_cases h2s : 2 ≤ s.size
      · have G2 := g2 _ (hn2 (by rw [hsz] at h2s; simpa using h2s))
        have h2' : 2 ≤ (s.size : Int) := by omega
        have h1' : 1 ≤ (s.size : Int) := by omega
        have hm : min (2 : Int) (s.size : Int) = 2 := by omega
        clear G C1 C R hD h2 hl hsz hs g2 g1 hn2 hx h2s
        go_enter Tryz.func52, Tryz.ntmps52
        go_wp2_with fail
        refine wp_loop_rounds 2 ?_
        rw [rounds_succ]
        go_wp2_with fail
        refine (G2.out _).mono ?_
        rintro e w' ⟨rfl, rfl⟩
        go_wp2_with fail
        rw [rounds_succ]
        go_wp2_with fail
        refine (G1.out _).mono ?_
        rintro e w' ⟨rfl, rfl⟩
        go_wp2_with fail
        refine (CH.out _).mono ?_
        rintro e w1 ⟨rfl, hb⟩
        have hb1 := Lib.hid (Below.thn HB0.out HB0.out.size hb)
        obtain ⟨hcc, hff⟩ := bcell hb
        simp only [World.size_alloc] at hcc hff
        have hz : w.heap.size < w1.heap.size := by have := hb.size; simp at this; omega
        clear hb
        go_wp2_with fail
        exact bodyPost_ret (v := .agg #[.int .i64 4, .string D, .int .u64 0, .int .i64 0, .int .i64 1, .int .i64 0]) (by simp [results, Tryz.results52, hcc, go_sem]) rfl ⟨RH.out, below_set6 hb1.out (Nat.le_refl _) _ _ _ _ _ _⟩
      · have h1' : 1 ≤ (s.size : Int) := by omega
        have hm : min (2 : Int) (s.size : Int) = 1 := by omega
        clear G C1 C R hD h2 hl hsz hs g2 g1 hn2 hx h2s
        go_enter Tryz.func52, Tryz.ntmps52
        go_wp2_with fail
        refine wp_loop_rounds 1 ?_
        rw [rounds_succ]
        go_wp2_with fail
        refine (G1.out _).mono ?_
        rintro e w' ⟨rfl, rfl⟩
        go_wp2_with fail
        refine (CH.out _).mono ?_
        rintro e w1 ⟨rfl, hb⟩
        have hb1 := Lib.hid (Below.thn HB0.out HB0.out.size hb)
        obtain ⟨hcc, hff⟩ := bcell hb
        simp only [World.size_alloc] at hcc hff
        have hz : w.heap.size < w1.heap.size := by have := hb.size; simp at this; omega
        clear hb
        go_wp2_with fail
        exact bodyPost_ret (v := .agg #[.int .i64 4, .string D, .int .u64 0, .int .i64 0, .int .i64 1, .int .i64 0]) (by simp [results, Tryz.results52, hcc, go_sem]) rfl ⟨RH.out, below_set6 hb1.out (Nat.le_refl _) _ _ _ _ _ _⟩
    | false =>
      have G1 := g1 _ hx
      rw [hx] at R
      simp only [Bool.false_eq_true, if_false, if_true] at R ⊢
      have RH := Lib.hid R
      by_cases h2s : 2 ≤ s.size
      · have G2 := g2 _ (hn2 (by rw [hsz] at h2s; simpa using h2s))
        have h2' : 2 ≤ (s.size : Int) := by omega
        have h1' : 1 ≤ (s.size : Int) := by omega
        have hm : min (2 : Int) (s.size : Int) = 2 := by omega
        clear G C1 C R h2 hl hsz hs g2 g1 hn2 hx h2s
        go_enter Tryz.func52, Tryz.ntmps52
        go_wp2_with fail
        refine wp_loop_rounds 3 ?_
        rw [rounds_succ]
        go_wp2_with fail
        refine (G2.out _).mono ?_
        rintro e w' ⟨rfl, rfl⟩
        go_wp2_with fail
        rw [rounds_succ]
        go_wp2_with fail
        refine (G1.out _).mono ?_
        rintro e w' ⟨rfl, rfl⟩
        go_wp2_with fail
        rw [rounds_succ]
        go_wp2_with fail
        exact bodyPost_ret (v := pcV 0 [] 0 0 0 80) (by simp [results, Tryz.results52, pcV, go_sem]) rfl ⟨RH.out, below1 _ _⟩
      · have h1' : 1 ≤ (s.size : Int) := by omega
        have hm : min (2 : Int) (s.size : Int) = 1 := by omega
        clear G C1 C R h2 hl hsz hs g2 g1 hn2 hx h2s
        go_enter Tryz.func52, Tryz.ntmps52
        go_wp2_with fail
        refine wp_loop_rounds 2 ?_
        rw [rounds_succ]
        go_wp2_with fail
        refine (G1.out _).mono ?_
        rintro e w' ⟨rfl, rfl⟩
        go_wp2_with fail
        rw [rounds_succ]
        go_wp2_with fail
        exact bodyPost_ret (v := pcV 0 [] 0 0 0 80) (by simp [results, Tryz.results52, pcV, go_sem]) rfl ⟨RH.out, below1 _ _⟩
end Go.Proofs.YtdkflmpdelfgoaaGreatDoor
