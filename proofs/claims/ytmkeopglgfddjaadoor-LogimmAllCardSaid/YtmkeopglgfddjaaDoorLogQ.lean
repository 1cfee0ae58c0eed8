/-
  Which pattern a value is, as the program finds it: ofValue, Pattern, Encode, Field. Where the table of math/bits lies as its text lays it.
-/
import Derived.Test.YtmkeopglgfddjaaDoorLogT
import Derived.Laws.ResultCell
namespace Go.Proofs.YtmkeopglgfddjaaDoor
open Go.RowKit Go.Shelf BM

theorem u64_andNot_nat (a b : Nat) (ha : a < 18446744073709551616) (hb : b < 18446744073709551616) : bits .andNot .u64 (a : Int) (b : Int) = ((a &&& (18446744073709551615 - b) : Nat) : Int) := by
  have := u64_andNot (a : Int) (b : Int) (Int.natCast_nonneg _) (by exact Int.ofNat_lt.2 ha) (Int.natCast_nonneg _) (by exact Int.ofNat_lt.2 hb)
  simpa using this
theorem elem_code {v s : Nat} (hv : v < 18446744073709551616) (h64 : s ≤ 64) : bits .and .u64 (v : Int) (onesI (s : Int)) = ((v % 2 ^ s : Nat) : Int) := by
  have ho := onesI_bd64 (n := (s : Int)) (by omega)
  rw [u64_and _ _ (Int.natCast_nonneg _) (by exact Int.ofNat_lt.2 hv) ho.1 ho.2, Int.toNat_natCast]
  unfold onesI
  simp only [Int.toNat_natCast, Nat.and_two_pow_sub_one_eq_mod]
theorem beg_code {e s : Nat} (he : e < 18446744073709551616) :
    bits .andNot .u64 (e : Int) (bits .or .u64 (IntKind.u64.wrap ((e : Int) * 2)) ((e : Int) / 2 ^ (s - 1))) = ((begN e s : Nat) : Int) := by
  have e64 : 2 ^ 64 = 18446744073709551616 := by decide
  have c1 : IntKind.u64.wrap ((e : Int) * 2) = ((e * 2 % 18446744073709551616 : Nat) : Int) := by rw [wrap_u64]; omega
  have c2 : (e : Int) / 2 ^ (s - 1) = ((e / 2 ^ (s - 1) : Nat) : Int) := by simp
  have h1 : e * 2 % 18446744073709551616 < 18446744073709551616 := Nat.mod_lt _ (by decide)
  have h2 : e / 2 ^ (s - 1) < 18446744073709551616 := Nat.lt_of_le_of_lt (Nat.div_le_self _ _) he
  have h3 : e * 2 % 18446744073709551616 ||| e / 2 ^ (s - 1) < 18446744073709551616 := by
    have := Nat.or_lt_two_pow (x := e * 2 % 18446744073709551616) (y := e / 2 ^ (s - 1)) (n := 64) (by rw [e64]; exact h1) (by rw [e64]; exact h2)
    rw [e64] at this; exact this
  rw [c1, c2, u64_or _ _ (Int.natCast_nonneg _) (by exact Int.ofNat_lt.2 h1) (Int.natCast_nonneg _) (by exact Int.ofNat_lt.2 h2), Int.toNat_natCast, Int.toNat_natCast, u64_andNot_nat _ _ he h3]
  unfold begN
  rw [e64]
theorem over_w {v W : Nat} (hv : v < 18446744073709551616) (h64 : W ≤ 64) : (bits .andNot .u64 (v : Int) (onesI (W : Int)) != 0) = !decide (v < 2 ^ W) := by
  have h := over64_iff (v := (v : Int)) (n := (W : Int)) (Int.natCast_nonneg _) (by exact Int.ofNat_lt.2 hv) (by omega)
  have e : ((v : Int) < powI (W : Int)) ↔ v < 2 ^ W := by
    unfold powI; rw [Int.toNat_natCast]; exact Int.ofNat_lt
  rw [e] at h
  by_cases g : v < 2 ^ W
  · rw [h.2 g]; simp [g]
  · have : bits .andNot .u64 (v : Int) (onesI (W : Int)) ≠ 0 := fun q => g (h.1 q)
    simp [g, this]

theorem count_nat (x : Nat) (w : World) (h : x < 18446744073709551616) :
    Calls Tryd.prog 34 #[.int .u64 (x : Int)] w fun e w' => e = .returned (.int .i64 ((pop 64 x : Nat) : Int)) ∧ w = w' := count_any (x : Int) w (Int.natCast_nonneg _) (by omega)
set_option maxHeartbeats 1000000 in
theorem ofValue_bad (v W : Int) (w : World) (h : W ≠ 32) (h' : W ≠ 64) :
    Calls Tryd.prog 27 #[.int .u64 v, .int .i64 W] w fun e w' => e = .returned (.tuple #[.agg #[.int .i64 0, .int .i64 0, .int .i64 0], .int .i64 1]) ∧ Below w.heap.size w w' := by
  go_enter Tryd.func27, Tryd.ntmps27
  go_wp2_with (go_at_call 21; refine (isw_no W _ h h').mono ?_; rintro e w1 ⟨rfl, rfl⟩)
  exact ⟨rfl, _, by simp [results, Tryd.f27, go_sem], rfl, (Below.refl _ _).alloc (Nat.le_refl _) _⟩
set_option maxHeartbeats 1000000 in
theorem ofValue_over (v W : Nat) (w : World) (hW : IsW W) (hv : v < 18446744073709551616) (ho : ¬ v < 2 ^ W) :
    Calls Tryd.prog 27 #[.int .u64 (v : Int), .int .i64 (W : Int)] w fun e w' => e = .returned (.tuple #[.agg #[.int .i64 0, .int .i64 0, .int .i64 0], .int .i64 20]) ∧ Below w.heap.size w w' := by
  have hwb := w_bd hW
  have ov := over_w hv hwb.2
  rw [decide_eq_false ho, Bool.not_false] at ov
  have LW := fun w => low_any (W : Int) w (by omega) (by omega)
  clear ho hv
  go_enter Tryd.func27, Tryd.ntmps27
  go_wp2_with (first | (go_at_call 21; refine (isw_yes W _ hW).mono ?_; rintro e w1 ⟨rfl, rfl⟩) | (go_at_call 32; refine (LW _).mono ?_; rintro e w1 ⟨rfl, rfl⟩))
  exact ⟨rfl, _, by simp [results, Tryd.f27, go_sem], rfl, (Below.refl _ _).alloc (Nat.le_refl _) _⟩
theorem three_new (w : World) (a b c : Value) (t : TypeId) : (w.alloc (.cells #[a, b, c] t)).cell? ⟨w.heap.size, 0, none⟩ = some a ∧ (w.alloc (.cells #[a, b, c] t)).cell? ⟨w.heap.size, 1, none⟩ = some b ∧ (w.alloc (.cells #[a, b, c] t)).cell? ⟨w.heap.size, 2, none⟩ = some c ∧
    (∀ o, (w.alloc (.cells #[a, b, c] t)).frozen? ⟨w.heap.size, o, none⟩ = false) := by
  have h := World.alloc_heap_new w (.cells #[a, b, c] t)
  refine ⟨?_, ?_, ?_, fun o => ?_⟩
  · unfold World.cell?; simp only [h]; rfl
  · unfold World.cell?; simp only [h]; rfl
  · unfold World.cell?; simp only [h]; rfl
  · unfold World.frozen?; simp only [h]; simp
theorem three_set {V : World} {B : Nat} {x0 x1 x2 y0 y1 y2 : Value} (c0 : V.cell? ⟨B, 0, none⟩ = some x0) (c1 : V.cell? ⟨B, 1, none⟩ = some x1) (c2 : V.cell? ⟨B, 2, none⟩ = some x2) :
    let V' := ((V.setCell ⟨B, 0, none⟩ y0).setCell ⟨B, 1, none⟩ y1).setCell ⟨B, 2, none⟩ y2
    V'.cell? ⟨B, 0, none⟩ = some y0 ∧ V'.cell? ⟨B, 1, none⟩ = some y1 ∧ V'.cell? ⟨B, 2, none⟩ = some y2 ∧ ∀ n, n ≤ B → Below n V V' := by
  refine ⟨?_, ?_, ?_, ?_⟩
  · rw [set_other (offs (by decide)), set_other (offs (by decide)), set_same c0]
  · rw [set_other (offs (by decide))]
    exact set_same (by rw [set_other (offs (by decide))]; exact c1)
  · exact set_same (by rw [set_other (offs (by decide)), set_other (offs (by decide))]; exact c2)
  · intro n hB
    exact (((Below.refl n V).setCell (p := ⟨B, 0, none⟩) hB _).setCell (p := ⟨B, 1, none⟩) hB _).setCell (p := ⟨B, 2, none⟩) hB _
set_option maxRecDepth 100000 in
set_option maxHeartbeats 1000000 in
theorem ofValue_any (v W : Nat) (w : World) (hW : IsW W) (ho : v < 2 ^ W) (hT : Tab w) (hTB : 0 < w.heap.size) :
    Calls Tryd.prog 27 #[.int .u64 (v : Int), .int .i64 (W : Int)] w fun e w' =>
      ((∃ s n t : Nat, FoundP v W s n t ∧ e = .returned (.tuple #[.agg #[.int .i64 (s : Int), .int .i64 (n : Int), .int .i64 (t : Int)], .int .i64 0])) ∨
        ((∀ s n t, ¬ FoundP v W s n t) ∧ e = .returned (.tuple #[.agg #[.int .i64 0, .int .i64 0, .int .i64 0], .int .i64 20]))) ∧ Below w.heap.size w w' := by
  have hwb := w_bd hW
  have hv : v < 18446744073709551616 := Nat.lt_of_lt_of_le ho (pow64 hwb.2)
  have ov := over_w hv hwb.2
  rw [decide_eq_true ho, Bool.not_true] at ov
  have LW := fun w => low_any (W : Int) w (by omega) (by omega)
  have SA := Lib.hid (fun w => shortest_any v W w hW hv)
  have HO := Lib.hid ho
  have HV := Lib.hid hv
  obtain ⟨n0, n1, n2, nf⟩ := three_new w (.int .i64 0) (.int .i64 0) (.int .i64 0) 47
  have hT0 := Lib.hid (hT.keep hTB ((Below.refl w.heap.size w).alloc (Nat.le_refl _) (.cells #[.int .i64 0, .int .i64 0, .int .i64 0] 47)))
  clear ho hv
  go_enter Tryd.func27, Tryd.ntmps27
  go_wp2_with (first | (go_at_call 21; refine (isw_yes W _ hW).mono ?_; rintro e w1 ⟨rfl, rfl⟩) | (go_at_call 32; refine (LW _).mono ?_; rintro e w1 ⟨rfl, rfl⟩) | fail)
  refine (SA.out _).mono ?_
  rintro e w1 ⟨⟨s, hsh, rfl⟩, hb⟩
  obtain ⟨hc, hf⟩ := bcell hb
  have hz : w.heap.size < (w.alloc (.cells #[.int .i64 0, .int .i64 0, .int .i64 0] 47)).heap.size := by simp
  have d0 := (hc w.heap.size 0 hz).trans n0
  have d1 := (hc w.heap.size 1 hz).trans n1
  have d2 := (hc w.heap.size 2 hz).trans n2
  have g0 := (hf w.heap.size 0 hz).trans (nf 0)
  have g1 := (hf w.heap.size 1 hz).trans (nf 1)
  have g2 := (hf w.heap.size 2 hz).trans (nf 2)
  have hT1 := hT0.out.keep (by simp) hb
  have hbw : Below w.heap.size w w1 := ((Below.refl w.heap.size w).alloc (Nat.le_refl _) _).trans (hb.mono (by simp))
  clear n0 n1 n2 nf hc hf hz hT0 hb hT
  have hsb := size_bd hsh.1
  have hel : v % 2 ^ s < 2 ^ s := Nat.mod_lt _ (Nat.two_pow_pos s)
  have hel64 : v % 2 ^ s < 18446744073709551616 := Nat.lt_of_lt_of_le hel (pow64 hsb.2)
  have hbl := begN_lt hel
  have EC := elem_code (s := s) HV.out hsb.2
  have BC := beg_code (s := s) hel64
  have hb64 : begN (v % 2 ^ s) s < 18446744073709551616 := Nat.lt_of_lt_of_le hbl (pow64 hsb.2)
  have LS := fun w => low_any (s : Int) w (by omega) (by omega)
  have s1 : IntKind.i64.wrap ((s : Int) - 1) = (s : Int) - 1 := IntWalk.i64_in _ (by omega)
  have s2 : 0 ≤ (s : Int) - 1 := by omega
  have hs0 : ((s : Int) == 0) = false := by simp; omega
  have yes := found_yes (v := v) hW HO.out hsh
  have no := found_no (v := v) hW hsh
  have SH := Lib.hid hsh
  obtain ⟨e0, he0⟩ : ∃ e0, v % 2 ^ s = e0 := ⟨_, rfl⟩
  rw [he0] at EC BC hel hel64 hbl hb64 yes no
  obtain ⟨b0, hb0⟩ : ∃ b0, begN e0 s = b0 := ⟨_, rfl⟩
  rw [hb0] at BC hbl hb64 yes no
  have HE := Lib.hid hel64
  have HBB := Lib.hid hb64
  have TZ := tz_any (b0 : Int) w1 (Int.natCast_nonneg _) (by omega) hT1
  rw [Int.toNat_natCast] at TZ
  obtain ⟨pe, hpe⟩ : ∃ pe, pop 64 e0 = pe := ⟨_, rfl⟩
  obtain ⟨pb, hpb⟩ : ∃ pb, pop 64 b0 = pb := ⟨_, rfl⟩
  obtain ⟨c, hcz⟩ : ∃ c, Lib.ctz 64 b0 = c := ⟨_, rfl⟩
  rw [hpe] at yes
  rw [hpb] at yes no
  rw [hcz] at TZ yes
  by_cases hp : pb = 1
  · have hc64 : c < s := by
      obtain ⟨i, hi, e⟩ := (pop_one hbl).1 (by rw [← pop_more hbl hsb.2, hpb, hp])
      rw [← hcz, e, ctz_two_pow (by omega)]; exact hi
    have T1 : IntKind.i64.wrap ((s : Int) - (c : Int)) = (s : Int) - (c : Int) := IntWalk.i64_in _ (by omega)
    have T2 : Int.tmod ((s : Int) - (c : Int)) (s : Int) = (((s - c) % s : Nat) : Int) := by
      rw [show (s : Int) - (c : Int) = ((s - c : Nat) : Int) by omega]; exact tmod_cast _ _
    have Y := Lib.hid (yes hp)
    have hp' : (pb : Int) = 1 := by omega
    clear yes no hel hel64 hbl hb64 he0 hb0 hcz hsh hp
    go_wp2_with (first | (go_at_call 32; refine (LS _).mono ?_; rintro e w1 ⟨rfl, rfl⟩) | (go_at_call 34; refine (count_nat _ _ (by first | exact HE.out | exact HBB.out)).mono ?_; rintro e w1 ⟨rfl, rfl⟩) | (go_at_call 35; refine TZ.mono ?_; rintro e w1 ⟨rfl, rfl⟩))
    have ec : (((s - c) % s : Nat) : Int) = ((s - c : Nat) : Int) % (s : Int) := Int.natCast_emod _ _
    obtain ⟨q0, q1, q2, q3⟩ := three_set (V := w1) (B := w.heap.size) (y0 := .int .i64 (s : Int)) (y1 := .int .i64 (pe : Int)) (y2 := .int .i64 (((s - c : Nat) : Int) % (s : Int))) d0 d1 d2
    refine ⟨rfl, .tuple #[.agg #[.int .i64 (s : Int), .int .i64 (pe : Int), .int .i64 (((s - c : Nat) : Int) % (s : Int))], .int .i64 0], ?_, ?_, ?_⟩
    · clear EC BC LW LS SA TZ T2 ec
      simp [results, Tryd.f27, go_sem, q0, q1, q2]
    · exact .inl ⟨s, pe, (s - c) % s, Y.out, by rw [ec]⟩
    · exact hbw.trans (q3 _ (Nat.le_refl _))
  · have hp' : ((pb : Int) != 1) = true := by simp; omega
    have N := Lib.hid (no hp)
    clear yes no hel hel64 hbl hb64 he0 hb0 hcz hsh hp
    go_wp2_with (first | (go_at_call 32; refine (LS _).mono ?_; rintro e w1 ⟨rfl, rfl⟩) | (go_at_call 34; refine (count_nat _ _ (by first | exact HE.out | exact HBB.out)).mono ?_; rintro e w1 ⟨rfl, rfl⟩))
    obtain ⟨q0, q1, q2, q3⟩ := three_set (V := w1) (B := w.heap.size) (y0 := .int .i64 0) (y1 := .int .i64 0) (y2 := .int .i64 0) d0 d1 d2
    refine ⟨rfl, .tuple #[.agg #[.int .i64 0, .int .i64 0, .int .i64 0], .int .i64 20], ?_, ?_, ?_⟩
    · clear EC BC LW LS SA TZ
      simp [results, Tryd.f27, go_sem, q0, q1, q2]
    · exact .inr ⟨N.out, rfl⟩
    · exact hbw.trans (q3 _ (Nat.le_refl _))

/-- the pattern s, n, t and the error e of the value v at width W -/
def PatOut (v W s n t e : Int) : Prop :=
  (WI W ∧ (∃ a b c : Nat, FoundP v.toNat W.toNat a b c ∧ s = (a : Int) ∧ n = (b : Int) ∧ t = (c : Int)) ∧ e = 0) ∨
  (WI W ∧ (∀ a b c, ¬ FoundP v.toNat W.toNat a b c) ∧ s = 0 ∧ n = 0 ∧ t = 0 ∧ e = 20) ∨ (¬ WI W ∧ s = 0 ∧ n = 0 ∧ t = 0 ∧ e = 1)
theorem patOut_ex (v W : Int) : ∃ s n t e, PatOut v W s n t e := by
  by_cases hW : WI W
  · by_cases h : ∃ a b c : Nat, FoundP v.toNat W.toNat a b c
    · obtain ⟨a, b, c, h⟩ := h
      exact ⟨_, _, _, _, .inl ⟨hW, ⟨a, b, c, h, rfl, rfl, rfl⟩, rfl⟩⟩
    · exact ⟨0, 0, 0, 20, .inr (.inl ⟨hW, fun a b c g => h ⟨a, b, c, g⟩, rfl, rfl, rfl, rfl⟩)⟩
  · exact ⟨0, 0, 0, 1, .inr (.inr ⟨hW, rfl, rfl, rfl, rfl⟩)⟩
theorem ofValue_out {v W s n t e : Int} (h : PatOut v W s n t e) (b1 : 0 ≤ v) (b2 : v < 18446744073709551616) (w : World) (hT : Tab w) (hTB : 0 < w.heap.size) :
    Calls Tryd.prog 27 #[.int .u64 v, .int .i64 W] w fun e' w' => e' = .returned (.tuple #[.agg #[.int .i64 s, .int .i64 n, .int .i64 t], .int .i64 e]) ∧ Below w.heap.size w w' := by
  obtain ⟨V, rfl⟩ := Int.eq_ofNat_of_zero_le b1
  by_cases hW : WI W
  · have hn := hW.nat
    obtain ⟨X, hX⟩ : ∃ X, W.toNat = X := ⟨_, rfl⟩
    unfold PatOut at h
    rw [hX, Int.toNat_natCast] at h
    rw [hX] at hn
    have hW2 := hn.2
    by_cases ho : V < 2 ^ X
    · have := ofValue_any V X w hn.1 ho hT hTB
      rw [hW2] at this
      refine this.mono ?_
      rintro e' w' ⟨⟨s', n', t', hf, rfl⟩ | ⟨hf, rfl⟩, hb⟩
      · rcases h with ⟨_, ⟨a, b, c, hf2, rfl, rfl, rfl⟩, rfl⟩ | ⟨_, hno, _⟩ | ⟨hno, _⟩
        · obtain ⟨rfl, rfl, rfl⟩ := found_one hn.1 hf hf2
          exact ⟨rfl, hb⟩
        · exact absurd hf (hno _ _ _)
        · exact absurd hW hno
      · rcases h with ⟨_, ⟨a, b, c, hf2, rfl, rfl, rfl⟩, rfl⟩ | ⟨_, hno, rfl, rfl, rfl, rfl⟩ | ⟨hno, _⟩
        · exact absurd hf2 (hf _ _ _)
        · exact ⟨rfl, hb⟩
        · exact absurd hW hno
    · have := ofValue_over V X w hn.1 (by omega) ho
      rw [hW2] at this
      rcases h with ⟨_, ⟨a, b, c, hf2, rfl, rfl, rfl⟩, rfl⟩ | ⟨_, hno, rfl, rfl, rfl, rfl⟩ | ⟨hno, _⟩
      · have := valN_lt a b c X
        rw [hf2.2] at this; exact absurd this ho
      · exact this
      · exact absurd hW hno
  · rcases h with ⟨hno, _⟩ | ⟨hno, _⟩ | ⟨_, rfl, rfl, rfl, rfl⟩
    · exact absurd hno hW
    · exact absurd hno hW
    · exact ofValue_bad V W w (fun g => hW (.inl g)) (fun g => hW (.inr g))
end Go.Proofs.YtmkeopglgfddjaaDoor
