/-
  The shortest element that a value is again and again, as the program finds it. No conditions beyond those that each lemma states.
-/
import Derived.Test.YtmkeopglgfddjaaDoorLogO
import Derived.Test.YtmkeopglgfddjaaDoorScopeIn
namespace Go.Proofs.YtmkeopglgfddjaaDoor
open Go.RowKit Go.Shelf BM
attribute [local go_sem] Oper.semAt_some

/-- what stands from place a on is what stands from place 0 on, over s places -/
def Chunk (v s a : Nat) : Prop := ∀ i, i < s → v.testBit (a + i) = v.testBit i
theorem per_chunks {v s m : Nat} (hs : 1 ≤ s) : Per v s (s * m) ↔ ∀ j, 1 ≤ j → j < m → Chunk v s (s * j) := by
  constructor
  · intro h j h1 h2 i hi
    have hle := Nat.mul_le_mul_left s (show j + 1 ≤ m from h2)
    rw [Nat.mul_succ] at hle
    rw [h (s * j + i) (by omega), Nat.mul_add_mod, Nat.mod_eq_of_lt hi]
  · intro h i hi
    have hd := Nat.div_add_mod i s
    have hm := Nat.mod_lt i hs
    by_cases g : i / s = 0
    · rw [g] at hd; rw [Nat.mod_eq_of_lt (by omega)]
    · have := h (i / s) (Nat.pos_of_ne_zero g) (by rw [Nat.div_lt_iff_lt_mul hs, Nat.mul_comm]; exact hi) (i % s) hm
      rw [hd] at this; exact this
theorem u64_xor_nat (a b : Nat) (ha : a < 18446744073709551616) (hb : b < 18446744073709551616) : bits .xor .u64 (a : Int) (b : Int) = ((a ^^^ b : Nat) : Int) := by
  have h1 : (BitVec.ofInt 64 (a : Int)).toNat = a := by rw [BitVec.ofInt_natCast, BitVec.toNat_ofNat]; exact Nat.mod_eq_of_lt ha
  have h2 : (BitVec.ofInt 64 (b : Int)).toNat = b := by rw [BitVec.ofInt_natCast, BitVec.toNat_ofNat]; exact Nat.mod_eq_of_lt hb
  show IntKind.u64.wrap ((BitVec.ofInt 64 (a : Int) ^^^ BitVec.ofInt 64 (b : Int)).toNat : Int) = _
  rw [BitVec.toNat_xor, h1, h2, wrap_u64]
  have e : 2 ^ 64 = 18446744073709551616 := by decide
  have := Nat.xor_lt_two_pow (x := a) (y := b) (n := 64) (by rw [e]; exact ha) (by rw [e]; exact hb)
  rw [e] at this
  omega
theorem chunk_iff {v s a : Nat} : ((v / 2 ^ a ^^^ v) &&& (2 ^ s - 1) = 0) ↔ Chunk v s a := by
  rw [Nat.and_two_pow_sub_one_eq_mod]
  constructor
  · intro h i hi
    have := congrArg (fun x => x.testBit i) h
    simp only [Nat.testBit_mod_two_pow, hi, Nat.testBit_xor, Nat.testBit_div_two_pow, Nat.zero_testBit, decide_true, Bool.true_and] at this
    rw [Nat.add_comm a i]
    cases h1 : v.testBit (i + a) <;> cases h2 : v.testBit i <;> simp_all
  · intro h
    apply Nat.eq_of_testBit_eq; intro i
    rw [Nat.testBit_mod_two_pow, Nat.testBit_xor, Nat.testBit_div_two_pow, Nat.zero_testBit]
    by_cases hi : i < s
    · have := h i hi
      rw [Nat.add_comm a i] at this
      rw [this]; simp
    · simp [hi]
theorem chunk_code {v s a : Nat} (hv : v < 18446744073709551616) (h64 : s ≤ 64) :
    bits .and .u64 (bits .xor .u64 ((v : Int) / 2 ^ a) (v : Int)) (onesI (s : Int)) = (((v / 2 ^ a ^^^ v) &&& (2 ^ s - 1) : Nat) : Int) := by
  have c1 : ((v : Int) / 2 ^ a) = ((v / 2 ^ a : Nat) : Int) := by simp
  have hd : v / 2 ^ a < 18446744073709551616 := Nat.lt_of_le_of_lt (Nat.div_le_self _ _) hv
  have e : 2 ^ 64 = 18446744073709551616 := by decide
  have hx : v / 2 ^ a ^^^ v < 18446744073709551616 := by
    have := Nat.xor_lt_two_pow (x := v / 2 ^ a) (y := v) (n := 64) (by rw [e]; exact hd) (by rw [e]; exact hv)
    rw [e] at this; exact this
  have ho := onesI_bd64 (n := (s : Int)) (by omega)
  rw [c1, u64_xor_nat _ _ hd hv, u64_and _ _ (Int.natCast_nonneg _) (by exact Int.ofNat_lt.2 hx) ho.1 ho.2, Int.toNat_natCast]
  unfold onesI
  simp only [Int.toNat_natCast]
theorem chunk_yes {v s a : Nat} (hv : v < 18446744073709551616) (h64 : s ≤ 64) (h : Chunk v s a) : (bits .and .u64 (bits .xor .u64 ((v : Int) / 2 ^ a) (v : Int)) (onesI (s : Int)) != 0) = false := by
  rw [chunk_code hv h64, chunk_iff.2 h]; rfl
theorem chunk_no {v s a : Nat} (hv : v < 18446744073709551616) (h64 : s ≤ 64) (h : ¬ Chunk v s a) : (bits .and .u64 (bits .xor .u64 ((v : Int) / 2 ^ a) (v : Int)) (onesI (s : Int)) != 0) = true := by
  rw [chunk_code hv h64, bne_iff_ne]
  intro g
  exact h (chunk_iff.1 (by omega))

/-- the last size that came -/
def lastS (W : Nat) : List Nat → Nat
  | [] => W
  | x :: l => lastS x l
theorem lastS_snoc (W x : Nat) (l : List Nat) : lastS W (l ++ [x]) = x := by
  induction l generalizing W with
  | nil => rfl
  | cons y l ih => exact ih y
theorem lastS_mem {W : Nat} : ∀ {l : List Nat}, l ≠ [] → lastS W l ∈ l := by
  intro l
  induction l generalizing W with
  | nil => intro h; exact absurd rfl h
  | cons x l ih =>
    intro _
    cases l with
    | nil => simp [lastS]
    | cons y l => exact List.mem_cons_of_mem _ (ih (W := x) (by simp))
/-- where the halves are cut, the next is half of the last -/
theorem halves_next {s : Nat} (hs : IsSize s ∨ s = 1) : ∀ {l : List Nat} {x : Nat}, (l ++ [x]) <+: halves s → (l = [] ∧ x = s) ∨ (l ≠ [] ∧ x = lastS s l / 2 ∧ IsSize (lastS s l)) := by
  intro l
  induction l generalizing s with
  | nil =>
    intro x h
    left
    refine ⟨rfl, ?_⟩
    rcases hs with hs | rfl
    · rw [halves_step hs] at h
      obtain ⟨t, ht⟩ := h
      simp at ht; exact ht.1
    · have : halves 1 = [] := by decide
      rw [this] at h; simp at h
  | cons y l ih =>
    intro x h
    right
    refine ⟨by simp, ?_⟩
    rcases hs with hs | rfl
    · rw [halves_step hs] at h
      obtain ⟨t, ht⟩ := h
      simp only [List.cons_append, List.cons.injEq] at ht
      obtain ⟨rfl, ht⟩ := ht
      rcases ih (half_size hs) ⟨t, ht⟩ with ⟨rfl, rfl⟩ | ⟨hne, hx, hz⟩
      · exact ⟨rfl, hs⟩
      · cases l with
        | nil => exact absurd rfl hne
        | cons z l => exact ⟨hx, hz⟩
    · have : halves 1 = [] := by decide
      rw [this] at h; simp at h
theorem halves_last {s : Nat} (hs : IsSize s) : lastS s (halves s) = 2 := by
  rcases hs with rfl | rfl | rfl | rfl | rfl | rfl <;> decide

/-- what the loop over the sizes knows -/
def Seen (v W : Nat) (pre : List (Siz W)) : Prop := ∀ x ∈ pre, Per v (sz x) W
set_option maxRecDepth 100000 in
set_option maxHeartbeats 2000000 in
theorem shortest_any (v W : Nat) (w : World) (hW : IsW W) (hv : v < 18446744073709551616) :
    Calls Tryd.prog 33 #[.int .u64 (v : Int), .int .i64 (W : Int)] w fun e w' => (∃ s : Nat, Short v s W ∧ e = .returned (.int .i64 (s : Int))) ∧ Below w.heap.size w w' := by
  refine (callsIn_wide (n := 7)).1 ?_
  refine callsIn_of_wp_marks Tryd.func33 rfl trivial ?_ rfl
  simp only [Tryd.ntmps33, List.size_toArray, List.length_cons, List.length_nil, Nat.reduceAdd, Nat.reduceSub, Array.replicate_succ, Array.replicate_zero, List.push_toArray, List.append_toArray, List.nil_append, List.cons_append]
  gi_wp2
  refine scope_in ?_
  gi_wp2
  refine label_in ?_
  gi_wp2_with (refine ⟨trivial, ?_⟩; gi_at_call 31; refine (callsIn_wide.2 (sizes_any W _)).mono ?_; rintro e w1 ⟨rfl, rfl⟩)
  refine' wpIn_rangeFunc_ownF rfl (by decide) (gf := 36) (lb := #[.pointer (some ⟨w.heap.size + 1 + 1 + 1, 0, none⟩)]) rfl trivial (enters_of Tryd.func36 (by kernel_rfl) rfl)
    (sizes_stops (Kp := fun _ _ => True) _ (w.heap.size + 1 + 1 + 1) W _ hW ?hB ?hc) (fun _ _ => trivial) (fun _ _ _ _ _ _ _ _ => trivial) (Below.refl _ _) (fun _ => rfl)
    (fun pre V => (V.cell? ⟨w.heap.size, 0, none⟩ = some (.int .u64 (v : Int)) ∧ V.cell? ⟨w.heap.size + 1, 0, none⟩ = some (.int .i64 (W : Int)) ∧ V.cell? ⟨w.heap.size + 1 + 1, 0, none⟩ = some (.int .i64 (lastS W (pre.map sz) : Int)) ∧
      V.frozen? ⟨w.heap.size + 1 + 1, 0, none⟩ = false ∧ Seen v W pre) ∧ Below w.heap.size w V)
    (fun c pre V => (c = .exit 0 ∧ ∃ l x, pre = l ++ [x] ∧ V.cell? ⟨w.heap.size + 1 + 1, 0, none⟩ = some (.int .i64 (lastS W (l.map sz) : Int)) ∧ Seen v W l ∧ ¬ Per v (sz x) W) ∧ Below w.heap.size w V)
    (OwnFrom.and (Own.from (fun s A B row hs hg hr => ⟨cell_kept hs.1 hg hr, cell_kept hs.2.1 hg hr, cell_kept hs.2.2.1 hg hr, (frozen_kept hs.2.2.1 hg hr).trans hs.2.2.2.1, hs.2.2.2.2⟩) _) (ownFrom_below (Nat.le_refl _) (by simp; omega)))
    (fun c => OwnFrom.and (Own.from (fun s A B row hs hg hr => by
      obtain ⟨rfl, l, x, a1, a2, a3, a4⟩ := hs
      exact ⟨rfl, l, x, a1, cell_kept a2 hg hr, a3, a4⟩) _) (ownFrom_below (Nat.le_refl _) (by simp; omega)))
    ?h0 _ ?assign ?body ?done ?stop
  case assign =>
    intro l x V K hK
    simp only [encS]
    gi_wp2
    exact hK
  case hB => simp
  case hc => exact (box_at _ _ (by simp only [World.size_alloc])).1
  case h0 =>
    refine ⟨⟨by simp [go_sem], by simp [go_sem], by simp [go_sem, lastS], by simp [go_sem], fun x hx => by cases hx⟩, ?_⟩
    exact ((((Below.refl _ w).alloc (Nat.le_refl _) _).alloc (by simp) _).alloc (by simp; omega) _).alloc (by simp; omega) _
  case body =>
    rintro l pre ⟨s, hs, hsW⟩ V ⟨⟨c0, c1, c2, f2, hseen⟩, hbel⟩ _
    have hsb := size_bd hs
    have hwb := w_bd hW
    obtain ⟨m, hm, hm1⟩ := size_w hs hW hsW
    have HM := Lib.hid hm
    have HS := Lib.hid hs
    have SE := Lib.hid hseen
    have LW := fun w => low_any (s : Int) w (by omega) (by omega)
    have HV := Lib.hid hv
    have HW := Lib.hid hW
    clear hm hseen hv hW
    gi_wp2
    gi_loopw [7] (fun i wr => ∃ k a q : Nat, 1 ≤ k ∧ k ≤ m ∧ Hid (a = s * k) ∧ i = .int .i64 (a : Int) ∧ wr = V.drewN q ∧ Hid (∀ j, 1 ≤ j → j < k → Chunk v s (s * j))) (fun i _ => (W - intOf i).toNat)
    case atStart => exact ⟨1, s, 0, Nat.le_refl _, hm1, Lib.hid (by omega), rfl, rfl, Lib.hid (fun j h1 h2 => by omega)⟩
    case round =>
      obtain ⟨k, a, q, hk1, hkm, ha, rfl, rfl, hch⟩ := hrel
      obtain ⟨X, hX⟩ : ∃ X, V.drewN q = X := ⟨_, rfl⟩
      rw [hX]
      have c0' : X.cell? ⟨w.heap.size, 0, none⟩ = some (.int .u64 (v : Int)) := by rw [← hX]; exact c0
      have c1' : X.cell? ⟨w.heap.size + 1, 0, none⟩ = some (.int .i64 (W : Int)) := by rw [← hX]; exact c1
      have c2' : X.cell? ⟨w.heap.size + 1 + 1, 0, none⟩ = some (.int .i64 (lastS W (pre.map sz) : Int)) := by rw [← hX]; exact c2
      have f2' : X.frozen? ⟨w.heap.size + 1 + 1, 0, none⟩ = false := by rw [← hX]; exact f2
      have kX : KeepsOthers V X := by rw [← hX]; exact drewN_keeps V q
      have bX : Below w.heap.size w X := by rw [← hX]; exact below_drewN hbel q
      have HX := Lib.hid hX
      clear hX c0 c1 c2 f2
      by_cases hlt : (a : Int) < (W : Int)
      · have hA := ha.out
        have hMM := HM.out
        have hk2 : k + 1 ≤ m := by
          rcases Nat.lt_or_ge k m with g | g
          · exact g
          · have := Nat.mul_le_mul_left s g; omega
        have hks := Nat.mul_le_mul_left s hk2
        have hmul : s * (k + 1) = s * k + s := Nat.mul_succ s k
        have w0 : IntKind.i64.wrap ((a : Int) + (s : Int)) = ((a + s : Nat) : Int) := by rw [IntWalk.i64_in _ (by omega)]; omega
        have A1 := Lib.hid (show a + s = s * (k + 1) by omega)
        have a0 : (0 : Int) ≤ (a : Int) := by omega
        have a64 : (a : Int) ≤ 64 := by omega
        clear hA hMM hks hmul
        by_cases hc : Chunk v s a
        · have ne := chunk_yes HV.out hsb.2 hc
          have CH := Lib.hid (show ∀ j, 1 ≤ j → j < k + 1 → Chunk v s (s * j) from fun j h1 h2 => by
            by_cases g : j < k
            · exact hch.out j h1 g
            · rw [show j = k by omega, ← ha.out]; exact hc)
          clear hc
          gi_wp2_with fail
          refine quiet_round rfl (by kernel_rfl) (by kernel_rfl) (by kernel_rfl) ?_
          repeat (gi_big_quiet_step (fail))
          refine BigFrame.wpQuietIn_want (fun _ _ _ _ => trivial) rfl ?_
          intro K hK
          gi_big_quiet_op
          refine ⟨_, fun _ => callsIn_wide.2 (quiet_eq (LW _)), hK _ ?_⟩
          clear hK K
          repeat (gi_big_quiet_step (fail))
          refine wpQuietIn_nil ?_
          rintro _ ⟨nq, rfl⟩
          gi_wp2_with fail
          go_roundw
          case rel => exact ⟨k + 1, a + s, q + nq, by omega, hk2, A1, by first | rfl | rw [← w0], by rw [← HX.out]; simp, CH⟩
          case measure => simp [intOf]; omega
        · have ne := chunk_no HV.out hsb.2 hc
          have HN := Lib.hid (show ¬ Per v s W from fun g => hc (by
            have hM := HM.out
            rw [hM, per_chunks (by omega)] at g
            have := g k hk1 (by omega)
            rw [← ha.out] at this; exact this))
          clear hc
          gi_wp2_with fail
          refine quiet_round rfl (by kernel_rfl) (by kernel_rfl) (by kernel_rfl) ?_
          repeat (gi_big_quiet_step (fail))
          refine BigFrame.wpQuietIn_want (fun _ _ _ _ => trivial) rfl ?_
          intro K hK
          gi_big_quiet_op
          refine ⟨_, fun _ => callsIn_wide.2 (quiet_eq (LW _)), hK _ ?_⟩
          clear hK K
          repeat (gi_big_quiet_step (fail))
          refine wpQuietIn_nil ?_
          rintro _ ⟨nq, rfl⟩
          gi_wp2_with fail
          exact ⟨kX.trans (drewN_keeps X nq), ⟨rfl, pre, ⟨s, hs, hsW⟩, rfl, c2', SE.out, HN.out⟩, below_drewN bX nq⟩
      · have hP : Per v s W := by
          have hM := HM.out
          rw [hM, per_chunks (by omega)]
          intro j h1 h2
          have hkm' : k = m := by
            have hA := ha.out
            rcases Nat.lt_or_ge k m with g | g
            · have := Nat.mul_lt_mul_of_pos_left g (show 0 < s by omega); omega
            · omega
          exact hch.out j h1 (by omega)
        have HP := Lib.hid hP
        clear hP
        gi_wp2
        refine ⟨kX.trans (KeepsOthers.setCell _ _ _), trivial, ⟨?_, ?_, ?_, ?_, ?_⟩, bX.setCell (p := ⟨w.heap.size + 1 + 1, 0, none⟩) (by simp; omega) _⟩
        · rw [set_other (far (by omega))]; exact c0'
        · rw [set_other (far (by omega))]; exact c1'
        · rw [List.map_append, List.map_cons, List.map_nil, lastS_snoc]; exact set_same c2'
        · rw [World.frozen?_setCell]; exact f2'
        · intro x hx
          rcases List.mem_append.1 hx with h | h
          · exact SE.out x h
          · rw [List.mem_singleton.1 h]; exact HP.out
  case done =>
    rintro D ys V hD hS ⟨⟨c0, c1, c2, f2, hseen⟩, hbel⟩ hK
    have hsh : Short v (lastS W (ys.map sz)) W := by
      rw [hS, halves_last (by unfold IsSize; unfold IsW at hW; omega)]
      refine ⟨.inl rfl, by have := w_bd hW; omega, ?_, .inl rfl⟩
      have hm : 2 ∈ ys.map sz := by rw [hS]; exact (halves_mem hW).2 ⟨.inl rfl, by have := w_bd hW; omega⟩
      obtain ⟨x, hx, e⟩ := List.mem_map.1 hm
      rw [← e]; exact hseen x hx
    have SH := Lib.hid hsh
    clear hS hseen hsh
    gi_wp2
    refine ⟨by simp, .inl ⟨_, _, rfl, run_takeDeferred hK, ?_⟩⟩
    exact ⟨_, results_tmp rfl _ _ _, ⟨_, SH.out, rfl⟩, hbel.trans (belowK_b (w := w) (Nat.le_refl _) V D _ _ (by simp at hD; omega) hK rfl rfl)⟩
  case stop =>
    rintro D c ys V hD hS ⟨⟨rfl, l, x, rfl, c2, hseen, hno⟩, hbel⟩ hK
    have hsh : Short v (lastS W (l.map sz)) W := by
      rw [List.map_append, List.map_cons, List.map_nil] at hS
      have hsW : IsSize W := by unfold IsSize; unfold IsW at hW; omega
      have hself : Per v W W := fun i hi => by rw [Nat.mod_eq_of_lt hi]
      rcases halves_next (.inl hsW) hS with ⟨h1, h2⟩ | ⟨h1, h2, h3⟩
      · rw [h2] at hno; exact absurd hself hno
      · have hmem : lastS W (l.map sz) ∈ l.map sz := lastS_mem h1
        obtain ⟨y, hy, e⟩ := List.mem_map.1 hmem
        refine ⟨h3, by rw [← e]; exact y.2.2, by rw [← e]; exact hseen y hy, .inr (by rw [← h2]; exact hno)⟩
    have SH := Lib.hid hsh
    clear hS hseen hsh hno
    gi_wp2
    refine ⟨by simp, .inl ⟨_, _, rfl, run_takeDeferred hK, ?_⟩⟩
    exact ⟨_, results_tmp rfl _ _ _, ⟨_, SH.out, rfl⟩, hbel.trans (belowK_b (w := w) (Nat.le_refl _) V D _ _ (by simp at hD; omega) hK rfl rfl)⟩
end Go.Proofs.YtmkeopglgfddjaaDoor
