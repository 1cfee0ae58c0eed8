/-
  For every word, all fields and all numbers BitsApart returns true: where fields are apart, each one of what is packed is its value. No conditions.
-/
import Derived.Test.YtklibabeojpkhaaBitsS
import Derived.OpenShut
namespace Go.Proofs.Ytklibabeojpkhaa.bitsApart
open Go.ChangeShapes Go.WideShapes Go.ChangeAt Go.RowKit Go.Deep BM
set_option linter.unusedVariables false

theorem ret1b' {a : Bool} (h : a = true) : Ending.returned (.bool a) = .returned (.bool true) := by rw [h]

/-! ### the plain part -/
theorem apS_some {L N : Nat → Int} {k m T : Nat} (h : apS L N m = some T) (hk : k ≤ m) : ∃ S, apS L N k = some S := by
  cases g : apS L N k with
  | some S => exact ⟨S, rfl⟩
  | none => rw [apS_none g hk] at h; exact absurd h (by simp)
theorem apS_step {L N : Nat → Int} {k S T : Nat} (h : apS L N k = some S) (h2 : apS L N (k + 1) = some T) : liesB (L k) (N k) = true ∧ S &&& maskN (L k) (N k) = 0 ∧ T = S ||| maskN (L k) (N k) := by
  rw [apS_next h] at h2
  split at h2
  · rename_i g; injection h2 with h2; exact ⟨g.1, g.2, h2.symm⟩
  · exact absurd h2 (by simp)
theorem apS_in {L N : Nat → Int} {i j : Nat} : ∀ {k S : Nat}, apS L N k = some S → i < k → (L i).toNat ≤ j → j < (L i).toNat + (N i).toNat → S.testBit j = true
  | 0, _, _, hi, _, _ => absurd hi (by omega)
  | k + 1, S, h, hi, a, b => by
    obtain ⟨S0, h0⟩ := apS_some h (show k ≤ k + 1 by omega)
    obtain ⟨_, _, rfl⟩ := apS_step h0 h
    rw [Nat.testBit_or, mask_bits]
    by_cases g : i = k
    · subst g; simp [a, b]
    · rw [apS_in h0 (by omega) a b]; rfl
theorem apS_lies {L N : Nat → Int} {i m T : Nat} (h : apS L N m = some T) (hi : i < m) : liesB (L i) (N i) = true := by
  obtain ⟨S, h1⟩ := apS_some h (show i ≤ m by omega)
  obtain ⟨S2, h2⟩ := apS_some h (show i + 1 ≤ m by omega)
  exact (apS_step h1 h2).1
theorem get_other {x l n v l2 n2 : Int} (_h1 : 0 ≤ l) (c1 : 0 ≤ v) (hv : v < powI n) (hd : ∀ j : Nat, l2.toNat ≤ j → j < l2.toNat + n2.toNat → ¬ (l.toNat ≤ j ∧ j < l.toNat + n.toNat)) :
    getI (putI x l n v) l2 n2 = getI x l2 n2 := by
  have hv' : v.toNat < 2 ^ n.toNat := by have : ((2 ^ n.toNat : Nat) : Int) = powI n := rfl; omega
  unfold getI putI
  rw [Int.toNat_natCast]
  congr 1
  apply Nat.eq_of_testBit_eq; intro i
  rw [getN_bit, getN_bit]
  by_cases g : i < n2.toNat
  · rw [putN_bit _ _ _ _ hv', if_neg (hd (l2.toNat + i) (by omega) (by omega))]
  · simp [g]
theorem get_same {x l n v : Int} (c1 : 0 ≤ v) (hv : v < powI n) : getI (putI x l n v) l n = v := by
  have hv' : v.toNat < 2 ^ n.toNat := by have : ((2 ^ n.toNat : Nat) : Int) = powI n := rfl; omega
  unfold getI putI
  rw [Int.toNat_natCast, get_put _ _ _ _ hv']; omega
theorem putR_ok {x l n v : Int} (h : (putR x l n v).2 = 0) : liesB l n = true ∧ v < powI n ∧ (putR x l n v).1 = putI x l n v := by
  unfold putR at h ⊢
  by_cases h1 : liesB l n = true
  · rw [if_pos h1] at h ⊢
    by_cases g : v < powI n
    · rw [if_pos g]; exact ⟨h1, g, rfl⟩
    · rw [if_neg g] at h; exact absurd h (by decide)
  · rw [if_neg h1] at h; exact absurd h (by decide)
theorem packS_before {x : Int} {L N V : Nat → Int} {k m : Nat} (h : (packS x L N V m).2 = 0) (hk : k ≤ m) : (packS x L N V k).2 = 0 := by
  by_cases g : (packS x L N V k).2 = 0
  · exact g
  · rw [packS_stuck (m := m) g hk] at h; exact h
theorem packed {x : Int} {L N V : Nat → Int} {m T : Nat} (ha : apS L N m = some T) (hp : (packS x L N V m).2 = 0) (hV : ∀ i, i < m → 0 ≤ V i) :
    ∀ k, k ≤ m → ∀ i, i < k → getI (packS x L N V k).1 (L i) (N i) = V i := by
  intro k
  induction k with
  | zero => intro _ i hi; omega
  | succ k ih =>
    intro hk i hi
    have hz := packS_before hp (show k ≤ m by omega)
    have hz1 := packS_before hp hk
    have e := packS_next hz
    rw [e] at hz1 ⊢
    obtain ⟨hl, hv, e2⟩ := putR_ok hz1
    obtain ⟨h1, h2, h3, h4, h5⟩ := of_decide_eq_true hl
    rw [e2]
    by_cases g : i = k
    · subst g; exact get_same (hV i (by omega)) hv
    · rw [get_other h1 (hV k (by omega)) hv ?_]
      · exact ih (by omega) i (by omega)
      · intro j a b c
        obtain ⟨S, hS⟩ := apS_some ha (show k ≤ m by omega)
        obtain ⟨S2, hS2⟩ := apS_some ha hk
        obtain ⟨_, hmeet, _⟩ := apS_step hS hS2
        exact meets c.1 c.2 (apS_in hS (by omega) a b) hmeet
theorem packS_bd {x : Int} {L N V : Nat → Int} {m : Nat} (b1 : 0 ≤ x) (b2 : x < 4294967296) (hV : ∀ i, i < m → 0 ≤ V i) : ∀ k, k ≤ m → 0 ≤ (packS x L N V k).1 ∧ (packS x L N V k).1 < 4294967296
  | 0, _ => ⟨b1, b2⟩
  | k + 1, hk => by
    have ih := packS_bd (L := L) (N := N) b1 b2 hV k (by omega)
    by_cases h : (packS x L N V k).2 = 0
    · rw [packS_next h]; exact putR_bd ih.1 ih.2 (hV k (by omega))
    · rw [packS_stuck (m := k + 1) h (by omega)]; exact ih

/-! ### the walks -/
set_option maxHeartbeats 400000 in
theorem walk_many (x : Int) (A B : Option Addr) (len cap vlen vcap : Nat) (w : World) (hf : ¬ (len : Int) ≤ 200) :
    Calls Try.prog 7 #[.int .u32 x, .slice A len cap, .slice B vlen vcap] w fun e w' => e = .returned (.bool true) ∧ Below w.heap.size w w' := by
  have hf' : decide ((len : Int) ≤ 200) = false := by simpa using hf
  clear hf
  go_enter Try.func7, Try.ntmps7
  go_wp2_with (first | (go_at_call 9; refine (live_any _).mono ?_; rintro e w1 ⟨rfl, hb1⟩) | (go_at_call 14; refine (few_any _ _ _ _).mono ?_; rintro e w0 ⟨rfl, rfl⟩; rw [hf']))
  go_ret
  exact ⟨rfl, hb1⟩
set_option maxHeartbeats 400000 in
theorem walk_meet (x : Int) (A B : Option Addr) (len cap vlen vcap : Nat) (w : World) (hf : (len : Int) ≤ 200) (Q : ∀ W, Below w.heap.size w W → Calls Try.prog 18 #[.slice A len cap] W fun e w' => e = .returned (.bool false) ∧ Below W.heap.size W w') :
    Calls Try.prog 7 #[.int .u32 x, .slice A len cap, .slice B vlen vcap] w fun e w' => e = .returned (.bool true) ∧ Below w.heap.size w w' := by
  have Q' := Lib.hid Q
  clear Q
  go_enter Try.func7, Try.ntmps7
  go_wp2_with (first | (go_at_call 9; refine (live_any _).mono ?_; rintro e w1 ⟨rfl, hb1⟩) | (go_at_call 14; refine (few_any _ _ _ _).mono ?_; rintro e w0 ⟨rfl, rfl⟩))
  refine (Q'.out _ hb1).mono ?_; rintro e w2 ⟨rfl, hb2⟩
  go_wp2_with fail
  go_ret
  exact ⟨rfl, Below.thn hb1 hb1.size hb2⟩
set_option maxHeartbeats 400000 in
theorem walk_err (x a e0 : Int) (A B : Option Addr) (len cap vlen vcap : Nat) (w : World) (hf : (len : Int) ≤ 200) (he : (e0 != 0) = true) (Q : ∀ W, Below w.heap.size w W → Calls Try.prog 18 #[.slice A len cap] W fun e w' => e = .returned (.bool true) ∧ Below W.heap.size W w') (P : ∀ W, Below w.heap.size w W → Calls Try.prog 15 #[.int .u32 x, .slice A len cap, .slice B vlen vcap] W fun e w' => e = .returned (.tuple #[.int .u32 a, .int .i64 e0]) ∧ Below W.heap.size W w') :
    Calls Try.prog 7 #[.int .u32 x, .slice A len cap, .slice B vlen vcap] w fun e w' => e = .returned (.bool true) ∧ Below w.heap.size w w' := by
  have Q' := Lib.hid Q
  have P' := Lib.hid P
  clear Q P
  go_enter Try.func7, Try.ntmps7
  go_wp2_with (first | (go_at_call 9; refine (live_any _).mono ?_; rintro e w1 ⟨rfl, hb1⟩) | (go_at_call 14; refine (few_any _ _ _ _).mono ?_; rintro e w0 ⟨rfl, rfl⟩))
  refine (Q'.out _ hb1).mono ?_; rintro e w2 ⟨rfl, hb2⟩
  have h2 := Below.thn hb1 hb1.size hb2
  go_wp2_with fail
  refine (P'.out _ h2).mono ?_; rintro e w3 ⟨rfl, hb3⟩
  go_wp2_with fail
  go_ret
  exact ⟨rfl, Below.thn h2 h2.size hb3⟩
set_option maxHeartbeats 400000 in
theorem walk_yes (x a : Int) (A B : Option Addr) (len cap vcap : Nat) (L N V : Nat → Int) (w : World) (hf : (len : Int) ≤ 200) (a1 : 0 ≤ a) (a2 : a < 4294967296) (hL : Flds w A len L N) (hV : Nums w B len V)
    (hl : ∀ i, i < len → 0 ≤ L i ∧ L i < 32 ∧ 1 ≤ N i ∧ N i ≤ 32 ∧ L i + N i ≤ 32) (hg : ∀ i, i < len → getI a (L i) (N i) = V i) (Q : ∀ W, Below w.heap.size w W → Calls Try.prog 18 #[.slice A len cap] W fun e w' => e = .returned (.bool true) ∧ Below W.heap.size W w') (P : ∀ W, Below w.heap.size w W → Calls Try.prog 15 #[.int .u32 x, .slice A len cap, .slice B len vcap] W fun e w' => e = .returned (.tuple #[.int .u32 a, .int .i64 0]) ∧ Below W.heap.size W w') :
    Calls Try.prog 7 #[.int .u32 x, .slice A len cap, .slice B len vcap] w fun e w' => e = .returned (.bool true) ∧ Below w.heap.size w w' := by
  have Q' := Lib.hid Q
  have P' := Lib.hid P
  have HL := Lib.hid hL
  have HV := Lib.hid hV
  have LL := Lib.hid hl
  have GG := Lib.hid hg
  have AA := Lib.hid (And.intro a1 a2)
  clear Q P hL hV hl hg a1 a2
  go_enter Try.func7, Try.ntmps7
  go_wp2_with (first | (go_at_call 9; refine (live_any _).mono ?_; rintro e w1 ⟨rfl, hb1⟩) | (go_at_call 14; refine (few_any _ _ _ _).mono ?_; rintro e w0 ⟨rfl, rfl⟩))
  refine (Q'.out _ hb1).mono ?_; rintro e w2 ⟨rfl, hb2⟩
  have h2 := Below.thn hb1 hb1.size hb2
  go_wp2_with fail
  refine (P'.out _ h2).mono ?_; rintro e w3 ⟨rfl, hb3⟩
  have h3 := Below.thn h2 h2.size hb3
  clear hb1 hb2 hb3 h2
  go_wp2_with fail
  go_loopw [34] (fun i wr => ∃ k : Nat, k ≤ len ∧ i = .int .i64 k ∧ Below w.heap.size w wr) (fun i _ => len - (intOf i).toNat)
  case atStart => exact ⟨0, by omega, rfl, h3⟩
  case round =>
    obtain ⟨k, hk, rfl, hbel⟩ := hrel
    clear h3
    by_cases hlt : k < len
    · obtain ⟨b, off, rfl, hb, c0, c1⟩ := (HL.out.keep hbel) k hlt
      obtain ⟨bv, offv, rfl, hbv, d0, d1, d2⟩ := (HV.out.keep hbel) k hlt
      obtain ⟨l1, l2, l3, l4, l5⟩ := LL.out k hlt
      have G := Lib.hid (GG.out k hlt)
      have hsz := hbel.size
      clear d1 d2
      go_wp2_with (go_at_call 10; refine (get_yes _ _ _ _ AA.out.1 AA.out.2 l1 l2 l3 l4 l5).mono ?_; rintro e w4 ⟨rfl, hb4⟩; have hB4 := Below.thn ((Below.refl wr.heap.size wr).alloc (Nat.le_refl _) _) (by simp) hb4; have e0 := (hB4.cell (p := ⟨bv, offv + k, none⟩) hbv).trans d0; rw [G.out])
      go_roundw
      case rel => exact ⟨k + 1, by omega, by go_num, Below.thn hbel hsz hB4⟩
      case measure => simp [intOf]; omega
    · have hkl : k = len := by omega
      subst hkl
      go_wp2_with fail
      go_ret
      exact ⟨rfl, hbel⟩
theorem walk (x : Int) (A B : Option Addr) (len cap vlen vcap : Nat) (L N V : Nat → Int) (w : World) (wx : (Lit.int .u32 x).wf = true) (hL : Flds w A len L N) (hV : Nums w B vlen V) :
    Calls Try.prog 7 #[.int .u32 x, .slice A len cap, .slice B vlen vcap] w fun e w' => e = .returned (.bool true) ∧ Below w.heap.size w w' := by
  obtain ⟨b1, b2⟩ := bounds_u32 wx
  by_cases hf : (len : Int) ≤ 200
  · cases ha : apS L N len with
    | none => exact walk_meet x A B len cap vlen vcap w hf (fun W hb => by have := rapart_any A len cap L N W (by omega) (hL.keep hb); rw [ha] at this; exact this)
    | some T =>
      have Q : ∀ W, Below w.heap.size w W → Calls Try.prog 18 #[.slice A len cap] W fun e w' => e = .returned (.bool true) ∧ Below W.heap.size W w' := fun W hb => by have := rapart_any A len cap L N W (by omega) (hL.keep hb); rw [ha] at this; exact this
      by_cases hn : len = vlen
      · subst hn
        have hv0 : ∀ i, i < len → 0 ≤ V i := fun i hi => by obtain ⟨_, _, _, _, _, h, _⟩ := hV i hi; exact h
        by_cases hp : (packS x L N V len).2 = 0
        · obtain ⟨a1, a2⟩ := packS_bd (L := L) (N := N) (m := len) b1 (by omega) hv0 len (Nat.le_refl _)
          exact walk_yes x _ A B len cap vcap L N V w hf a1 a2 hL hV (fun i hi => of_decide_eq_true (apS_lies ha hi)) (packed ha hp hv0 len (Nat.le_refl _)) Q
            (fun W hb => by have := pack_yes x A B len cap vcap L N V W b1 (by omega) (by omega) (hL.keep hb) (hV.keep hb); rw [hp] at this; exact this)
        · exact walk_err x _ _ A B len cap len vcap w hf (by rw [bne_iff_ne]; exact hp) Q (fun W hb => pack_yes x A B len cap vcap L N V W b1 (by omega) (by omega) (hL.keep hb) (hV.keep hb))
      · exact walk_err x 0 1 A B len cap vlen vcap w hf rfl Q (fun W hb => pack_no x A B len cap vlen vcap W hn)
  · exact walk_many x A B len cap vlen vcap w hf

theorem own : ownKnob Try.prog.godebug = none := by kernel_rfl
theorem laidOut : laidOutB Try.prog = true := by kernel_rfl
set_option maxRecDepth 100000 in
theorem lifted (os : Os) (started : os.Started) (H : Type) (enc : TypeId × Value → H) :
    ReturnsInHanded {} Try.checked os 7 .any (Rows.bitsApartSpec.pre6 enc Try.prog Try.f7 Rows.bitsApartRow.domain false) (Rows.bitsApartSpec.post enc Try.prog Try.f7 false true false false) := by
  refine returnsInHanded_of_change (C := Try.checked) own started (by kernel_rfl) Try.func7
    (ChangeSpec.witness6 (enc := enc) (C := Try.checked) false ⟨#[], #[.int .u32 0, .slice none 0 0, .slice none 0 0], []⟩ 8 (by kernel_rfl) (by kernel_rfl) (by kernel_rfl) (by kernel_rfl)) ?_
  intro W base args ds gs before hval0 hW hcnd _
  have hval : ∀ (j : Nat) t v, Try.f7.params[j]? = some t → args[j]? = some v → Value.okWide Try.prog W .any base t v := hval0
  have hW' := hW
  obtain ⟨p, q, hA0, hV, rfl, hfz, hnd⟩ := hW
  have hA : DataW.TrodAll enc Try.prog W 0 (fun _ => true) true Try.f7.params.toList args.toList ds p := hA0
  rw [Try.params7] at hA hval
  obtain ⟨v0, vs0, d0, ds0, p0, q0, hargs, rfl, rfl, h0, r0⟩ := trodAll_cons hA
  obtain ⟨v1, vs1, d1, ds1, p1, q1, rfl, rfl, rfl, h1, r1⟩ := trodAll_cons r0
  obtain ⟨v2, vs2, d2, ds2, p2, q2, rfl, rfl, rfl, h2, r2⟩ := trodAll_cons r1
  obtain ⟨rfl, rfl, rfl⟩ := trodAll_nil r2
  obtain rfl : args = #[v0, v1, v2] := by cases args; simp_all
  obtain ⟨rfl, rfl⟩ := trodVars_none hV
  have k0 := h0
  have lt0 : ∀ x ∈ p0, x.block < W.heap.size := by obtain ⟨m, hm⟩ := k0; exact DataW.trod_lt m _ _ _ hm
  have k1 := h1
  have lt1 : ∀ x ∈ p1, x.block < W.heap.size := by obtain ⟨m, hm⟩ := k1; exact DataW.trod_lt m _ _ _ hm
  have k2 := h2
  have lt2 : ∀ x ∈ p2, x.block < W.heap.size := by obtain ⟨m, hm⟩ := k2; exact DataW.trod_lt m _ _ _ hm
  obtain ⟨a0, rfl, _, _, w0⟩ := open_int Try.underlying22 (hval 0 22 v0 rfl rfl) h0
  obtain ⟨A1, len1, cap1, rfl⟩ := okWide_slice Try.underlying31 (hval 1 31 v1 rfl rfl)
  obtain ⟨L1, N1, F1⟩ : ∃ L N, Flds W A1 len1 L N := by
    obtain ⟨fuel, hf⟩ := h1
    rcases flds_open Try.underlying31 Try.underlying24 (by kernel_rfl) rfl rfl (by kernel_rfl) (by kernel_rfl) Try.underlying3 Try.underlying3 hf with hcs | ⟨x, l, c, hcs, L, N, hF⟩
    · simp [Value.cells] at hcs
      obtain ⟨rfl, rfl, rfl⟩ := hcs
      exact ⟨fun _ => 0, fun _ => 0, fun i hi => absurd hi (by omega)⟩
    · simp [Value.cells] at hcs
      obtain ⟨rfl, rfl, rfl⟩ := hcs
      exact ⟨L, N, hF⟩
  obtain ⟨A2, len2, cap2, rfl⟩ := okWide_slice Try.underlying32 (hval 2 32 v2 rfl rfl)
  obtain ⟨V2, F2⟩ : ∃ V, Nums W A2 len2 V := by
    obtain ⟨fuel, hf⟩ := h2
    rcases open_ints Try.underlying32 Try.underlying22 (by kernel_rfl) hf with ⟨hcs, _⟩ | ⟨x, l, c, zs, hcs, _, hl, hm, hz, _, hcell, hwz⟩
    · simp [Value.cells] at hcs
      obtain ⟨rfl, rfl, rfl⟩ := hcs
      exact ⟨fun _ => 0, fun i hi => absurd hi (by omega)⟩
    · simp [Value.cells] at hcs
      obtain ⟨rfl, rfl, rfl⟩ := hcs
      exact nums_of (by have h1 : zs.length = cap2 := by simpa using hz
                        omega) hcell hwz
  clear hA0 hval0
  refine (walk a0 A1 A2 len1 cap1 len2 cap2 L1 N1 V2 W w0 F1 F2).mono fun e W' ⟨he, bel⟩ => ?_
  subst he
  exact ⟨_, rfl, _, _, _, [], _, [], hW', trodAll_mk1 (shut_bool Try.underlying4 _), (trodAll_cons_mk (Below.trod laidOut (by kernel_rfl) (of_decide_eq_true (by kernel_rfl)) k0 bel lt0) (trodAll_cons_mk (Below.trod laidOut (by kernel_rfl) (of_decide_eq_true (by kernel_rfl)) k1 bel lt1) (trodAll_cons_mk (Below.trod laidOut (by kernel_rfl) (of_decide_eq_true (by kernel_rfl)) k2 bel lt2) trodAll_mk0))), rfl, bel.frame _, fun h => by cases h⟩

theorem over : Rows.bitsApartRow.holds Try.pinned (OpenSpec.ofChange Rows.bitsApartSpec) :=
  OpenClaim.holds_of_wide 7 Try.f7 rfl rfl rfl rfl rfl rfl rfl ⟨rfl, rfl, rfl, rfl, rfl⟩ rfl rfl rfl rfl rfl (by kernel_rfl) Try.func7 (by kernel_rfl)
    (of_decide_eq_true (by kernel_rfl)) (by unfold Func.isWrapper; first | (rw [if_pos (by decide +kernel)]; kernel_rfl) | (rw [if_neg (by decide +kernel)]; exact ⟨rfl, rfl⟩))
    (fun os started H enc _ => lifted os started H enc)

/-- the given statement -/
theorem proved : Rows.BitsApartSaid := over
end Go.Proofs.Ytklibabeojpkhaa.bitsApart
