/-
  A tree's text is read back as its tokens, and these as its terms. No program. Conditions: none.
-/
import Derived.Test.YtdkflmpdelfgoaaGreatDoorExprGlue
import Derived.Test.YtdkflmpdelfgoaaGreatDoorExprNdA
import Derived.StillTailTactics
import Derived.Test.YtdkflmpdelfgoaaGreatDoorExprTm
import Derived.Test.YtdkflmpdelfgoaaGreatDoorExprSaidA
namespace Go.Proofs.YtdkflmpdelfgoaaGreatDoor
open Go.RowKit Go.Shelf
set_option linter.unusedVariables false
set_option linter.unusedSimpArgs false

/-! ### pieces of a line with their tokens -/
abbrev RT := Bs × Tok
def glueR (L : List RT) : Bs := L.flatMap fun p => p.1
def PcOk (p : RT) (r : Bs) : Prop := one (p.1 ++ r) = some (p.2.k, p.2.t, p.2.n, p.1.length) ∧ (p.1 ++ r).take 2 ≠ [47, 47] ∧ 1 ≤ p.1.length ∧ ∀ c, p.1.head? = some c → isBl c = false
def GoodR : List RT → Prop
  | [] => True
  | p :: r => PcOk p (glueR r) ∧ GoodR r
def posR : Nat → List RT → List Tok
  | _, [] => []
  | a, p :: r => ⟨p.2.k, p.2.t, p.2.n, (a : Int)⟩ :: posR (a + p.1.length) r
theorem glueR_cons (p : RT) (r : List RT) : glueR (p :: r) = p.1 ++ glueR r := by unfold glueR; rw [List.flatMap_cons]
theorem glueR_app (a b : List RT) : glueR (a ++ b) = glueR a ++ glueR b := by unfold glueR; rw [List.flatMap_append]
theorem posR_strip : ∀ (L : List RT) (a : Nat), (posR a L).map strip = (L.map Prod.snd).map strip
  | [], a => rfl
  | p :: r, a => by rw [posR, List.map_cons, List.map_cons, List.map_cons, posR_strip r]; rfl
theorem posR_sub : ∀ (L : List RT) (a : Nat) (x : Tok), x ∈ posR a L → ∃ p ∈ L, x.t = p.2.t ∧ x.n = p.2.n
  | p :: r, a, x, h => by
    rcases List.mem_cons.1 h with rfl | h
    · exact ⟨p, by simp, rfl, rfl⟩
    · obtain ⟨q, hq, e⟩ := posR_sub r _ x h
      exact ⟨q, List.mem_cons_of_mem _ hq, e⟩
theorem lex_glueR : ∀ (L : List RT) (a : Nat), GoodR L → lexS a (glueR L) = (posR a L, a + (glueR L).length, 0)
  | [], a, _ => lexS_end (at_ := a) (s := glueR []) rfl
  | t :: r, a, h => by
    obtain ⟨⟨o1, o2, hl, o3⟩, h3⟩ := h
    have hg := glueR_cons t r
    have hb : run isBl (t.1 ++ glueR r) = 0 := by
      cases ht : t.1 with
      | nil => rw [ht] at hl; simp at hl
      | cons c y => rw [List.cons_append]; exact run_no _ (o3 c (by rw [ht]; rfl))
    have hs : skipB (t.1 ++ glueR r) = 0 := by
      unfold skipB
      rw [hb, List.drop_zero, if_neg o2]
    have hne : (t.1 ++ glueR r).drop (skipB (t.1 ++ glueR r)) ≠ [] := by
      rw [hs, List.drop_zero]
      intro e
      have := congrArg List.length e
      rw [List.length_append, List.length_nil] at this
      omega
    have ho : one ((t.1 ++ glueR r).drop (skipB (t.1 ++ glueR r))) = some (t.2.k, t.2.t, t.2.n, t.1.length) := by rw [hs, List.drop_zero]; exact o1
    rw [hg, lexS_step hne ho, hs, List.drop_zero, Nat.add_zero]
    have hd : (t.1 ++ glueR r).drop t.1.length = glueR r := by simp
    rw [hd, lex_glueR r _ h3]
    simp only [posR, List.length_append]
    rw [Nat.add_assoc]
theorem pc_text {t : Tok} (h : mayP t = true) {r : Bs} (hb : Behind t r) : PcOk (textB t, t) r :=
  ⟨(one_text h hb).1, (one_text h hb).2, text_len h, (head_text h).2.2⟩

/-! ### sixteen digits -/
theorem hexV_C : ∀ d : _root_.Fin 16, hexV (hexC d.val) = some d.val ∧ isLD (hexC d.val) = true := by decide +kernel
theorem hexL_val (u : Nat) : ∀ (i a : Nat), valF 16 a (hexL u i) = some (a * 16 ^ i + u % 16 ^ i)
  | 0, a => by rw [hexL, valF]; simp [Nat.mod_one]
  | i + 1, a => by
    have hlt : u / 16 ^ i % 16 < 16 := Nat.mod_lt _ (by decide)
    have hv := (hexV_C ⟨u / 16 ^ i % 16, hlt⟩).1
    simp only at hv
    rw [hexL, valF, hv]
    simp only [hlt, if_true]
    rw [hexL_val u i, Nat.mod_pow_succ, Nat.pow_succ, Nat.add_mul, Nat.mul_assoc, Nat.mul_comm 16 (16 ^ i), Nat.mul_comm (u / 16 ^ i % 16) (16 ^ i)]
    congr 1
    omega
theorem hexL_ld (u : Nat) : ∀ i, (hexL u i).all isLD = true
  | 0 => rfl
  | i + 1 => by
    have hlt : u / 16 ^ i % 16 < 16 := Nat.mod_lt _ (by decide)
    rw [hexL, List.all_cons, (hexV_C ⟨u / 16 ^ i % 16, hlt⟩).2, hexL_ld u i]; rfl
theorem pc_hex {u : Nat} (hu : u < 18446744073709551616) {r : Bs} (hr : ∀ c, r.head? = some c → isLD c = false) : PcOk (48 :: 120 :: hexL u 16, ⟨2, [], u, 0⟩) r := by
  have hall : (48 :: 120 :: hexL u 16 : Bs).all isLD = true := by
    rw [List.all_cons, List.all_cons, hexL_ld]; decide
  have hrun : run isLD (48 :: 120 :: hexL u 16 ++ r) = (48 :: 120 :: hexL u 16).length := run_app isLD _ _ hall hr
  have ht : (48 :: 120 :: hexL u 16 ++ r).take (48 :: 120 :: hexL u 16 : Bs).length = 48 :: 120 :: hexL u 16 := by simp
  have hv := hexL_val u 16 0
  rw [Nat.zero_mul, Nat.zero_add, Nat.mod_eq_of_lt (by omega)] at hv
  have hne : hexL u 16 ≠ [] := by
    intro e
    have := hexL_len u 16
    rw [e] at this; cases this
  have hp : parseD (48 :: 120 :: hexL u 16) = some u := by
    unfold parseD digitsV
    rw [if_pos (by simp)]
    show (if hexL u 16 = [] then none else _) = _
    rw [if_neg hne]
    show (match valF 16 0 (hexL u 16) with | some v => if v < 18446744073709551616 then some v else none | none => none) = _
    rw [hv]
    simp only [hu, if_true]
  have hnum : numB (48 :: 120 :: hexL u 16 ++ r) = some (u, (48 :: 120 :: hexL u 16 : Bs).length) := by
    unfold numB
    rw [if_neg (by simp), hrun, ht, hp]
    rfl
  refine ⟨?_, by simp, by simp, fun c hc => by simp at hc; subst hc; decide⟩
  show one (48 :: (120 :: hexL u 16 ++ r)) = _
  unfold one
  have hnum' : numB (48 :: (120 :: hexL u 16 ++ r)) = some (u, (48 :: 120 :: hexL u 16 : Bs).length) := hnum
  simp only [show isL 48 = false by decide, show isD 48 = true by decide, Bool.true_or, if_true, Bool.false_eq_true, if_false, hnum', Option.map_some]

/-! ### a tree's pieces -/
def sgR (k : Nat) : RT := ((signB k).data.toList, ⟨4, (signB k).data.toList, 0, 0⟩)
def opR : RT := ([40], ⟨4, [40], 0, 0⟩)
def clR : RT := ([41], ⟨4, [41], 0, 0⟩)
def lfR (t : Tm) : RT := if t.k = 2 then (t.s.data.toList, ⟨1, t.s.data.toList, 0, 0⟩) else if 0 ≤ t.n then (Lib.decDigits t.n.toNat, ⟨2, [], t.n.toNat, 0⟩) else (48 :: 120 :: hexL (t.n % 18446744073709551616).toNat 16, ⟨2, [], (t.n % 18446744073709551616).toNat, 0⟩)
def pcs : Nd → List RT
  | .lf t => [lfR t]
  | .un t a => opR :: sgR t.k.toNat :: (pcs a ++ [clR])
  | .bi t a b => opR :: (pcs a ++ sgR t.k.toNat :: (pcs b ++ [clR]))
def termsN : Nd → List Tm
  | .lf t => [t]
  | .un t a => termsN a ++ [t]
  | .bi t a b => termsN a ++ termsN b ++ [t]
def openN : Nd → Nat
  | .lf _ => 0
  | .un _ a => openN a + 2
  | .bi _ a b => max (openN a) (openN b) + 1
def OkT : Nd → Prop
  | .lf t => (t.k = 1 ∨ t.k = 2) ∧ mayB t = true ∧ InB t.n
  | .un t a => (t.k = 3 ∨ t.k = 4) ∧ mayB t = true ∧ OkT a
  | .bi t a b => (5 ≤ t.k ∧ t.k ≤ 14) ∧ mayB t = true ∧ OkT a ∧ OkT b
theorem pcs_text : ∀ x : Nd, glueR (pcs x) = x.text.data.toList
  | .lf t => by
    show (lfR t).1 ++ [] = _
    unfold lfR Nd.text leafB saidB
    by_cases h2 : t.k = 2
    · rw [if_pos h2, if_pos h2]; simp
    · rw [if_neg h2, if_neg h2]
      by_cases h0 : 0 ≤ t.n
      · rw [if_pos h0, if_pos h0]; simp
      · rw [if_neg h0, if_neg h0]; simp [hexN, ByteArray.data_append]
  | .un t a => by
    rw [pcs, glueR_cons, glueR_cons, glueR_app, pcs_text a]
    simp [Nd.text, opR, sgR, clR, glueR, ByteArray.data_append]
  | .bi t a b => by
    rw [pcs, glueR_cons, glueR_app, glueR_cons, glueR_app, pcs_text a, pcs_text b]
    simp [Nd.text, opR, sgR, clR, glueR, ByteArray.data_append]
theorem sg_may : ∀ k : _root_.Fin 15, 3 ≤ k.val → mayP (sgR k.val).2 = true ∧ textB (sgR k.val).2 = (sgR k.val).1 ∧ (∃ c r, (sgR k.val).1 = c :: r ∧ isLD c = false) := by
  intro k hk
  have : ∀ k : _root_.Fin 15, 3 ≤ k.val → (mayP (sgR k.val).2 && (textB (sgR k.val).2 == (sgR k.val).1) && (match (sgR k.val).1 with | c :: _ => !isLD c | [] => false)) = true := by decide +kernel
  have h := this k hk
  simp only [Bool.and_eq_true, beq_iff_eq] at h
  refine ⟨h.1.1, h.1.2, ?_⟩
  have h2 := h.2
  split at h2
  · rename_i c r e; exact ⟨c, r, e, by simpa using h2⟩
  · cases h2
/-- the first byte of a tree's text is no slash -/
theorem pcs_head : ∀ (x : Nd) (R : List RT), OkT x → (glueR (pcs x ++ R)).head? ≠ some 47 ∧ ∃ c y, glueR (pcs x ++ R) = c :: y
  | .lf t, R, h => by
    rw [show pcs (.lf t) ++ R = lfR t :: R from rfl, glueR_cons]
    unfold lfR
    by_cases h2 : t.k = 2
    · rw [if_pos h2]
      have hm := h.2.1
      unfold mayB at hm
      rw [if_neg (by omega), if_pos h2] at hm
      simp only [Bool.and_eq_true, symB, decide_eq_true_eq] at hm
      obtain ⟨-, c, r, e, hc⟩ := nameB_all hm.2.2
      show (t.s.data.toList ++ _).head? ≠ _ ∧ _
      rw [e]
      exact ⟨by simp; intro e'; rw [e'] at hc; revert hc; decide, c, _, rfl⟩
    · rw [if_neg h2]
      by_cases h0 : 0 ≤ t.n
      · rw [if_pos h0]
        show (Lib.decDigits t.n.toNat ++ _).head? ≠ _ ∧ _
        cases hd : Lib.decDigits t.n.toNat with
        | nil => exact absurd hd (dec_ne _)
        | cons c y =>
          have ha := dec_all t.n.toNat
          rw [hd, List.all_cons, Bool.and_eq_true] at ha
          exact ⟨by simp; intro e'; have h1 := ha.1; rw [e'] at h1; revert h1; decide, c, _, rfl⟩
      · rw [if_neg h0]; exact ⟨by simp, _, _, rfl⟩
  | .un t a, R, h => ⟨by simp [pcs, glueR, opR], _, _, rfl⟩
  | .bi t a b, R, h => ⟨by simp [pcs, glueR, opR], _, _, rfl⟩
theorem pc_sg {k : Nat} (h3 : 3 ≤ k) (h14 : k ≤ 14) {r : Bs} (hr : r.head? ≠ some 47) : PcOk (sgR k) r := by
  obtain ⟨h1, h2, -⟩ := sg_may ⟨k, by omega⟩ h3
  simp only at h1 h2
  have := pc_text h1 (r := r) ⟨(fun hw => by cases hw), (fun _ => hr)⟩
  rw [h2] at this
  exact this
theorem pc_op (r : Bs) : PcOk opR r := pc_text (t := ⟨4, [40], 0, 0⟩) (by decide) ⟨(fun hw => by cases hw), (fun hw => by cases hw)⟩
theorem pc_cl (r : Bs) : PcOk clR r := pc_text (t := ⟨4, [41], 0, 0⟩) (by decide) ⟨(fun hw => by cases hw), (fun hw => by cases hw)⟩
theorem pc_lf {t : Tm} (h : OkT (.lf t)) {r : Bs} (hr : ∀ c, r.head? = some c → isLD c = false) : PcOk (lfR t) r := by
  unfold lfR
  have hm := h.2.1
  have hI := h.2.2
  unfold InB at hI
  by_cases h2 : t.k = 2
  · rw [if_pos h2]
    unfold mayB at hm
    rw [if_neg (by omega), if_pos h2] at hm
    simp only [Bool.and_eq_true, decide_eq_true_eq] at hm
    exact pc_text (t := ⟨1, t.s.data.toList, 0, 0⟩) (may_nm hm.2) ⟨(fun _ => hr), (fun hw => by cases hw)⟩
  · rw [if_neg h2]
    by_cases h0 : 0 ≤ t.n
    · rw [if_pos h0]
      exact pc_text (t := ⟨2, [], t.n.toNat, 0⟩) (may_no (by omega)) ⟨(fun _ => hr), (fun hw => by cases hw)⟩
    · rw [if_neg h0]
      exact pc_hex (by omega) hr
theorem goodR_tree : ∀ (x : Nd) (R : List RT), OkT x → GoodR R → (∀ c, (glueR R).head? = some c → isLD c = false) → GoodR (pcs x ++ R)
  | .lf t, R, h, hR, hh => ⟨pc_lf h hh, hR⟩
  | .un t a, R, h, hR, hh => by
    have hk := h.1
    show GoodR (opR :: sgR t.k.toNat :: ((pcs a ++ [clR]) ++ R))
    rw [List.append_assoc]
    refine ⟨pc_op _, pc_sg (by omega) (by omega) (pcs_head a _ h.2.2).1, goodR_tree a _ h.2.2 ⟨pc_cl _, hR⟩ (fun c hc => by simp [glueR, clR] at hc; subst hc; decide)⟩
  | .bi t a b, R, h, hR, hh => by
    have hk := h.1
    show GoodR (opR :: ((pcs a ++ sgR t.k.toNat :: (pcs b ++ [clR])) ++ R))
    rw [List.append_assoc]
    obtain ⟨-, -, c, r, e, hc⟩ := sg_may ⟨t.k.toNat, by omega⟩ (by show 3 ≤ t.k.toNat; omega)
    simp only at e
    refine ⟨pc_op _, goodR_tree a _ h.2.2.1 ?_ ?_⟩
    · show GoodR (sgR t.k.toNat :: ((pcs b ++ [clR]) ++ R))
      rw [List.append_assoc]
      exact ⟨pc_sg (by omega) (by omega) (pcs_head b _ h.2.2.2).1, goodR_tree b _ h.2.2.2 ⟨pc_cl _, hR⟩ (fun c hc => by simp [glueR, clR] at hc; subst hc; decide)⟩
    · intro d hd
      rw [show (sgR t.k.toNat :: (pcs b ++ [clR])) ++ R = sgR t.k.toNat :: ((pcs b ++ [clR]) ++ R) from rfl, glueR_cons, e] at hd
      simp at hd
      subst hd; exact hc

/-! ### read back -/
def toksN (x : Nd) : List Tok := (pcs x).map Prod.snd
theorem toks_un (t : Tm) (a : Nd) : toksN (.un t a) = opR.2 :: (sgR t.k.toNat).2 :: (toksN a ++ [clR.2]) := by unfold toksN; simp [pcs]
theorem toks_bi (t : Tm) (a b : Nd) : toksN (.bi t a b) = opR.2 :: (toksN a ++ (sgR t.k.toNat).2 :: (toksN b ++ [clR.2])) := by unfold toksN; simp [pcs]
def needN : Nd → Nat
  | .lf _ => 1
  | .un _ a => needN a + 3
  | .bi _ a b => max (needN a) (needN b) + 4
theorem need_len : ∀ x : Nd, needN x ≤ 3 * (toksN x).length ∧ 1 ≤ (toksN x).length
  | .lf t => by unfold toksN pcs needN; simp
  | .un t a => by
    have := need_len a
    rw [toks_un, needN]
    simp only [List.length_cons, List.length_append, List.length_nil]
    omega
  | .bi t a b => by
    have h1 := need_len a
    have h2 := need_len b
    rw [toks_bi, needN]
    simp only [List.length_cons, List.length_append, List.length_nil]
    omega
theorem need_pos : ∀ x : Nd, 1 ≤ needN x
  | .lf _ => by unfold needN; omega
  | .un _ _ => by unfold needN; omega
  | .bi _ _ _ => by unfold needN; omega
theorem read_beh {kk : Nat} (h : 3 ≤ kk ∧ kk ≤ 4) : readF (sgR kk).2 = .beh kk := by
  have h' : kk = 3 ∨ kk = 4 := by omega
  rcases h' with rfl | rfl <;> (show _ = _; kernel_rfl)
theorem read_sg : ∀ k : _root_.Fin 15, 5 ≤ k.val → opOf (sgR k.val).2 2 = some k.val ∧ groupN k.val ≤ 6 := by decide +kernel
theorem read_op : readF opR.2 = .wit := by show _ = _; kernel_rfl
theorem op_cl : opOf clR.2 2 = none := by decide
theorem is_cl : isG clR.2 BC = true := by decide
theorem wrap_u {n : Int} (h : InB n) (h0 : n < 0) : IntKind.i64.wrap (((n % 18446744073709551616).toNat : Nat) : Int) = n := by
  unfold InB at h
  have e : (((n % 18446744073709551616).toNat : Nat) : Int) = n + 18446744073709551616 := by omega
  rw [e]
  simp only [IntKind.wrap, IntKind.bits, IntKind.signed]
  simp
  omega
theorem atom_lf {t : Tm} (h : OkT (.lf t)) : atomT (lfR t).2 = some t := by
  obtain ⟨hk, hm, hI⟩ := h
  have hI' := hI
  unfold InB at hI'
  obtain ⟨k, n, s⟩ := t
  simp only at hk hI'
  unfold mayB at hm
  simp only at hm
  unfold lfR
  simp only
  by_cases h2 : k = 2
  · subst h2
    rw [if_neg (by decide), if_pos rfl] at hm
    simp only [Bool.and_eq_true, decide_eq_true_eq] at hm
    obtain ⟨rfl, hs⟩ := hm
    rw [if_pos rfl]
    exact atom_nm hs
  · obtain rfl : k = 1 := by omega
    rw [if_pos rfl] at hm
    obtain rfl : s = E0 := of_decide_eq_true hm
    rw [if_neg h2]
    by_cases h0 : 0 ≤ n
    · rw [if_pos h0]
      show atomT (noT n.toNat) = _
      rw [atom_no]
      unfold noM
      rw [wrap_small (by omega)]
      congr 2
      omega
    · rw [if_neg h0]
      show atomT (noT (n % 18446744073709551616).toNat) = _
      rw [atom_no]
      unfold noM
      rw [wrap_u hI (show n < 0 by omega)]
theorem op_mk {t : Tm} (hm : mayB t = true) (h : 3 ≤ t.k) : t = ⟨((t.k.toNat : Nat) : Int), 0, E0⟩ := by
  obtain ⟨k, n, s⟩ := t
  unfold mayB at hm
  simp only at hm h ⊢
  rw [if_neg (by omega), if_neg (by omega)] at hm
  simp only [Bool.and_eq_true, decide_eq_true_eq] at hm
  obtain ⟨⟨⟨-, -⟩, rfl⟩, rfl⟩ := hm
  congr 1
  omega
theorem loop_cl {T : List Tok} {f g : Nat} {s : St} {r : List Tok} (h : T.drop s.at_ = clR.2 :: r) : runP T (f + 1) (.loop g) s = .ok s :=
  loop_stop (fun k hk => by rw [next_of h, op_cl] at hk; cases hk)
theorem opd_tree : ∀ (x : Nd) (T : List Tok) (f : Nat) (s : St) (R : List Tok), OkT x → T.drop s.at_ = toksN x ++ R → s.cnt + (termsN x).length ≤ 256 → s.op + openN x ≤ 64 → needN x ≤ f →
    runP T f .opd s = .ok ⟨s.at_ + (toksN x).length, s.tms ++ termsN x, s.cnt + (termsN x).length, s.op⟩
  | .lf t, T, f, s, R, h, hd, hc, ho, hf => by
    obtain ⟨f, rfl⟩ : ∃ g, f = g + 1 := ⟨f - 1, by unfold needN at hf; omega⟩
    exact opd_atom (r := R) hd (atom_lf h) (by simpa [termsN] using hc)
  | .un t a, T, f, s, R, h, hd, hc, ho, hf => by
    rw [needN] at hf
    rw [openN] at ho
    rw [toks_un] at hd
    have hk := h.1
    have ht := op_mk h.2.1 (by omega)
    obtain ⟨kk, hkk⟩ : ∃ kk, t.k.toNat = kk := ⟨_, rfl⟩
    rw [hkk] at hd ht
    have hk34 : 3 ≤ kk ∧ kk ≤ 4 := by omega
    have hrd := read_beh hk34
    have e1 : T.drop (s.at_ + 1) = (sgR kk).2 :: (toksN a ++ (clR.2 :: R)) := by
      have := drop_next (n := s.at_) hd
      rw [this]; simp
    have e2 : T.drop (s.at_ + 1 + 1) = toksN a ++ (clR.2 :: R) := drop_next e1
    have e3 : T.drop (s.at_ + 1 + 1 + (toksN a).length) = clR.2 :: R := by rw [← List.drop_drop, e2]; simp
    obtain ⟨f, rfl⟩ : ∃ g, f = g + 3 := ⟨f - 3, by omega⟩
    have en1 : enterF s = .ok ⟨s.at_ + 1, s.tms, s.cnt, s.op + 1⟩ := by unfold enterF; rw [if_neg (by omega)]
    have en2 : enterF ⟨s.at_ + 1, s.tms, s.cnt, s.op + 1⟩ = .ok ⟨s.at_ + 1 + 1, s.tms, s.cnt, s.op + 1 + 1⟩ := by unfold enterF; rw [if_neg (by simp only; omega)]
    have hl : (termsN (.un t a)).length = (termsN a).length + 1 := by rw [termsN, List.length_append]; rfl
    rw [hl] at hc
    have ih := opd_tree a T f ⟨s.at_ + 1 + 1, s.tms, s.cnt + 1, s.op + 1 + 1⟩ (clR.2 :: R) h.2.2 e2 (by simp only; omega) (by simp only; omega) (by omega)
    have o1 : runP T (f + 1) .opd ⟨s.at_ + 1, s.tms, s.cnt, s.op + 1⟩ = .ok ⟨s.at_ + 1 + 1 + (toksN a).length, s.tms ++ termsN a ++ [⟨(kk : Int), 0, E0⟩], s.cnt + 1 + (termsN a).length, s.op + 1⟩ := by
      rw [runP, next_of (s := ⟨s.at_ + 1, s.tms, s.cnt, s.op + 1⟩) e1, hrd]
      simp only
      rw [en2]
      simp only [Except.bind]
      rw [ih]
      simp
    have r1 : runP T (f + 2) (.row 6) ⟨s.at_ + 1, s.tms, s.cnt, s.op + 1⟩ = .ok ⟨s.at_ + 1 + 1 + (toksN a).length, s.tms ++ termsN a ++ [⟨(kk : Int), 0, E0⟩], s.cnt + 1 + (termsN a).length, s.op + 1⟩ := by
      rw [runP, o1]
      simp only [Except.bind]
      exact loop_cl (r := R) e3
    rw [runP, next_of hd, read_op]
    simp only
    rw [en1]
    simp only [Except.bind]
    rw [r1]
    simp only
    rw [next_of (s := ⟨s.at_ + 1 + 1 + (toksN a).length, s.tms ++ termsN a ++ [(⟨(kk : Int), 0, E0⟩ : Tm)], s.cnt + 1 + (termsN a).length, s.op + 1⟩) e3, is_cl, if_pos rfl, hl, toks_un, termsN, ← ht]
    simp only [List.length_cons, List.length_append, List.length_nil, List.append_assoc]
    congr 2 <;> omega
  | .bi t a b, T, f, s, R, h, hd, hc, ho, hf => by
    rw [needN] at hf
    rw [openN] at ho
    rw [toks_bi] at hd
    have hk := h.1
    have ht := op_mk h.2.1 (by omega)
    obtain ⟨kk, hkk⟩ : ∃ kk, t.k.toNat = kk := ⟨_, rfl⟩
    rw [hkk] at hd ht
    have hk5 : 5 ≤ kk ∧ kk ≤ 14 := by omega
    obtain ⟨hop, hgr⟩ := read_sg ⟨kk, by omega⟩ hk5.1
    simp only at hop hgr
    have e1 : T.drop (s.at_ + 1) = toksN a ++ ((sgR kk).2 :: (toksN b ++ (clR.2 :: R))) := by
      have := drop_next (n := s.at_) hd
      rw [this]; simp
    have e2 : T.drop (s.at_ + 1 + (toksN a).length) = (sgR kk).2 :: (toksN b ++ (clR.2 :: R)) := by rw [← List.drop_drop, e1]; simp
    have e3 : T.drop (s.at_ + 1 + (toksN a).length + 1) = toksN b ++ (clR.2 :: R) := drop_next e2
    have e4 : T.drop (s.at_ + 1 + (toksN a).length + 1 + (toksN b).length) = clR.2 :: R := by rw [← List.drop_drop, e3]; simp
    obtain ⟨f, rfl⟩ : ∃ g, f = g + 4 := ⟨f - 4, by omega⟩
    have en1 : enterF s = .ok ⟨s.at_ + 1, s.tms, s.cnt, s.op + 1⟩ := by unfold enterF; rw [if_neg (by omega)]
    have hl : (termsN (.bi t a b)).length = (termsN a).length + (termsN b).length + 1 := by rw [termsN, List.length_append, List.length_append]; rfl
    rw [hl] at hc
    have ih1 := opd_tree a T (f + 2) ⟨s.at_ + 1, s.tms, s.cnt, s.op + 1⟩ ((sgR kk).2 :: (toksN b ++ (clR.2 :: R))) h.2.2.1 e1 (by simp only; omega) (by simp only; omega) (by omega)
    have ih2 := opd_tree b T f ⟨s.at_ + 1 + (toksN a).length + 1, s.tms ++ termsN a, s.cnt + (termsN a).length + 1, s.op + 1⟩ (clR.2 :: R) h.2.2.2 e3 (by simp only; omega) (by simp only; omega) (by omega)
    have rb : ∀ g, runP T (f + 1) (.row g) ⟨s.at_ + 1 + (toksN a).length + 1, s.tms ++ termsN a, s.cnt + (termsN a).length + 1, s.op + 1⟩ = .ok ⟨s.at_ + 1 + (toksN a).length + 1 + (toksN b).length, s.tms ++ termsN a ++ termsN b, s.cnt + (termsN a).length + 1 + (termsN b).length, s.op + 1⟩ := by
      intro g
      rw [runP, ih2]
      simp only [Except.bind]
      obtain ⟨f', rfl⟩ : ∃ f', f = f' + 1 := ⟨f - 1, by have := need_pos b; omega⟩
      exact loop_cl (r := R) e4
    have lp : runP T (f + 2) (.loop 6) ⟨s.at_ + 1 + (toksN a).length, s.tms ++ termsN a, s.cnt + (termsN a).length, s.op + 1⟩ = .ok ⟨s.at_ + 1 + (toksN a).length + 1 + (toksN b).length, s.tms ++ termsN a ++ termsN b ++ [⟨(kk : Int), 0, E0⟩], s.cnt + (termsN a).length + 1 + (termsN b).length, s.op + 1⟩ := by
      rw [runP, next_of (s := ⟨s.at_ + 1 + (toksN a).length, s.tms ++ termsN a, s.cnt + (termsN a).length, s.op + 1⟩) e2, hop]
      simp only
      rw [if_neg (by omega), rb]
      simp only [Except.bind]
      exact loop_cl (r := R) e4
    have r1 : runP T (f + 3) (.row 6) ⟨s.at_ + 1, s.tms, s.cnt, s.op + 1⟩ = .ok ⟨s.at_ + 1 + (toksN a).length + 1 + (toksN b).length, s.tms ++ termsN a ++ termsN b ++ [⟨(kk : Int), 0, E0⟩], s.cnt + (termsN a).length + 1 + (termsN b).length, s.op + 1⟩ := by
      rw [runP, ih1]
      simp only [Except.bind]
      exact lp
    rw [runP, next_of hd, read_op]
    simp only
    rw [en1]
    simp only [Except.bind]
    rw [r1]
    simp only
    rw [next_of (s := ⟨s.at_ + 1 + (toksN a).length + 1 + (toksN b).length, s.tms ++ termsN a ++ termsN b ++ [(⟨(kk : Int), 0, E0⟩ : Tm)], s.cnt + (termsN a).length + 1 + (termsN b).length, s.op + 1⟩) e4, is_cl, if_pos rfl, hl, toks_bi, termsN, ← ht]
    simp only [List.length_cons, List.length_append, List.length_nil, List.append_assoc]
    congr 2 <;> omega
theorem parse_tree {x : Nd} (h : OkT x) (hc : (termsN x).length ≤ 256) (ho : openN x ≤ 64) : parseT (toksN x) = (termsN x, (toksN x).length, 0) := by
  have hn := need_len x
  have e := opd_tree x (toksN x) (3 * (toksN x).length + 1) ⟨0, [], 0, 0⟩ [] h (by simp) (by simpa using hc) (by simpa using ho) (by omega)
  have hr : runP (toksN x) (3 * (toksN x).length + 2) (.row 6) ⟨0, [], 0, 0⟩ = .ok ⟨(toksN x).length, termsN x, (termsN x).length, 0⟩ := by
    rw [runP, e]
    simp only [Except.bind, Nat.zero_add, List.nil_append]
    refine loop_stop (fun k hk => ?_)
    rw [next_end (s := ⟨(toksN x).length, termsN x, (termsN x).length, 0⟩) (by simp), op0 2 (by omega)] at hk
    cases hk
  unfold parseT
  rw [hr]
theorem parse_same {T T' : List Tok} (h : T.map strip = T'.map strip) : parseT T = parseT T' := by
  have hl : T.length = T'.length := by simpa using congrArg List.length h
  have hs : ∀ s, strip (nextT T s) = strip (nextT T' s) := by
    intro s
    unfold nextT
    rw [List.getD_eq_getElem?_getD, List.getD_eq_getElem?_getD]
    have := congrArg (fun l => l[s.at_]?) h
    simp only [List.getElem?_map] at this
    have key : ∀ (x y : Option Tok), x.map strip = y.map strip → strip (x.getD tok0) = strip (y.getD tok0) := by
      intro x y e
      cases x with
      | none =>
        cases y with
        | none => rfl
        | some b => simp at e
      | some a =>
        cases y with
        | none => simp at e
        | some b => simpa using e
    exact key _ _ this
  unfold parseT
  rw [runP_same hs, hl]
/-- a fold's trees hold the terms in their order -/
theorem mk_terms {t : Tm} (hm : mayB t = true) {A : List Nd} (hl : A.length = takesN t.k) : termsN (mkN t A) = A.flatMap termsN ++ [t] := by
  rcases takes_may hm with ⟨h, hk⟩ | ⟨h, hk⟩ | ⟨h, hk⟩
  · rw [h] at hl
    obtain rfl := List.length_eq_zero_iff.1 hl
    rfl
  · rw [h] at hl
    obtain ⟨a, rfl⟩ := List.length_eq_one_iff.1 hl
    simp [mkN, termsN]
  · rw [h] at hl
    match A, hl with
    | [a, b], _ => simp [mkN, termsN]
theorem mk_okT {t : Tm} (hm : mayB t = true) (hI : InB t.n) {A : List Nd} (hl : A.length = takesN t.k) (hA : ∀ x ∈ A, OkT x) : OkT (mkN t A) := by
  rcases takes_may hm with ⟨h, hk⟩ | ⟨h, hk⟩ | ⟨h, hk⟩
  · rw [h] at hl
    obtain rfl := List.length_eq_zero_iff.1 hl
    exact ⟨hk, hm, hI⟩
  · rw [h] at hl
    obtain ⟨a, rfl⟩ := List.length_eq_one_iff.1 hl
    exact ⟨by omega, hm, hA a (by simp)⟩
  · rw [h] at hl
    match A, hl with
    | [a, b], _ => exact ⟨hk, hm, hA a (by simp), hA b (by simp)⟩
theorem fold_terms : ∀ (T : List Tm) (st st' : List Nd) (n : Nat), checkF st.length T = some n → foldN st T = some st' → (∀ x ∈ T, InB x.n) → (∀ x ∈ st, OkT x) → st'.flatMap termsN = st.flatMap termsN ++ T ∧ ∀ x ∈ st', OkT x
  | [], st, st', n, hc, hf, hI, h => by cases hf; simpa using h
  | t :: T, st, st', n, hc, hf, hI, h => by
    obtain ⟨hm, hk, hc'⟩ := check_cons hc
    rw [foldN] at hf
    split at hf
    · have hok : ∀ x ∈ st.take (st.length - takesN t.k) ++ [mkN t (st.drop (st.length - takesN t.k))], OkT x := by
        intro x hx
        rcases List.mem_append.1 hx with hx | hx
        · exact h x (List.mem_of_mem_take hx)
        · rw [List.mem_singleton.1 hx]
          exact mk_okT hm (hI t (by simp)) (ndrop_len hk) (fun y hy => h y (List.mem_of_mem_drop hy))
      obtain ⟨e, h2⟩ := fold_terms T _ st' n (by rw [nnext_len _ hk]; exact hc') hf (fun x hx => hI x (List.mem_cons_of_mem _ hx)) hok
      refine ⟨?_, h2⟩
      rw [e, List.flatMap_append, List.flatMap_singleton, mk_terms hm (ndrop_len hk), ← List.append_assoc, ← List.flatMap_append, List.take_append_drop, List.append_assoc]
      rfl
    · cases hf
end Go.Proofs.YtdkflmpdelfgoaaGreatDoor
namespace Go.Proofs.YtdkflmpdelfgoaaGreatDoor
open Go.RowKit Go.Shelf
set_option linter.unusedVariables false
set_option linter.unusedSimpArgs false
attribute [local go_sem] Oper.semAt_some

def inC (l : List Nat) : List Value := l.map fun (a : Nat) => Value.int .i64 (a : Int)
theorem inC_at {l : List Nat} {k a : Nat} (h : l[k]? = some a) : (inC l)[k]? = some (.int .i64 (a : Int)) := by unfold inC; rw [List.getElem?_map, h]; rfl
theorem infoInt : (Tryz.prog.info? 3).map (fun i => (i.zero, i.size, i.bytes)) = some (some (.int .i64 0), 1, 8) := by kernel_rfl
/-- what a round begins with -/
structure OpI (w : World) (T : List Tm) (k : Nat) (L : List Nd) (lv : Value) (wr : World) : Prop where
  le : k ≤ T.length
  row : wr.ownsRow w.heap.size 3 1 lv L.length (inC (L.map openN))
  fold : foldN [] (T.take k) = some L
  chk : checkF 0 (T.take k) = some L.length
  small : ∀ x ∈ L, openN x ≤ 2 * k
  bel : Below w.heap.size w wr
theorem OpI.next {w : World} {T : List Tm} {k : Nat} {L : List Nd} {lv : Value} {wr : World} (h : OpI w T k L lv wr) {x : Tm} (hx : T[k]? = some x) (hm : mayB x = true) (ht : takesN x.k ≤ L.length) (hT : foldN [] T ≠ none) {N : Nat} (hN : L.length - takesN x.k = N) {y : Nd} (hy : mkN x (L.drop N) = y) (hyo : openN y ≤ 2 * (k + 1))
    {lv' : Value} {V : World} (hrow : V.ownsRow w.heap.size 3 1 lv' (N + 1) (inC ((L.take N).map openN ++ [openN y]))) (hb : Below w.heap.size w V) : OpI w T (k + 1) (L.take N ++ [y]) lv' V := by
  have htk1 : T.take (k + 1) = T.take k ++ [x] := by rw [List.take_add_one, hx]; rfl
  have hkl : k < T.length := (List.getElem?_eq_some_iff.1 hx).1
  have hlen : (L.take N ++ [y]).length = N + 1 := by rw [List.length_append, List.length_take]; simp; omega
  have hfs := foldN_snoc (T.take k) [] L x h.fold
  rw [← htk1, hN, hy] at hfs
  refine ⟨by omega, by rw [hlen, List.map_append]; exact hrow, ?_, ?_, ?_, hb⟩
  · rw [hfs]
    by_cases h64 : y.dep ≤ 64
    · rw [if_pos h64]
    · rw [if_neg h64] at hfs
      exact absurd (by have := foldN_none (T.take (k + 1)) (T.drop (k + 1)) [] hfs; rwa [List.take_append_drop] at this) hT
  · rw [htk1, checkF_snoc, h.chk, hlen]
    simp only [Option.bind_some]
    rw [if_pos ⟨hm, ht⟩]
    congr 1; omega
  · intro z hz
    rcases List.mem_append.1 hz with hz | hz
    · have := h.small z (List.mem_of_mem_take hz); omega
    · rw [List.mem_singleton.1 hz]; exact hyo
theorem inC_snoc (l : List Nat) (a : Nat) : inC (l ++ [a]) = inC l ++ [.int .i64 (a : Int)] := by unfold inC; rw [List.map_append]; rfl
theorem inC_set (l : List Nat) (m a : Nat) : (inC l).set m (.int .i64 (a : Int)) = inC (l.set m a) := by unfold inC; rw [List.map_set]
theorem inC_take (l : List Nat) (m : Nat) : (inC l).take m = inC (l.take m) := by unfold inC; rw [List.map_take]
theorem set_last {L : List Nd} {m : Nat} {a : Nd} (hm : L.length = m + 1) (ha : L[m]? = some a) (n : Nat) : (L.map openN).set m n = (L.take m).map openN ++ [n] := by
  rw [List.set_eq_take_append_cons_drop, if_pos (by rw [List.length_map]; omega), ← List.map_take, List.drop_of_length_le (by rw [List.length_map]; omega)]
theorem set_two {L : List Nd} {m : Nat} (hm : L.length = m + 2) (n : Nat) : ((L.map openN).set m n).take (m + 1) = (L.take m).map openN ++ [n] := by
  rw [List.set_eq_take_append_cons_drop, if_pos (by rw [List.length_map]; omega), ← List.map_take, List.take_append, List.length_map, List.length_take, Nat.min_eq_left (by omega), List.take_of_length_le (by rw [List.length_map, List.length_take]; omega), show m + 1 - m = 1 by omega]
  rfl
theorem drop_one' {L : List Nd} {m : Nat} {a : Nd} (hm : L.length = m + 1) (ha : L[m]? = some a) : L.drop m = [a] := by
  obtain ⟨h, e⟩ := List.getElem?_eq_some_iff.1 ha
  rw [List.drop_eq_getElem_cons h, e, List.drop_of_length_le (by omega)]
theorem drop_two' {L : List Nd} {m : Nat} {a b : Nd} (hm : L.length = m + 2) (ha : L[m]? = some a) (hb : L[m + 1]? = some b) : L.drop m = [a, b] := by
  obtain ⟨h, e⟩ := List.getElem?_eq_some_iff.1 ha
  obtain ⟨h', e'⟩ := List.getElem?_eq_some_iff.1 hb
  rw [List.drop_eq_getElem_cons h, e, List.drop_eq_getElem_cons h', e', List.drop_of_length_le (by omega)]
set_option maxRecDepth 100000 in
set_option maxHeartbeats 8000000 in
theorem open_any (v : Value) (T : List Tm) (x : Nd) (w : World) (h : TriO tmF w v T) (hl : T.length ≤ 256) (hc : checkF 0 T = some 1) (hf : foldN [] T = some [x]) :
    Calls Tryz.prog 8 #[v] w fun e w' => e = .returned (.int .i64 (openN x : Int)) ∧ Below w.heap.size w w' := by
  have HT := Lib.hid h
  obtain ⟨A, c, rfl⟩ := tri_slice h
  have HC := Lib.hid hc
  have HF := Lib.hid hf
  clear h hc hf
  go_enter Tryz.func8, Tryz.ntmps8
  go_wp2_with fail
  go_loopw [9, 3] (fun iv lv wr => ∃ (k : Nat) (L : List Nd), iv = .int .i64 (k : Int) ∧ Hid (OpI w T k L lv wr)) (fun iv lv _ => T.length - (intOf iv).toNat)
  case atStart => exact ⟨0, [], rfl, Lib.hid ⟨Nat.zero_le _, World.ownsRow_nil _ _ _ _, rfl, rfl, fun x hx => (by cases hx), Below.refl _ _⟩⟩
  case round =>
    obtain ⟨k, L, rfl, hev⟩ := hrel
    have hrow := hev.out.row
    obtain ⟨vb, vc, rfl⟩ := own_sliceN hrow
    have hkl := hev.out.le
    by_cases hlt : (k : Int) < (T.length : Int)
    · have hlt' : k < T.length := by omega
      obtain ⟨g, off, cap, x, hx, hv, x1, x2, x3⟩ := tri_at (HT.out.keep hev.out.bel) hlt'
      cases hv
      simp only [tmF] at x1 x2 x3
      have hck : checkF 0 (T.take (k + 1)) ≠ none := fun hn => by
        have := checkF_none _ (T.drop (k + 1)) _ hn
        rw [List.take_append_drop, HC.out] at this
        cases this
      have htk1 : T.take (k + 1) = T.take k ++ [x] := by rw [List.take_add_one, hx]; rfl
      rw [htk1, checkF_snoc, hev.out.chk] at hck
      simp only [Option.bind_some] at hck
      have hmt : mayB x = true ∧ takesN x.k ≤ L.length := by
        by_cases hh : mayB x = true ∧ takesN x.k ≤ L.length
        · exact hh
        · rw [if_neg hh] at hck; exact absurd rfl hck
      have NX := Lib.hid (fun (N : Nat) (hN : L.length - takesN x.k = N) (y : Nd) (hy : mkN x (L.drop N) = y) (hyo : openN y ≤ 2 * (k + 1)) (lv' : Value) (V : World) a b => hev.out.next hx hmt.1 hmt.2 (by rw [HF.out]; simp) hN hy hyo (lv' := lv') (V := V) a b)
      have w9 : IntKind.i64.wrap ((k : Int) + 1) = ((k + 1 : Nat) : Int) := by rw [IntWalk.i64_in _ (by omega)]; omega
      have hk0 : (0 : Int) ≤ (k : Int) := by omega
      have hnk : L.length ≤ k := by
        have := checkF_le _ _ _ hev.out.chk
        rw [List.length_take] at this; omega
      have htm := takes_may hmt.1
      have htk := hmt.2
      have HROW := Lib.hid hrow
      have HBEL := Lib.hid (hev.out.bel.alloc hev.out.bel.size (.cells #[.int .i64 x.k, .int .i64 x.n, .string x.s] 42))
      have hsz := hev.out.bel.size
      have HB0 := Lib.hid hev.out.bel
      have HSM := Lib.hid hev.out.small
      obtain ⟨xk, xn, xs⟩ := x
      simp only at x1 x2 x3 NX htk htm HBEL
      clear hck htk1 hrow hmt hx hev
      obtain ⟨i0, hi, hiz0, hiz1, hiz2⟩ := info_parts infoInt
      rcases htm with ⟨h0, hk12⟩ | ⟨h1, hk34, hk34'⟩ | ⟨h2, hk5, hk14⟩
      · rw [h0] at NX htk
        have HN := Lib.hid (NX.out L.length (Nat.sub_zero _) (.lf ⟨xk, xn, xs⟩) (by rw [List.drop_length]; rfl) (by show 0 ≤ _; omega))
        rw [List.take_length] at HN
        have hle2 : xk ≤ 2 := by omega
        clear NX h0 hk12
        go_wp2_with (at_builtin; go_loud (refine wpList_append_own _ rfl _ _ 56 rfl w.heap.size 3 i0 (.int .i64 0) 1 8 Tryz.underlying56 hi hiz0 hiz1 hiz2 rfl (by decide) _ _ _ rfl ((HROW.out.alloc _).alloc _) ⟨wr.heap.size + 1, 0, none⟩ 1 1 [.int .i64 0] rfl rfl (fun j u hu => World.news_of_block (at_new (wr.alloc _) (wr.heap.size + 1) _ (by simp)) j u hu) (by simp [Value.oneCell']) (by unfold maxLen; omega) (by omega) (by simp; omega) ?_; intro v' w3 hown3 hgrow3 _; obtain ⟨ub, uc, rfl⟩ := own_sliceN hown3))
        go_roundw
        case rel => exact ⟨k + 1, L ++ [.lf ⟨xk, xn, xs⟩], by first | rfl | rw [← w9], Lib.hid (HN.out _ _ (by rw [inC_snoc]; exact hown3) ((HBEL.out.alloc (by simp; omega) _).grown hgrow3 (by simp; omega) (fun g hg => (HROW.out.lt g hg).1)))⟩
        case measure => simp [intOf]; omega
      · rw [h1] at NX htk
        obtain ⟨m, hm⟩ : ∃ m, L.length = m + 1 := ⟨L.length - 1, by omega⟩
        obtain ⟨a, ha⟩ : ∃ a, L[m]? = some a := ⟨_, List.getElem?_eq_getElem (by omega)⟩
        have hsa := HSM.out a (List.mem_of_getElem? ha)
        have HN := Lib.hid (NX.out m (by omega) (.un ⟨xk, xn, xs⟩ a) (by rw [drop_one' hm ha]; rfl) (by show openN a + 2 ≤ _; omega))
        have HST := Lib.hid (set_last hm ha (openN a + 2))
        have hrow' := HROW.out
        rw [hm] at hrow'
        obtain ⟨gs, cap', hvb, -, -⟩ := hrow'.form (by omega)
        cases hvb
        have hca : (inC (L.map openN))[m]? = some (.int .i64 (openN a : Int)) := inC_at (by rw [List.getElem?_map, ha]; rfl)
        have d0 := hrow'.cellAt m (by omega)
        rw [hca] at d0
        have f0 := hrow'.frozenAt m
        have HBS := (hrow'.lt gs rfl).1
        have hgz := (hrow'.lt gs rfl).2
        obtain ⟨o, ho⟩ : ∃ o, openN a = o := ⟨_, rfl⟩
        rw [ho] at d0 hsa HST
        have ho' : openN (.un ⟨xk, xn, xs⟩ a) = o + 2 := by show openN a + 2 = _; rw [ho]
        rw [ho'] at HN
        have HR1 := Lib.hid hrow'
        have h2' : ¬ xk ≤ 2 := by omega
        have h4' : xk ≤ 4 := by omega
        have wm : IntKind.i64.wrap (((m + 1 : Nat) : Int) - 1) = (m : Int) := by rw [IntWalk.i64_in _ (by omega)]; omega
        have wm' : IntKind.i64.wrap ((m : Int) + 1 - 1) = (m : Int) := by rw [IntWalk.i64_in _ (by omega)]; omega
        have wmm : IntKind.i64.wrap (m : Int) = (m : Int) := by rw [IntWalk.i64_in _ (by omega)]
        have wo : IntKind.i64.wrap ((o : Int) + 2) = (o : Int) + 2 := by rw [IntWalk.i64_in _ (by omega)]
        have m0 : (0 : Int) ≤ (m : Int) := by omega
        have m1 : (m : Int) < (m : Int) + 1 := by omega
        rw [hm]
        clear NX h1 ha hrow' hca ho ho'
        go_wp2_with fail
        go_roundw
        case rel =>
          have s1 := (HR1.out.stored m (.int .i64 ((o + 2 : Nat) : Int))).1
          rw [inC_set, HST.out] at s1
          exact ⟨k + 1, L.take m ++ [.un ⟨xk, xn, xs⟩ a], by first | rfl | rw [← w9], Lib.hid (HN.out _ _ (s1.alloc _) ((HB0.out.setCell (p := ⟨gs, m, none⟩) HBS _).alloc (by simp; omega) _))⟩
        case measure => simp [intOf]; omega
      · rw [h2] at NX htk
        obtain ⟨m, hm⟩ : ∃ m, L.length = m + 2 := ⟨L.length - 2, by omega⟩
        obtain ⟨a, ha⟩ : ∃ a, L[m]? = some a := ⟨_, List.getElem?_eq_getElem (by omega)⟩
        obtain ⟨b, hb⟩ : ∃ b, L[m + 1]? = some b := ⟨_, List.getElem?_eq_getElem (by omega)⟩
        have hsa := HSM.out a (List.mem_of_getElem? ha)
        have hsb := HSM.out b (List.mem_of_getElem? hb)
        have HN := Lib.hid (NX.out m (by omega) (.bi ⟨xk, xn, xs⟩ a b) (by rw [drop_two' hm ha hb]; rfl) (by show max (openN a) (openN b) + 1 ≤ _; omega))
        have HST := Lib.hid (set_two hm (max (openN a) (openN b) + 1))
        have hrow' := HROW.out
        rw [hm] at hrow'
        obtain ⟨gs, cap', hvb, -, -⟩ := hrow'.form (by omega)
        cases hvb
        have hca : (inC (L.map openN))[m]? = some (.int .i64 (openN a : Int)) := inC_at (by rw [List.getElem?_map, ha]; rfl)
        have hcb : (inC (L.map openN))[m + 1]? = some (.int .i64 (openN b : Int)) := inC_at (by rw [List.getElem?_map, hb]; rfl)
        have d0 := hrow'.cellAt m (by omega)
        have d1 := hrow'.cellAt (m + 1) (by omega)
        rw [hca] at d0
        rw [hcb] at d1
        have f0 := hrow'.frozenAt m
        have HBS := (hrow'.lt gs rfl).1
        have hgz := (hrow'.lt gs rfl).2
        have hcap := own_cap hrow'
        obtain ⟨mx, hmx⟩ : ∃ mx, max (openN a) (openN b) = mx := ⟨_, rfl⟩
        have hmx' : max (openN a : Int) (openN b : Int) = (mx : Int) := by omega
        have ho' : openN (.bi ⟨xk, xn, xs⟩ a b) = mx + 1 := by show max (openN a) (openN b) + 1 = _; rw [hmx]
        have hmxl : mx ≤ 2 * k := by omega
        rw [ho'] at HN
        rw [hmx] at HST
        generalize openN a = oa at *
        generalize openN b = ob at *
        have HR1 := Lib.hid hrow'
        have h2' : ¬ xk ≤ 2 := by omega
        have h4' : ¬ xk ≤ 4 := by omega
        have wm : IntKind.i64.wrap (((m + 2 : Nat) : Int) - 2) = (m : Int) := by rw [IntWalk.i64_in _ (by omega)]; omega
        have wm' : IntKind.i64.wrap ((m : Int) + 2 - 2) = (m : Int) := by rw [IntWalk.i64_in _ (by omega)]; omega
        have wn : IntKind.i64.wrap (((m + 2 : Nat) : Int) - 1) = ((m + 1 : Nat) : Int) := by rw [IntWalk.i64_in _ (by omega)]; omega
        have wn' : IntKind.i64.wrap ((m : Int) + 2 - 1) = ((m + 1 : Nat) : Int) := by rw [IntWalk.i64_in _ (by omega)]; omega
        have wmm : IntKind.i64.wrap (m : Int) = (m : Int) := by rw [IntWalk.i64_in _ (by omega)]
        have wo : IntKind.i64.wrap ((mx : Int) + 1) = (mx : Int) + 1 := by rw [IntWalk.i64_in _ (by omega)]
        have p0 : (0 : Int) ≤ (m : Int) := by omega
        have p1 : (m : Int) < (m : Int) + 2 := by omega
        have p2 : (m : Int) + 1 < (m : Int) + 2 := by omega
        have p3 : (0 : Int) ≤ (m : Int) + 1 := by omega
        have p8 : (m : Int) + 1 ≤ (vc : Int) := by omega
        have HCAP := Lib.hid hcap
        have HMX := Lib.hid hmx
        rw [hm]
        have HRD := Lib.hid (show (wr.alloc (.cells #[.int .i64 xk, .int .i64 xn, .string xs] 42)).drew.ownsRow w.heap.size 3 1 (.slice (some ⟨gs, 0, none⟩) (m + 2) vc) (m + 2) (inC (L.map openN)) from hrow'.alloc _)
        have HBD := Lib.hid (show Below w.heap.size w (wr.alloc (.cells #[.int .i64 xk, .int .i64 xn, .string xs] 42)).drew from HBEL.out.drew)
        have e0 := HRD.out.cellAt m (by omega)
        have e1 := HRD.out.cellAt (m + 1) (by omega)
        rw [hca] at e0
        rw [hcb] at e1
        have g0 := HRD.out.frozenAt m
        clear NX h2 ha hb hrow' hca hcb ho' hcap hmx d0 d1 f0
        go_wp2_with fail
        refine wp_region_still_tail 16 (by kernel_rfl) (by kernel_rfl) ?_
        simp only [List.take_succ_cons, List.take_zero, List.drop_succ_cons, List.drop_zero]
        change wpStill _ _ (World.drew (wr.alloc (.cells #[.int .i64 xk, .int .i64 xn, .string xs] 42))) (fun a' => wpList _ _ _ _ a' (World.drew (wr.alloc (.cells #[.int .i64 xk, .int .i64 xn, .string xs] 42)))) _ _
        generalize World.drew (wr.alloc (.cells #[.int .i64 xk, .int .i64 xn, .string xs] 42)) = V at *
        repeat still_step
        refine wpStill_nil ?_
        go_wp2_with fail
        go_roundw
        case rel =>
          have s1 := (HRD.out.stored m (.int .i64 ((mx + 1 : Nat) : Int))).1
          have s2 := own_take s1 (m := m + 1) (by omega)
          rw [inC_set, Nat.mul_one, inC_take, HST.out] at s2
          exact ⟨k + 1, L.take m ++ [.bi ⟨xk, xn, xs⟩ a b], by first | rfl | rw [← w9], Lib.hid (HN.out _ _ s2 (HBD.out.setCell (p := ⟨gs, m, none⟩) HBS _))⟩
        case measure => simp [intOf]; omega
    · have hkl2 : k = T.length := by omega
      subst hkl2
      have hck := hev.out.chk
      rw [List.take_length, HC.out] at hck
      have hfo := hev.out.fold
      rw [List.take_length, HF.out] at hfo
      obtain rfl := (Option.some.inj hfo).symm
      obtain ⟨gs, cap', hvb, -, -⟩ := hrow.form (by simp)
      cases hvb
      have d0 := hrow.cellAt 0 (by simp [inC])
      replace d0 : wr.cell? ⟨gs, 0, none⟩ = some (.int .i64 (openN x : Int)) := d0
      have HBEL := Lib.hid hev.out.bel
      clear hrow hev hck hfo hkl
      simp only [List.length_cons, List.length_nil, Nat.zero_add]
      go_wp2_with fail
      go_ret
      exact ⟨rfl, HBEL.out⟩
set_option maxRecDepth 100000 in
set_option maxHeartbeats 8000000 in
theorem same_any (u v : Value) (T : List Tm) (w : World) (hu : TriO tmF w u T) (hv : TriO tmF w v T) (hl : T.length ≤ 256) :
    Calls Tryz.prog 11 #[u, v] w fun e w' => e = .returned (.bool true) ∧ Below w.heap.size w w' := by
  have HU := Lib.hid hu
  have HV := Lib.hid hv
  obtain ⟨A1, c1, rfl⟩ := tri_slice hu
  obtain ⟨A2, c2, rfl⟩ := tri_slice hv
  clear hu hv
  go_enter Tryz.func11, Tryz.ntmps11
  go_wp2_with fail
  go_loopw [5] (fun iv wr => ∃ k : Nat, k ≤ T.length ∧ iv = .int .i64 (k : Int) ∧ Below w.heap.size w wr) (fun iv _ => T.length - (intOf iv).toNat)
  case atStart => exact ⟨0, Nat.zero_le _, rfl, Below.refl _ _⟩
  case round =>
    obtain ⟨k, hk, rfl, hbr⟩ := hrel
    by_cases hlt : (k : Int) < (T.length : Int)
    · have hlt' : k < T.length := by omega
      have w9 : IntKind.i64.wrap ((k : Int) + 1) = ((k + 1 : Nat) : Int) := by rw [IntWalk.i64_in _ (by omega)]; omega
      have hk0 : (0 : Int) ≤ (k : Int) := by omega
      obtain ⟨g, off, cap, x, hx, he1, x1, x2, x3⟩ := tri_at (HU.out.keep hbr) hlt'
      cases he1
      obtain ⟨g2, off2, cap2, y, hy, he2, y1, y2, y3⟩ := tri_at (HV.out.keep hbr) hlt'
      cases he2
      rw [hx] at hy
      cases hy
      obtain ⟨xk, xn, xs⟩ := x
      simp only [tmF] at x1 x2 x3 y1 y2 y3
      have HBR := Lib.hid hbr
      clear hbr hx
      go_wp2_with fail
      go_quiet (fail)
      go_wp2_with fail
      go_roundw
      case rel => exact ⟨k + 1, by omega, by first | rfl | rw [← w9], Below.dn HBR.out _⟩
      case measure => simp [intOf]; omega
    · obtain rfl : k = T.length := by omega
      have HBR := Lib.hid hbr
      clear hbr
      go_wp2_with fail
      go_ret
      exact ⟨rfl, HBR.out⟩
end Go.Proofs.YtdkflmpdelfgoaaGreatDoor
namespace Go.Proofs.YtdkflmpdelfgoaaGreatDoor
open Go.RowKit Go.Shelf
set_option linter.unusedVariables false
set_option linter.unusedSimpArgs false
attribute [local go_sem] Oper.semAt_some

set_option maxRecDepth 100000 in
set_option maxHeartbeats 4000000 in
theorem few_nil (A : Option Addr) (c : Nat) (w : World) :
    Calls Tryz.prog 6 #[.slice A 0 c] w fun e w' => e = .returned (.bool true) ∧ Below w.heap.size w w' := by
  have c1 : (0 : Int) ≤ (c : Int) := by omega
  have hm : min (0 : Int) 300 = 0 := by decide
  go_enter Tryz.func6, Tryz.ntmps6
  go_wp2_with fail
  refine wp_loop_rounds 1 ?_
  rw [rounds_succ]
  go_wp2_with fail
  go_ret
  exact ⟨rfl, Below.refl _ _⟩
theorem few_ev (v : Value) (T : List Tm) (w : World) (h : TriO tmF w v T) : Calls Tryz.prog 6 #[v] w fun e w' => e = .returned (.bool (fewB T)) ∧ Below w.heap.size w w' := by
  have h0 := h
  rcases h with ⟨h, rfl⟩ | ⟨g, off, cap, rfl, hc, hcm, hg, hT⟩
  · rcases h with rfl | ⟨a, c, rfl⟩
    · exact few_nil none 0 w
    · exact few_nil (some a) c w
  · exact few_any g off cap T w h0 hc hcm
theorem foldN_dep : ∀ (T : List Tm) (st st' : List Nd), foldN st T = some st' → (∀ x ∈ st, x.dep ≤ 64) → ∀ x ∈ st', x.dep ≤ 64
  | [], st, st', h, hd => by cases h; exact hd
  | t :: T, st, st', h, hd => by
    rw [foldN] at h
    split at h
    · rename_i h64
      refine foldN_dep T _ st' h ?_
      intro x hx
      rcases List.mem_append.1 hx with hx | hx
      · exact hd x (List.mem_of_mem_take hx)
      · rw [List.mem_singleton.1 hx]; exact h64
    · cases h
/-- an expression whose text can be written: its tree -/
theorem text_tree {T : List Tm} (hI : ∀ x ∈ T, InB x.n) (h : (docText T).2 = 0) : ∃ X, checkT T = 0 ∧ foldN [] T = some [X] ∧ docText T = (X.text, 0) ∧ OkT X ∧ termsN X = T ∧ X.text.size ≤ 133120 := by
  by_cases hc : checkT T = 0
  · obtain ⟨h1, h2⟩ := checkT_ok hc
    cases hr : rootN T with
    | none => rw [root_none hc hr] at h; cases h
    | some X =>
      have hr' := hr
      unfold rootN at hr'
      obtain ⟨l, hl, hx⟩ := Option.bind_eq_some_iff.1 hr'
      obtain ⟨e, hn⟩ := fold_pt T [] l 1 h1 hl
      obtain ⟨y, rfl⟩ := List.length_eq_one_iff.1 hn
      have hyx : y = X := by simpa using hx
      subst hyx
      have h64 := foldN_dep T [] [y] hl (fun x hx => by cases hx) y (by simp)
      obtain ⟨q1, q2, q3⟩ := root_some hc hI hr h64
      obtain ⟨f1, f2⟩ := fold_terms T [] [y] 1 h1 hl hI (fun x hx => by cases hx)
      exact ⟨y, hc, hl, q1, f2 y (by simp), by simpa using f1, q3⟩
  · unfold docText at h
    rw [if_neg hc] at h
    exact absurd h hc
theorem pcs_bnd : ∀ (x : Nd), OkT x → ∀ p ∈ pcs x, p.2.t.length ≤ 512 ∧ p.2.n < 18446744073709551616
  | .lf t, h, p, hp => by
    rw [pcs, List.mem_singleton] at hp
    subst hp
    have hm := mayB_size h.2.1
    have hI := h.2.2
    unfold InB at hI
    rw [size_list] at hm
    unfold lfR
    split
    · exact ⟨hm, by show 0 < _; omega⟩
    · split
      · exact ⟨by show 0 ≤ _; omega, by show t.n.toNat < _; omega⟩
      · exact ⟨by show 0 ≤ _; omega, by show (t.n % 18446744073709551616).toNat < _; omega⟩
  | .un t a, h, p, hp => by
    have hk := h.1
    simp only [pcs, List.mem_cons, List.mem_append, List.not_mem_nil, or_false] at hp
    rcases hp with rfl | rfl | hp | rfl
    · exact ⟨by decide, by decide⟩
    · have := signB_size t.k.toNat
      rw [size_list] at this
      exact ⟨by show (signB t.k.toNat).data.toList.length ≤ _; omega, by show 0 < _; omega⟩
    · exact pcs_bnd a h.2.2 p hp
    · exact ⟨by decide, by decide⟩
  | .bi t a b, h, p, hp => by
    simp only [pcs, List.mem_cons, List.mem_append, List.not_mem_nil, or_false] at hp
    rcases hp with rfl | hp | rfl | hp | rfl
    · exact ⟨by decide, by decide⟩
    · exact pcs_bnd a h.2.2.1 p hp
    · have := signB_size t.k.toNat
      rw [size_list] at this
      exact ⟨by show (signB t.k.toNat).data.toList.length ≤ _; omega, by show 0 < _; omega⟩
    · exact pcs_bnd b h.2.2.2 p hp
    · exact ⟨by decide, by decide⟩
theorem toks_terms : ∀ x : Nd, (toksN x).length ≤ 3 * (termsN x).length
  | .lf t => by unfold toksN pcs termsN; simp
  | .un t a => by
    have := toks_terms a
    rw [toks_un, termsN]
    simp only [List.length_cons, List.length_append, List.length_nil]
    omega
  | .bi t a b => by
    have h1 := toks_terms a
    have h2 := toks_terms b
    rw [toks_bi, termsN]
    simp only [List.length_cons, List.length_append, List.length_nil]
    omega
theorem posR_len : ∀ (L : List RT) (a : Nat), (posR a L).length = L.length
  | [], a => rfl
  | p :: r, a => by rw [posR, List.length_cons, posR_len r, List.length_cons]
theorem line_tree {x : Nd} (h : OkT x) (hl : x.text.size ≤ 512) : lexB x.text.data.toList = (posR 0 (pcs x), x.text.data.toList.length, 0) := by
  have hg := goodR_tree x [] h trivial (fun c hc => by cases hc)
  rw [List.append_nil] at hg
  have e : lineB x.text.data.toList = (posR 0 (pcs x), x.text.data.toList.length, 0) := by
    unfold lineB
    rw [if_neg (by rw [size_list] at hl; omega), ← pcs_text x, lex_glueR _ 0 hg, Nat.zero_add]
  unfold lexB
  rw [e]; rfl
set_option maxRecDepth 100000 in
set_option maxHeartbeats 16000000 in
theorem back_law (v : Value) (T : List Tm) (w : World) (hG : Good w) (hE : GoodE w) (hb : BruAt w) (h : TriO tmF w v T) (hs : ∀ x ∈ T, x.s.size ≤ maxLen) (hI : ∀ x ∈ T, InB x.n) :
    Calls Tryz.prog 3 #[v] w fun e w' => e = .returned (.bool true) ∧ Below w.heap.size w w' := by
  have LV := Lib.hid (live_any w hE)
  have FW := Lib.hid (fun V (hb : Below w.heap.size w V) => few_ev v T V (h.keep hb))
  by_cases hf : fewB T = true
  · have hl : T.length ≤ 281474976710656 := by
      unfold fewB at hf
      simp only [Bool.and_eq_true, decide_eq_true_eq] at hf
      omega
    have TX := Lib.hid (fun V (hb' : Below w.heap.size w V) => ptext_any v T V (hE.thn hb') (cell_kept hb' hb) (h.keep hb') hl hs hI)
    rw [hf] at FW
    by_cases h0 : (docText T).2 = 0
    · obtain ⟨X, hc, hfo, hdt, hok, hte, hxs⟩ := text_tree hI h0
      obtain ⟨h1, h256⟩ := checkT_ok hc
      rw [hdt] at TX
      have OP := Lib.hid (fun V (hb : Below w.heap.size w V) => open_any v T X V (h.keep hb) h256 h1 hfo)
      unfold TV at TX
      simp only at TX
      by_cases hop : openN X ≤ 64
      · by_cases h512 : X.text.size ≤ 512
        · have hline := line_tree hok h512
          have hpar : parseT (posR 0 (pcs X)) = (T, (toksN X).length, 0) := by
            have h256' : (termsN X).length ≤ 256 := by rw [hte]; exact h256
            rw [parse_same (posR_strip (pcs X) 0)]
            have := parse_tree hok h256' hop
            rw [hte] at this
            exact this
          have hlen : (posR 0 (pcs X)).length = (toksN X).length := by rw [posR_len]; unfold toksN; rw [List.length_map]
          have h3 := toks_terms X
          rw [hte] at h3
          have hbnd : ∀ x ∈ posR 0 (pcs X), x.t.length ≤ 512 ∧ x.n < 18446744073709551616 := fun x hx => by
            obtain ⟨y, hy, e1, e2⟩ := posR_sub _ _ _ hx
            rw [e1, e2]
            exact pcs_bnd X hok y hy
          have LX := Lib.hid (fun V (hb : Below w.heap.size w V) => lex_any X.text V (hG.thn hb) (by unfold maxLen; omega))
          unfold LexOut at LX
          rw [hline] at LX
          have PA := Lib.hid (fun tv V (ht : TokO V tv (posR 0 (pcs X))) (hb : Below w.heap.size w V) => parse_any tv (posR 0 (pcs X)) V (hE.thn hb) ht (by omega) (fun x hx => (hbnd x hx).2) (fun x hx => by have := (hbnd x hx).1; omega))
          rw [hpar, ← hlen] at PA
          have SM := Lib.hid (fun u V (hu : TriO tmF V u T) (hb : Below w.heap.size w V) => same_any u v T V hu (h.keep hb) h256)
          obtain ⟨P, hP⟩ : ∃ P, posR 0 (pcs X) = P := ⟨_, rfl⟩
          simp only [hP] at LX PA
          have hop' : ¬ ((64 : Int) < (openN X : Int)) := by omega
          have h512' : ¬ ((512 : Int) < (X.text.size : Int)) := by omega
          obtain ⟨A, c, rfl⟩ := tri_slice h
          generalize openN X = oN at *
          generalize X.text.data.toList.length = tl at *
          generalize X.text = S at *
          clear hG hE hb h hs hI hf hl h0 hc hfo hdt hok hte hxs h1 h256 hop h512 hline hpar hlen h3 hbnd hP
          go_enter Tryz.func3, Tryz.ntmps3
          go_wp2_with fail
          refine LV.out.mono ?_
          rintro e w1 ⟨rfl, hb1⟩
          have HB1 := Lib.hid hb1
          clear hb1
          go_wp2_with fail
          refine (FW.out _ HB1.out).mono ?_
          rintro e w2 ⟨rfl, hb2⟩
          have HB2 := Lib.hid (Below.thn HB1.out HB1.out.size hb2)
          clear hb2 HB1
          go_wp2_with fail
          refine (TX.out _ HB2.out).mono ?_
          rintro e w3 ⟨rfl, hb3⟩
          have HB3 := Lib.hid (Below.thn HB2.out HB2.out.size hb3)
          clear hb3 HB2
          go_wp2_with fail
          refine (OP.out _ HB3.out).mono ?_
          rintro e w4 ⟨rfl, hb4⟩
          have HB4 := Lib.hid (Below.thn HB3.out HB3.out.size hb4)
          clear hb4 HB3
          go_wp2_with fail
          refine (LX.out _ HB4.out).mono ?_
          rintro e w5 ⟨⟨tv, rfl, hown⟩, hb5⟩
          have HB5 := Lib.hid (Below.thn HB4.out HB4.out.size hb5)
          have HT5 := toko_of_own hown
          obtain ⟨A5, c5, rfl⟩ := HT5.slice
          replace HT5 := Lib.hid HT5
          clear hb5 hown
          go_wp2_with fail
          refine (PA.out _ _ HT5.out HB5.out).mono ?_
          rintro e w6 ⟨⟨sv', rfl, htri⟩, hb6⟩
          have HB6 := Lib.hid (Below.thn HB5.out HB5.out.size hb6)
          obtain ⟨A6, c6, rfl⟩ := tri_slice htri
          have HT6 := Lib.hid htri
          clear hb6 htri
          go_wp2_with fail
          refine (SM.out _ _ HT6.out HB6.out).mono ?_
          rintro e w7 ⟨rfl, hb7⟩
          have HB7 := Lib.hid (Below.thn HB6.out HB6.out.size hb7)
          clear hb7
          go_wp2_with fail
          go_ret
          exact ⟨rfl, HB7.out⟩
        · have hop' : ¬ ((64 : Int) < (openN X : Int)) := by omega
          have h512' : (512 : Int) < (X.text.size : Int) := by omega
          obtain ⟨A, c, rfl⟩ := tri_slice h
          generalize openN X = oN at *
          generalize X.text = S at *
          clear hG hE hb h hs hI hf hl h0 hc hfo hdt hok hte hxs h1 h256 hop h512
          go_enter Tryz.func3, Tryz.ntmps3
          go_wp2_with fail
          refine LV.out.mono ?_
          rintro e w1 ⟨rfl, hb1⟩
          have HB1 := Lib.hid hb1
          clear hb1
          go_wp2_with fail
          refine (FW.out _ HB1.out).mono ?_
          rintro e w2 ⟨rfl, hb2⟩
          have HB2 := Lib.hid (Below.thn HB1.out HB1.out.size hb2)
          clear hb2 HB1
          go_wp2_with fail
          refine (TX.out _ HB2.out).mono ?_
          rintro e w3 ⟨rfl, hb3⟩
          have HB3 := Lib.hid (Below.thn HB2.out HB2.out.size hb3)
          clear hb3 HB2
          go_wp2_with fail
          refine (OP.out _ HB3.out).mono ?_
          rintro e w4 ⟨rfl, hb4⟩
          have HB4 := Lib.hid (Below.thn HB3.out HB3.out.size hb4)
          clear hb4 HB3
          go_wp2_with fail
          go_ret
          exact ⟨rfl, HB4.out⟩
      · have hop' : (64 : Int) < (openN X : Int) := by omega
        obtain ⟨A, c, rfl⟩ := tri_slice h
        generalize openN X = oN at *
        generalize X.text = S at *
        clear hG hE hb h hs hI hf hl h0 hc hfo hdt hok hte hxs h1 h256 hop
        go_enter Tryz.func3, Tryz.ntmps3
        go_wp2_with fail
        refine LV.out.mono ?_
        rintro e w1 ⟨rfl, hb1⟩
        have HB1 := Lib.hid hb1
        clear hb1
        go_wp2_with fail
        refine (FW.out _ HB1.out).mono ?_
        rintro e w2 ⟨rfl, hb2⟩
        have HB2 := Lib.hid (Below.thn HB1.out HB1.out.size hb2)
        clear hb2 HB1
        go_wp2_with fail
        refine (TX.out _ HB2.out).mono ?_
        rintro e w3 ⟨rfl, hb3⟩
        have HB3 := Lib.hid (Below.thn HB2.out HB2.out.size hb3)
        clear hb3 HB2
        go_wp2_with fail
        refine (OP.out _ HB3.out).mono ?_
        rintro e w4 ⟨rfl, hb4⟩
        have HB4 := Lib.hid (Below.thn HB3.out HB3.out.size hb4)
        clear hb4 HB3
        go_wp2_with fail
        go_ret
        exact ⟨rfl, HB4.out⟩
    · generalize docText T = dt at *
      obtain ⟨ds, de⟩ := dt
      simp only at h0
      unfold TV at TX
      simp only at TX
      have h0' : (de != 0) = true := by simp [h0]
      obtain ⟨A, c, rfl⟩ := tri_slice h
      clear hG hE hb h hs hI hf hl h0
      go_enter Tryz.func3, Tryz.ntmps3
      go_wp2_with fail
      refine LV.out.mono ?_
      rintro e w1 ⟨rfl, hb1⟩
      have HB1 := Lib.hid hb1
      clear hb1
      go_wp2_with fail
      refine (FW.out _ HB1.out).mono ?_
      rintro e w2 ⟨rfl, hb2⟩
      have HB2 := Lib.hid (Below.thn HB1.out HB1.out.size hb2)
      clear hb2 HB1
      go_wp2_with fail
      refine (TX.out _ HB2.out).mono ?_
      rintro e w3 ⟨rfl, hb3⟩
      have HB3 := Lib.hid (Below.thn HB2.out HB2.out.size hb3)
      clear hb3 HB2
      go_wp2_with fail
      go_ret
      exact ⟨rfl, HB3.out⟩
  · have hf' : fewB T = false := by simpa using hf
    rw [hf'] at FW
    obtain ⟨A, c, rfl⟩ := tri_slice h
    clear hf hf' hG hE hb h hs hI
    go_enter Tryz.func3, Tryz.ntmps3
    go_wp2_with fail
    refine LV.out.mono ?_
    rintro e w1 ⟨rfl, hb1⟩
    have HB1 := Lib.hid hb1
    clear hb1
    go_wp2_with fail
    refine (FW.out _ HB1.out).mono ?_
    rintro e w2 ⟨rfl, hb2⟩
    have HB2 := Lib.hid (Below.thn HB1.out HB1.out.size hb2)
    clear hb2
    go_wp2_with fail
    go_ret
    exact ⟨rfl, HB2.out⟩
end Go.Proofs.YtdkflmpdelfgoaaGreatDoor
