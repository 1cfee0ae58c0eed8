/-
  Tokens' texts right behind each other, read again; and how the parser reads operands with signs of one group between them. No program. Conditions: none.
-/
import Derived.Test.YtdkflmpdelfgoaaGreatDoorExprC1
import Derived.Test.YtdkflmpdelfgoaaGreatDoorLexMath
namespace Go.Proofs.YtdkflmpdelfgoaaGreatDoor
open Go.RowKit Go.Shelf
set_option linter.unusedVariables false
set_option linter.unusedSimpArgs false

def glueB (T : List Tok) : Bs := T.flatMap textB
def GoodG : List Tok → Prop
  | [] => True
  | t :: r => mayP t = true ∧ Behind t (glueB r) ∧ GoodG r
def posG : Nat → List Tok → List Tok
  | _, [] => []
  | a, t :: r => ⟨t.k, t.t, t.n, (a : Int)⟩ :: posG (a + (textB t).length) r
theorem posG_len : ∀ (T : List Tok) (a : Nat), (posG a T).length = T.length
  | [], a => rfl
  | t :: r, a => by rw [posG, List.length_cons, posG_len r, List.length_cons]
theorem lex_glue : ∀ (T : List Tok) (a : Nat), GoodG T → lexS a (glueB T) = (posG a T, a + (glueB T).length, 0)
  | [], a, _ => by
    have := lexS_end (at_ := a) (s := glueB []) rfl
    exact this
  | t :: r, a, h => by
    obtain ⟨h1, h2, h3⟩ := h
    have hg : glueB (t :: r) = textB t ++ glueB r := by unfold glueB; rw [List.flatMap_cons]
    obtain ⟨o1, o2⟩ := one_text h1 h2
    obtain ⟨_, _, o3⟩ := head_text h1
    have hl := text_len h1
    have hb : run isBl (textB t ++ glueB r) = 0 := by
      cases ht : textB t with
      | nil => rw [ht] at hl; simp at hl
      | cons c y => rw [List.cons_append]; exact run_no _ (o3 c (by rw [ht]; rfl))
    have hs : skipB (textB t ++ glueB r) = 0 := by
      unfold skipB
      rw [hb, List.drop_zero, if_neg o2]
    have hne : (textB t ++ glueB r).drop (skipB (textB t ++ glueB r)) ≠ [] := by
      rw [hs, List.drop_zero]
      intro e
      have := congrArg List.length e
      rw [List.length_append, List.length_nil] at this
      omega
    have ho : one ((textB t ++ glueB r).drop (skipB (textB t ++ glueB r))) = some (t.k, t.t, t.n, (textB t).length) := by rw [hs, List.drop_zero]; exact o1
    rw [hg, lexS_step hne ho, hs, List.drop_zero, Nat.add_zero]
    have hd : (textB t ++ glueB r).drop (textB t).length = glueB r := by simp
    rw [hd, lex_glue r _ h3]
    simp only [posG, List.length_append]
    rw [Nat.add_assoc]
/-! ### operands with signs between them -/
def atomT (x : Tok) : Option Tm := match readF x with
  | .num => some ⟨1, IntKind.i64.wrap (x.n : Int), E0⟩
  | .sym => some ⟨2, 0, ⟨x.t.toArray⟩⟩
  | _ => none
theorem next_of {T : List Tok} {s : St} {x : Tok} {r : List Tok} (h : T.drop s.at_ = x :: r) : nextT T s = x := by
  unfold nextT
  have e : T[s.at_]? = some x := by
    have := congrArg (fun l => l[0]?) h
    simpa [List.getElem?_drop] using this
  rw [List.getD_eq_getElem?_getD, e]; rfl
theorem next_end {T : List Tok} {s : St} (h : T.drop s.at_ = []) : nextT T s = tok0 := by
  unfold nextT
  rw [List.getD_eq_getElem?_getD, List.getElem?_eq_none (by simpa using h)]; rfl
theorem drop_next {T : List Tok} {n : Nat} {x : Tok} {r : List Tok} (h : T.drop n = x :: r) : T.drop (n + 1) = r := by
  rw [← List.drop_drop, h]; rfl
theorem opd_atom {T : List Tok} {f : Nat} {s : St} {x : Tok} {r : List Tok} {t : Tm} (h : T.drop s.at_ = x :: r) (ha : atomT x = some t) (hc : s.cnt + 1 ≤ 256) : runP T (f + 1) .opd s = .ok ⟨s.at_ + 1, s.tms ++ [t], s.cnt + 1, s.op⟩ := by
  rw [runP, next_of h]
  unfold atomT at ha
  have lf : leafF s t = .ok ⟨s.at_ + 1, s.tms ++ [t], s.cnt + 1, s.op⟩ := by unfold leafF; rw [if_neg (by omega)]
  split at ha
  · rename_i hr; cases ha; rw [hr]; exact lf
  · rename_i hr; cases ha; rw [hr]; exact lf
  · cases ha
theorem op0 : ∀ n, 1 ≤ n → opOf tok0 n = none := by
  intro n hn
  refine List.find?_range_eq_none.2 fun j hj => ?_
  have : isG tok0 (signB j) = false := rfl
  rw [this, Bool.and_false]; rfl
theorem loop_stop {T : List Tok} {f g : Nat} {s : St} (h : ∀ k, opOf (nextT T s) 2 = some k → g < groupN k) : runP T (f + 1) (.loop g) s = .ok s := by
  rw [runP]
  cases ho : opOf (nextT T s) 2 with
  | none => rfl
  | some k => exact if_pos (h k ho)
/-- a row of operands with signs of one group between them -/
theorem loop_chain {T : List Tok} : ∀ (L : List (Tok × Nat × Tok × Tm)) (f : Nat) (s : St), T.drop s.at_ = L.flatMap (fun y => [y.1, y.2.2.1]) → (∀ y ∈ L, opOf y.1 2 = some y.2.1 ∧ groupN y.2.1 = 2 ∧ atomT y.2.2.1 = some y.2.2.2) → s.cnt + 2 * L.length ≤ 256 → L.length + 4 ≤ f →
    runP T f (.loop 6) s = .ok ⟨s.at_ + 2 * L.length, s.tms ++ L.flatMap (fun y => [y.2.2.2, ⟨(y.2.1 : Int), 0, E0⟩]), s.cnt + 2 * L.length, s.op⟩
  | [], f, s, hd, _, hc, hf => by
    obtain ⟨f, rfl⟩ : ∃ g, f = g + 1 := ⟨f - 1, by omega⟩
    rw [loop_stop (fun k hk => by rw [next_end hd, op0 2 (by omega)] at hk; cases hk)]
    simp
  | (o, k, x, t) :: L, f, s, hd, hL, hc, hf => by
    obtain ⟨f, rfl⟩ : ∃ g, f = g + 4 := ⟨f - 4, by simp at hf; omega⟩
    obtain ⟨h1, h2, h3⟩ := hL (o, k, x, t) List.mem_cons_self
    simp only at h1 h2 h3
    rw [List.flatMap_cons] at hd
    simp only [List.cons_append, List.nil_append] at hd
    have hd1 := drop_next hd
    have hd2 := drop_next hd1
    simp only [List.length_cons] at hc hf
    have hrow : runP T (f + 3) (.row 1) ⟨s.at_ + 1, s.tms, s.cnt + 1, s.op⟩ = .ok ⟨s.at_ + 1 + 1, s.tms ++ [t], s.cnt + 1 + 1, s.op⟩ := by
      rw [runP, opd_atom (f := f + 1) (s := ⟨s.at_ + 1, s.tms, s.cnt + 1, s.op⟩) hd1 h3 (by show s.cnt + 1 + 1 ≤ 256; omega)]
      show runP T (f + 1 + 1) (.loop 1) ⟨s.at_ + 1 + 1, s.tms ++ [t], s.cnt + 1 + 1, s.op⟩ = _
      refine loop_stop fun k' hk' => ?_
      cases L with
      | nil => rw [next_end (by exact hd2), op0 2 (by omega)] at hk'; cases hk'
      | cons y L =>
        obtain ⟨g1, g2, _⟩ := hL y (List.mem_cons_of_mem _ List.mem_cons_self)
        rw [List.flatMap_cons] at hd2
        rw [next_of (x := y.1) (by exact hd2), g1] at hk'
        cases hk'
        omega
    rw [runP, next_of hd, h1]
    show (if 6 < groupN k then _ else _) = _
    rw [if_neg (by omega), h2]
    show (runP T (f + 3) (.row 1) ⟨s.at_ + 1, s.tms, s.cnt + 1, s.op⟩).bind _ = _
    rw [hrow]
    show runP T (f + 3) (.loop 6) ⟨s.at_ + 1 + 1, s.tms ++ [t] ++ [(⟨(k : Int), 0, E0⟩ : Tm)], s.cnt + 1 + 1, s.op⟩ = _
    refine (loop_chain L (f + 3) ⟨s.at_ + 1 + 1, s.tms ++ [t] ++ [(⟨(k : Int), 0, E0⟩ : Tm)], s.cnt + 1 + 1, s.op⟩ (by exact hd2) (fun y hy => hL y (List.mem_cons_of_mem _ hy)) (by show s.cnt + 1 + 1 + 2 * L.length ≤ 256; omega) (by omega)).trans ?_
    simp only [List.length_cons, List.flatMap_cons, List.append_assoc]
    congr 1
    rw [St.mk.injEq]
    exact ⟨by omega, rfl, by omega, rfl⟩
end Go.Proofs.YtdkflmpdelfgoaaGreatDoor
namespace Go.Proofs.YtdkflmpdelfgoaaGreatDoor
open Go.RowKit Go.Shelf
set_option linter.unusedVariables false
set_option linter.unusedSimpArgs false

def strip (x : Tok) : Tok := ⟨x.k, x.t, x.n, 0⟩
theorem runP_same {T T' : List Tok} (h : ∀ s, strip (nextT T s) = strip (nextT T' s)) : ∀ f j s, runP T f j s = runP T' f j s := by
  intro f
  induction f with
  | zero => intro j s; cases j <;> rfl
  | succ f ih =>
    have hr : ∀ s, readF (nextT T s) = readF (nextT T' s) := fun s => (show readF (strip (nextT T s)) = readF (strip (nextT T' s)) from congrArg readF (h s))
    have ho : ∀ n s, opOf (nextT T s) n = opOf (nextT T' s) n := fun n s => (show opOf (strip (nextT T s)) n = opOf (strip (nextT T' s)) n from congrArg (opOf · n) (h s))
    have hg : ∀ b s, isG (nextT T s) b = isG (nextT T' s) b := fun b s => (show isG (strip (nextT T s)) b = isG (strip (nextT T' s)) b from congrArg (isG · b) (h s))
    have hn : ∀ s, (nextT T s).n = (nextT T' s).n := fun s => (show (strip (nextT T s)).n = (strip (nextT T' s)).n from congrArg Tok.n (h s))
    have ht : ∀ s, (nextT T s).t = (nextT T' s).t := fun s => (show (strip (nextT T s)).t = (strip (nextT T' s)).t from congrArg Tok.t (h s))
    intro j s
    cases j with
    | row g => simp only [runP, ih]
    | loop g => simp only [runP, ih, ho]
    | opd => simp only [runP, ih, hr, hg, hn, ht]
theorem next_pos {T : List Tok} (a : Nat) (s : St) : strip (nextT (posG a T) s) = strip (nextT T s) := by
  have key : ∀ (T : List Tok) (a i : Nat), strip ((posG a T).getD i tok0) = strip (T.getD i tok0) := by
    intro T
    induction T with
    | nil => intro a i; rfl
    | cons t r ih =>
      intro a i
      cases i with
      | zero => rfl
      | succ i =>
        rw [posG, List.getD_cons_succ, List.getD_cons_succ]
        exact ih _ i
  exact key T a s.at_
theorem parseT_pos (T : List Tok) (a : Nat) : parseT (posG a T) = parseT T := by
  unfold parseT
  rw [posG_len, runP_same (T := posG a T) (T' := T) (fun s => next_pos a s)]
theorem parse_list {x : Tok} {t : Tm} {L : List (Tok × Nat × Tok × Tm)} (hx : atomT x = some t) (hL : ∀ y ∈ L, opOf y.1 2 = some y.2.1 ∧ groupN y.2.1 = 2 ∧ atomT y.2.2.1 = some y.2.2.2) (hl : 1 + 2 * L.length ≤ 256) :
    parseT (x :: L.flatMap (fun y => [y.1, y.2.2.1])) = (t :: L.flatMap (fun y => [y.2.2.2, ⟨(y.2.1 : Int), 0, E0⟩]), 1 + 2 * L.length, 0) := by
  have hlen : (L.flatMap (fun y : Tok × Nat × Tok × Tm => [y.1, y.2.2.1])).length = 2 * L.length := by
    induction L with
    | nil => rfl
    | cons y L ih =>
      rw [List.flatMap_cons, List.length_append, ih (fun z hz => hL z (List.mem_cons_of_mem _ hz)) (by simp at hl; omega)]
      simp; omega
  unfold parseT
  obtain ⟨f, hf⟩ : ∃ f, 3 * (x :: L.flatMap (fun y : Tok × Nat × Tok × Tm => [y.1, y.2.2.1])).length + 2 = f + 1 + 1 := ⟨3 * (1 + 2 * L.length), by rw [List.length_cons, hlen]; omega⟩
  have hf2 : f = 3 * (1 + 2 * L.length) := by rw [List.length_cons, hlen] at hf; omega
  rw [hf, runP, opd_atom (s := ⟨0, [], 0, 0⟩) (f := f) (x := x) (r := L.flatMap (fun y => [y.1, y.2.2.1])) rfl hx (by decide)]
  have hc := loop_chain (T := x :: L.flatMap (fun y => [y.1, y.2.2.1])) L (f + 1) ⟨0 + 1, [] ++ [t], 0 + 1, 0⟩ rfl hL (by show 0 + 1 + 2 * L.length ≤ 256; omega) (by omega)
  show (match runP (x :: L.flatMap (fun y => [y.1, y.2.2.1])) (f + 1) (.loop 6) ⟨0 + 1, [] ++ [t], 0 + 1, 0⟩ with
    | .ok s => (s.tms, s.at_, (0 : Int))
    | .error x => ([], 0, x)) = _
  rw [hc]
  simp only [List.nil_append, List.singleton_append, Nat.zero_add]
def sgT (c : UInt8) : Tok := ⟨4, [c], 0, 0⟩
def nmT (s : BA) : Tok := ⟨1, s.data.toList, 0, 0⟩
def noT (n : Nat) : Tok := ⟨2, [], n, 0⟩
def noM (n : Nat) : Tm := ⟨1, IntKind.i64.wrap (n : Int), E0⟩
def syM (s : BA) : Tm := ⟨2, 0, s⟩
theorem atom_no (n : Nat) : atomT (noT n) = some (noM n) := by
  unfold atomT readF noT; rw [if_pos rfl]; rfl
theorem atom_nm {s : BA} (h : symB s.data.toList = true) : atomT (nmT s) = some (syM s) := by
  unfold atomT readF nmT
  rw [if_neg (by show ¬ ((1 : Int) = 2); decide), if_pos ⟨rfl, h⟩]
  rfl
theorem op_minus : opOf (sgT 45) 2 = some 9 := by decide
theorem op_plus : opOf (sgT 43) 2 = some 8 := by decide
theorem op_minus1 : opOf (sgT 45) 1 = some 3 := by decide
theorem parse_neg (n : Nat) : parseT [sgT 45, noT n] = ([noM n, ⟨3, 0, E0⟩], 2, 0) := by
  have h0 : ([sgT 45, noT n] : List Tok).drop 0 = sgT 45 :: [noT n] := rfl
  unfold parseT
  show (match runP [sgT 45, noT n] (7 + 1) (.row 6) ⟨0, [], 0, 0⟩ with
    | .ok s => (s.tms, s.at_, (0 : Int))
    | .error x => ([], 0, x)) = _
  have hr : readF (sgT 45) = .beh 3 := by
    unfold readF
    rw [if_neg (by decide), if_neg (by decide), if_neg (by decide), op_minus1]
  have ho : runP [sgT 45, noT n] (6 + 1) .opd ⟨0, [], 0, 0⟩ = .ok ⟨2, [noM n, ⟨3, 0, E0⟩], 2, 0⟩ := by
    have he : enterF ⟨0, [], 0, 0⟩ = .ok ⟨1, [], 0, 1⟩ := by unfold enterF; rw [if_neg (by decide)]
    rw [runP, next_of (s := ⟨0, [], 0, 0⟩) h0, hr]
    simp only []
    rw [he]
    have hA : runP [sgT 45, noT n] 6 .opd ⟨1, [], 0 + 1, 1⟩ = .ok ⟨1 + 1, [] ++ [noM n], 0 + 1 + 1, 1⟩ := opd_atom (f := 5) (s := ⟨1, [], 0 + 1, 1⟩) (x := noT n) (r := []) rfl (atom_no n) (by decide)
    simp only [Except.bind]
    rw [hA]
    rfl
  rw [runP, ho]
  show (match runP [sgT 45, noT n] (6 + 1) (.loop 6) ⟨2, [noM n, ⟨3, 0, E0⟩], 2, 0⟩ with
    | .ok s => (s.tms, s.at_, (0 : Int))
    | .error x => ([], 0, x)) = _
  rw [loop_stop (fun k hk => by rw [next_end (s := ⟨2, [noM n, ⟨3, 0, E0⟩], 2, 0⟩) rfl, op0 2 (by omega)] at hk; cases hk)]
/-! ### a value's tokens -/
def tailL (n : Int) : List (Tok × Nat × Tok × Tm) := if 0 < n then [(sgT 43, 8, noT n.toNat, noM n.toNat)] else if n < 0 then [(sgT 45, 9, noT n.natAbs, noM n.natAbs)] else []
def minL (m : BA) : List (Tok × Nat × Tok × Tm) := if m = E0 then [] else [(sgT 45, 9, nmT m, syM m)]
def headT (p : BA) : Tok := if p = E0 then noT 0 else nmT p
def headM (p : BA) : Tm := if p = E0 then noM 0 else syM p
def toksV (v : V3) : List Tok := if hasS v = true then headT v.2.1 :: (minL v.2.2 ++ tailL v.1).flatMap (fun y => [y.1, y.2.2.1]) else if v.1 < 0 then [sgT 45, noT v.1.natAbs] else [noT v.1.toNat]
def termsV (v : V3) : List Tm := if hasS v = true then headM v.2.1 :: (minL v.2.2 ++ tailL v.1).flatMap (fun y => [y.2.2.2, ⟨(y.2.1 : Int), 0, E0⟩]) else if v.1 < 0 then [noM v.1.natAbs, ⟨3, 0, E0⟩] else [noM v.1.toNat]
theorem itoa_p {n : Int} (h : 0 ≤ n) : Lib.itoa n = Lib.decDigits n.toNat := by unfold Lib.itoa; rw [if_neg (by omega)]
theorem itoa_n {n : Int} (h : n < 0) : Lib.itoa n = 45 :: Lib.decDigits n.natAbs := by unfold Lib.itoa; rw [if_pos h]
theorem text_no (n : Nat) : textB (noT n) = Lib.decDigits n := rfl
theorem text_nm (s : BA) : textB (nmT s) = s.data.toList := rfl
theorem text_sg (c : UInt8) : textB (sgT c) = [c] := rfl
theorem glue_cons (t : Tok) (r : List Tok) : glueB (t :: r) = textB t ++ glueB r := by unfold glueB; rw [List.flatMap_cons]
theorem glue_nil : glueB [] = [] := rfl
theorem toks_text (v : V3) : glueB (toksV v) = vtB v := by
  obtain ⟨n, p, m⟩ := v
  have d0 : Lib.decDigits 0 = [48] := by rw [Lib.decDigits_one (by omega)]; rfl
  unfold toksV vtB headT minL tailL
  by_cases h1 : p = E0 <;> by_cases h2 : m = E0 <;> by_cases h3 : 0 < n <;> by_cases h4 : n < 0
  all_goals first
    | (exfalso; omega)
    | (simp [hasS, h1, h2, h3, h4, glue_cons, glue_nil, text_no, text_nm, text_sg, d0]
       first
         | done
         | (rw [itoa_p (by omega), if_neg (by omega)])
         | (rw [itoa_n h4, if_neg (by omega)])
         | (intro h; exfalso; omega)
         | (rw [itoa_p (by omega)])
         | (rw [itoa_n h4]))
/-! ### they may be, and are read as the value's terms -/
theorem part_sym {s : BA} (h : partB s = true) (hs : s ≠ E0) : symB s.data.toList = true := by
  unfold partB at h
  rw [decide_eq_false hs, Bool.false_or] at h
  exact h
theorem may_nm {s : BA} (h : symB s.data.toList = true) : mayP (nmT s) = true := by
  unfold symB at h
  rw [Bool.and_eq_true] at h
  simp [mayP, nmT, fitsP, h.2]
theorem may_no {n : Nat} (h : n < 18446744073709551616) : mayP (noT n) = true := by
  simp [mayP, noT, fitsP, h]
theorem may_minus : mayP (sgT 45) = true := by decide
theorem may_plus : mayP (sgT 43) = true := by decide
theorem beh_sg (c : UInt8) (hc : c ≠ 47) (r : Bs) : Behind (sgT c) r := by
  refine ⟨fun h => ?_, fun h => ?_⟩
  · simp [wordyB, sgT] at h
  · simp [slashB, sgT] at h; exact absurd h hc
theorem beh_w {t : Tok} (ht : slashB t = false) {r : Bs} (h : ∀ c, r.head? = some c → isLD c = false) : Behind t r := ⟨fun _ => h, fun hs => by rw [ht] at hs; cases hs⟩
theorem beh_end {t : Tok} (ht : slashB t = false) : Behind t (glueB []) := beh_w ht (fun c hc => by cases hc)
theorem beh_op {t : Tok} (ht : slashB t = false) {c : UInt8} (hc : isLD c = false) (r : List Tok) : Behind t (glueB (sgT c :: r)) := beh_w ht (fun d hd => by
  rw [glue_cons, text_sg] at hd
  simp at hd
  rw [← hd]; exact hc)
theorem ld45 : isLD 45 = false := by decide
theorem ld43 : isLD 43 = false := by decide
theorem slash_nm (s : BA) : slashB (nmT s) = false := rfl
theorem slash_no (n : Nat) : slashB (noT n) = false := rfl
theorem toks_good (v : V3) (h : pvOk v = true) (hn : InB v.1) : GoodG (toksV v) := by
  obtain ⟨n, p, m⟩ := v
  unfold pvOk at h
  simp only [Bool.and_eq_true] at h
  obtain ⟨⟨hp, hm⟩, _⟩ := h
  unfold InB at hn
  simp only at hp hm hn
  have a1 := may_no (n := 0) (by omega)
  have a2 := may_no (n := n.toNat) (by omega)
  have a3 := may_no (n := n.natAbs) (by omega)
  have b45 := beh_sg 45 (by decide)
  have b43 := beh_sg 43 (by decide)
  unfold toksV headT minL tailL
  by_cases h1 : p = E0 <;> by_cases h2 : m = E0 <;> by_cases h3 : 0 < n <;> by_cases h4 : n < 0
  all_goals first
    | (exfalso; omega)
    | (have q1 := fun h => may_nm (part_sym hp h)
       have q2 := fun h => may_nm (part_sym hm h)
       simp [hasS, h1, h2, h3, h4, GoodG, a1, a2, a3, b45, b43, q1, q2, may_minus, may_plus]
       repeat' first
         | with_reducible exact beh_end (slash_nm _)
         | with_reducible exact beh_end (slash_no _)
         | with_reducible exact beh_op (slash_nm _) ld45 _
         | with_reducible exact beh_op (slash_nm _) ld43 _
         | with_reducible exact beh_op (slash_no _) ld45 _
         | with_reducible exact beh_op (slash_no _) ld43 _
         | with_reducible refine And.intro ?_ ?_)
theorem toks_parse (v : V3) (h : pvOk v = true) : parseT (toksV v) = (termsV v, (toksV v).length, 0) := by
  obtain ⟨n, p, m⟩ := v
  unfold pvOk at h
  simp only [Bool.and_eq_true] at h
  obtain ⟨⟨hp, hm⟩, _⟩ := h
  replace hp : partB p = true := hp
  replace hm : partB m = true := hm
  unfold toksV termsV
  simp only
  by_cases hs : hasS (n, p, m) = true
  · rw [if_pos hs, if_pos hs]
    have ha : atomT (headT p) = some (headM p) := by
      unfold headT headM
      by_cases h1 : p = E0
      · rw [if_pos h1, if_pos h1]; exact atom_no 0
      · rw [if_neg h1, if_neg h1]; exact atom_nm (part_sym hp h1)
    have g9 : groupN 9 = 2 := rfl
    have g8 : groupN 8 = 2 := rfl
    have hL : ∀ y ∈ minL m ++ tailL n, opOf y.1 2 = some y.2.1 ∧ groupN y.2.1 = 2 ∧ atomT y.2.2.1 = some y.2.2.2 := by
      intro y hy
      rcases List.mem_append.1 hy with hy | hy
      · unfold minL at hy
        split at hy
        · cases hy
        · rename_i h2
          rw [List.mem_singleton.1 hy]
          exact ⟨op_minus, g9, atom_nm (part_sym hm h2)⟩
      · unfold tailL at hy
        split at hy
        · rw [List.mem_singleton.1 hy]; exact ⟨op_plus, g8, atom_no _⟩
        · split at hy
          · rw [List.mem_singleton.1 hy]; exact ⟨op_minus, g9, atom_no _⟩
          · cases hy
    have hlen : (minL m ++ tailL n).length ≤ 2 := by
      rw [List.length_append]
      unfold minL tailL
      split <;> split <;> (try split) <;> simp
    rw [parse_list ha hL (by omega)]
    have h2 : ((minL m ++ tailL n).flatMap (fun y : Tok × Nat × Tok × Tm => [y.1, y.2.2.1])).length = 2 * (minL m ++ tailL n).length := by
      unfold minL tailL
      split <;> split <;> (try split) <;> rfl
    rw [List.length_cons, h2]
    congr 2
    omega
  · rw [if_neg hs, if_neg hs]
    by_cases h4 : n < 0
    · rw [if_pos h4, if_pos h4, parse_neg]; rfl
    · rw [if_neg h4, if_neg h4]
      have := parse_list (x := noT n.toNat) (t := noM n.toNat) (L := []) (atom_no _) (fun y hy => by cases hy) (by decide)
      exact this
/-! ### what they come to -/
theorem may_noM (k : Nat) : mayB (noM k) = true := rfl
theorem may_syM {s : BA} (h : symB s.data.toList = true) : mayB (syM s) = true := by
  unfold mayB syM
  rw [if_neg (by show ¬ ((2 : Int) = 1); decide), if_pos rfl, h]; rfl
theorem may_9 : mayB ⟨9, 0, E0⟩ = true := by decide
theorem may_8 : mayB ⟨8, 0, E0⟩ = true := by decide
theorem may_3 : mayB ⟨3, 0, E0⟩ = true := by decide
theorem tk_no (k : Nat) : takesN (noM k).k = 0 := rfl
theorem tk_sy (s : BA) : takesN (syM s).k = 0 := rfl
theorem tk_9 : takesN 9 = 2 := rfl
theorem tk_8 : takesN 8 = 2 := rfl
theorem tk_3 : takesN 3 = 1 := rfl
theorem rk_no (k : Nat) (T : List V3) : reckonT (noM k) T = ((IntKind.i64.wrap (k : Int), E0, E0), 0) := rfl
theorem rk_sy (s : BA) (T : List V3) : reckonT (syM s) T = ((0, s, E0), 0) := rfl
theorem rk_9 (x y : V3) : reckonT ⟨9, 0, E0⟩ [x, y] = sumR x (negV y) := rfl
theorem rk_8 (x y : V3) : reckonT ⟨8, 0, E0⟩ [x, y] = sumR x y := rfl
theorem rk_3 (x : V3) : reckonT ⟨3, 0, E0⟩ [x] = (negV x, 0) := rfl
theorem wrap_small {k : Nat} (h : k ≤ 9223372036854775807) : IntKind.i64.wrap (k : Int) = (k : Int) := by rw [IntWalk.i64_in _ (by omega)]
theorem wrap_big : IntKind.i64.wrap ((9223372036854775808 : Nat) : Int) = -9223372036854775808 := by decide
/-- a symbol taken away from what has none to take away -/
theorem sum_min {a : Int} {p m : BA} (hm : m ≠ E0) (hpm : p ≠ m) : sumR (a, p, E0) (negV (0, m, E0)) = ((wrap64 (a + wrap64 (-0)), p, m), 0) := by
  rw [← docAdd_eq]
  have ex : ¬ (E0 = m) := fun e => hm e.symm
  by_cases hp : p = E0
  · subst hp; simp [docAdd, crossV, clearV, oneV, negV, hm, ex]
  · have hp2 : ¬ (E0 = p) := fun e => hp e.symm
    simp [docAdd, crossV, clearV, oneV, negV, hm, ex, hpm, hp, hp2]
theorem sum_num {a b : Int} {p m : BA} (hpm : p = E0 ∨ p ≠ m) : sumR (a, p, m) (b, E0, E0) = ((wrap64 (a + b), p, m), 0) := by
  rw [← docAdd_eq]
  by_cases hp : p = E0 <;> by_cases hm : m = E0
  · subst hp; subst hm; simp [docAdd, crossV, clearV, oneV]
  · subst hp
    have ex : ¬ (E0 = m) := fun e => hm e.symm
    simp [docAdd, crossV, clearV, oneV, hm, ex]
  · subst hm
    have ex : ¬ (E0 = p) := fun e => hp e.symm
    simp [docAdd, crossV, clearV, oneV, hp, ex]
  · have h1 : p ≠ m := by rcases hpm with h | h; exact absurd h hp; exact h
    have e1 : ¬ (E0 = m) := fun e => hm e.symm
    have e2 : ¬ (E0 = p) := fun e => hp e.symm
    simp [docAdd, crossV, clearV, oneV, hp, hm, h1, e1, e2]
theorem wrap64_in {n : Int} (h : InB n) : wrap64 n = n := by unfold InB at h; unfold wrap64; omega
theorem wrap64_z : wrap64 (0 + wrap64 (-0)) = 0 := by decide +kernel
/-- a number less what a text tells -/
theorem neg_abs {n : Int} (h : InB n) (hn : n < 0) : wrap64 (0 + (negV (IntKind.i64.wrap (n.natAbs : Int), E0, E0)).1) = n ∧ (negV (IntKind.i64.wrap (n.natAbs : Int), E0, E0)).1 = n := by
  unfold InB at h
  have key : (negV (IntKind.i64.wrap (n.natAbs : Int), E0, E0)).1 = n := by
    show wrap64 (-(IntKind.i64.wrap (n.natAbs : Int))) = n
    rcases Nat.lt_or_ge 9223372036854775807 n.natAbs with g | g
    · have e : n.natAbs = 9223372036854775808 := by omega
      rw [e, wrap_big]
      have e2 : n = -9223372036854775808 := by omega
      rw [e2]; decide +kernel
    · rw [wrap_small g]
      unfold wrap64; omega
  refine ⟨?_, key⟩
  rw [key]
  unfold wrap64; omega
theorem toks_eval (v : V3) (h : pvOk v = true) (hn : InB v.1) : evalT (termsV v) = (v, 0) := by
  obtain ⟨n, p, m⟩ := v
  unfold pvOk at h
  simp only [Bool.and_eq_true] at h
  obtain ⟨⟨hp, hm⟩, hx⟩ := h
  replace hp : partB p = true := hp
  replace hm : partB m = true := hm
  replace hn : InB n := hn
  replace hx : (decide (p = E0) || !decide (p = m)) = true := hx
  have hpm : p = E0 ∨ p ≠ m := by simpa using hx
  have hin := wrap64_in hn
  have w0 : IntKind.i64.wrap ((0 : Nat) : Int) = 0 := by decide
  have q1 := fun h => may_syM (part_sym hp h)
  have q2 := fun h => may_syM (part_sym hm h)
  have k0 : ∀ T, reckonT (noM 0) T = ((0, E0, E0), 0) := fun T => by rw [rk_no, w0]
  have kp : 0 ≤ n → ∀ T, reckonT (noM n.toNat) T = ((n, E0, E0), 0) := fun h0 T => by
    unfold InB at hn
    rw [rk_no, wrap_small (by omega), show ((n.toNat : Nat) : Int) = n by omega]
  obtain ⟨W, hW⟩ : ∃ W, IntKind.i64.wrap (n.natAbs : Int) = W := ⟨_, rfl⟩
  have kn : ∀ T, reckonT (noM n.natAbs) T = ((W, E0, E0), 0) := fun T => by rw [rk_no, hW]
  have kg : n < 0 → negV (W, E0, E0) = (n, E0, E0) := fun h0 => by
    have := (neg_abs hn h0).2
    rw [hW] at this
    exact Prod.ext this rfl
  have sm : m ≠ E0 → sumR (0, p, E0) (negV (0, m, E0)) = ((0, p, m), 0) := fun hm0 => by
    have e1 : p ≠ m := by
      rcases hpm with g | g
      · rw [g]; exact fun e => hm0 e.symm
      · exact g
    rw [sum_min hm0 e1, wrap64_z]
  have sn : sumR (0, p, m) (n, E0, E0) = ((n, p, m), 0) := by rw [sum_num hpm, Int.zero_add, hin]
  have sp : sumR (0, p, E0) (n, E0, E0) = ((n, p, E0), 0) := by
    rw [sum_num (by by_cases g : p = E0; exact .inl g; exact .inr g), Int.zero_add, hin]
  have n0 : ¬ 0 < n → ¬ n < 0 → n = 0 := by omega
  clear hW hx hpm hp hm
  unfold termsV headM minL tailL
  by_cases h1 : p = E0
  · subst h1
    by_cases h2 : m = E0
    · subst h2
      by_cases h4 : n < 0
      · simp [hasS, h4, evalT, checkT, checkF, may_noM, may_3, tk_no, tk_3, foldT, foldF, kn, rk_3, kg h4]
      · simp [hasS, h4, evalT, checkT, checkF, may_noM, tk_no, foldT, foldF, kp (by omega)]
    · by_cases h3 : 0 < n
      · have h4 : ¬ n < 0 := by omega
        simp [hasS, h2, h3, evalT, checkT, checkF, may_noM, may_8, may_9, q2 h2, tk_no, tk_sy, tk_8, tk_9, foldT, foldF, k0, kp (by omega), rk_sy, rk_8, rk_9, sm h2, sn]
      · by_cases h4 : n < 0
        · simp [hasS, h2, h3, h4, evalT, checkT, checkF, may_noM, may_8, may_9, q2 h2, tk_no, tk_sy, tk_8, tk_9, foldT, foldF, k0, kn, kg h4, rk_sy, rk_8, rk_9, sm h2, sn]
        · obtain rfl := n0 h3 h4
          simp [hasS, h2, evalT, checkT, checkF, may_noM, may_8, may_9, q2 h2, tk_no, tk_sy, tk_8, tk_9, foldT, foldF, k0, rk_sy, rk_8, rk_9, sm h2]
  · by_cases h2 : m = E0
    · subst h2
      by_cases h3 : 0 < n
      · have h4 : ¬ n < 0 := by omega
        simp [hasS, h1, h3, evalT, checkT, checkF, may_noM, may_8, may_9, q1 h1, tk_no, tk_sy, tk_8, tk_9, foldT, foldF, kp (by omega), rk_sy, rk_8, rk_9, sp]
      · by_cases h4 : n < 0
        · simp [hasS, h1, h3, h4, evalT, checkT, checkF, may_noM, may_8, may_9, q1 h1, tk_no, tk_sy, tk_8, tk_9, foldT, foldF, kn, kg h4, rk_sy, rk_8, rk_9, sp]
        · obtain rfl := n0 h3 h4
          simp [hasS, h1, evalT, checkT, checkF, q1 h1, tk_sy, foldT, foldF, rk_sy]
    · by_cases h3 : 0 < n
      · have h4 : ¬ n < 0 := by omega
        simp [hasS, h1, h2, h3, evalT, checkT, checkF, may_noM, may_8, may_9, q1 h1, q2 h2, tk_no, tk_sy, tk_8, tk_9, foldT, foldF, kp (by omega), rk_sy, rk_8, rk_9, sm h2, sn]
      · by_cases h4 : n < 0
        · simp [hasS, h1, h2, h3, h4, evalT, checkT, checkF, may_noM, may_8, may_9, q1 h1, q2 h2, tk_no, tk_sy, tk_8, tk_9, foldT, foldF, kn, kg h4, rk_sy, rk_8, rk_9, sm h2, sn]
        · obtain rfl := n0 h3 h4
          simp [hasS, h1, h2, evalT, checkT, checkF, may_noM, may_8, may_9, q1 h1, q2 h2, tk_no, tk_sy, tk_8, tk_9, foldT, foldF, rk_sy, rk_8, rk_9, sm h2]
end Go.Proofs.YtdkflmpdelfgoaaGreatDoor
