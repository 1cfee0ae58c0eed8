/-
  What is read is an expression, and what it comes to can be printed. No program. Conditions: none.
-/
import Derived.Test.YtdkflmpdelfgoaaDoorExprC1
import Derived.Test.YtdkflmpdelfgoaaDoorExprQ
import Derived.Test.YtdkflmpdelfgoaaDoorExprJ
import Derived.Test.YtdkflmpdelfgoaaDoorExprRefA
import Derived.Laws.Closers25b
namespace Go.Proofs.YtdkflmpdelfgoaaDoor
open Go.RowKit Go.Shelf
set_option linter.unusedVariables false
set_option linter.unusedSimpArgs false

theorem checkF_app : ∀ (A B : List Tm) (h : Nat), checkF h (A ++ B) = (checkF h A).bind fun n => checkF n B
  | [], B, h => rfl
  | a :: A, B, h => by
    rw [List.cons_append, checkF, checkF]
    split
    · exact checkF_app A B _
    · rfl
theorem mayB_op {k : Nat} (h1 : k < 15) (h2 : takesN (k : Int) = 1 ∨ takesN (k : Int) = 2) : mayB ⟨(k : Int), 0, E0⟩ = true := by
  have hk : 3 ≤ k := by
    rcases Nat.lt_or_ge k 3 with g | g
    · exfalso
      have : k = 0 ∨ k = 1 ∨ k = 2 := by omega
      rcases this with rfl | rfl | rfl <;> revert h2 <;> decide
    · exact g
  unfold mayB
  rw [if_neg (by show ¬ ((k : Int) = 1); omega), if_neg (by show ¬ ((k : Int) = 2); omega), decide_eq_true (show (3 : Int) ≤ (k : Int) by omega), decide_eq_true (show (k : Int) ≤ 14 by omega)]
  rfl
/-- the terms that a job adds -/
def Adds (d : Nat) (s s' : St) : Prop := ∃ l, s'.tms = s.tms ++ l ∧ (∀ h, 1 ≤ h + d → checkF h l = some (h + d)) ∧ (d = 1 → s'.cnt ≤ 256)
theorem adds_leaf {s s' : St} {t : Tm} (h : leafF s t = .ok s') (hm : mayB t = true) (ht : takesN t.k = 0) : Adds 1 s s' := by
  obtain ⟨rfl, h2⟩ := leafF_ok h
  exact ⟨[t], rfl, fun h _ => by rw [checkF, if_pos ⟨hm, by omega⟩, ht]; rfl, fun _ => h2⟩
theorem runP_adds {T : List Tok} : ∀ (f : Nat) (j : Job) (s s' : St), runP T f j s = .ok s' → (match j with | .loop _ => s.cnt ≤ 256 | _ => True) → Adds j.adv s s' ∧ (match j with | .loop _ => s'.cnt ≤ 256 | _ => True)
  | 0, j, s, s', h, _ => by cases j <;> cases h
  | f + 1, .row g, s, s', h, _ => by
    rw [runP] at h
    obtain ⟨s1, h1, h2⟩ := bind_ok h
    obtain ⟨⟨l1, e1, c1, b1⟩, _⟩ := runP_adds f .opd _ _ h1 trivial
    obtain ⟨⟨l2, e2, c2, _⟩, b2⟩ := runP_adds f (.loop g) _ _ h2 (b1 rfl)
    refine ⟨⟨l1 ++ l2, by rw [e2, e1, List.append_assoc], fun h hh => ?_, fun _ => b2⟩, trivial⟩
    rw [checkF_app, c1 h (by simp [Job.adv])]
    exact c2 (h + 1) (by simp [Job.adv])
  | f + 1, .loop g, s, s', h, hc => by
    rw [runP] at h
    split at h
    · cases h; exact ⟨⟨[], (List.append_nil _).symm, fun h _ => rfl, fun h => by cases h⟩, hc⟩
    · rename_i k hk
      obtain ⟨k1, k2⟩ := opOf_lt hk
      split at h
      · cases h; exact ⟨⟨[], (List.append_nil _).symm, fun h _ => rfl, fun h => by cases h⟩, hc⟩
      · obtain ⟨s1, h1, h2⟩ := bind_ok h
        obtain ⟨⟨l1, e1, c1, b1⟩, _⟩ := runP_adds f (.row _) _ _ h1 trivial
        obtain ⟨⟨l2, e2, c2, _⟩, b2⟩ := runP_adds f (.loop g) _ _ h2 (b1 rfl)
        refine ⟨⟨l1 ++ ([⟨k, 0, E0⟩] ++ l2), by rw [e2]; simp only [e1, List.append_assoc], fun h hh => ?_, fun h => by cases h⟩, b2⟩
        simp only [Job.adv] at hh c1 c2 ⊢
        rw [checkF_app, c1 h (by omega)]
        show checkF (h + 1) ([⟨k, 0, E0⟩] ++ l2) = _
        rw [checkF_app, checkF, if_pos ⟨mayB_op k1 (.inr k2), by show takesN (k : Int) ≤ h + 1; omega⟩]
        show (checkF (h + 1 + 1 - takesN (k : Int)) []).bind _ = _
        rw [k2]
        exact c2 h hh
  | f + 1, .opd, s, s', h, _ => by
    rw [runP] at h
    refine ⟨?_, trivial⟩
    split at h
    · exact adds_leaf h (by rfl) (by rfl)
    · rename_i hr
      refine adds_leaf h ?_ (by rfl)
      unfold mayB
      rw [if_neg (by show ¬ ((2 : Int) = 1); decide), if_pos rfl]
      simp only [List.toList_toArray]
      rw [(readF_sym hr).2]; rfl
    · obtain ⟨s1, h1, h2⟩ := bind_ok h
      obtain ⟨rfl, _⟩ := enterF_ok h1
      obtain ⟨s2, h3, h4⟩ := bind_ok h2
      obtain ⟨⟨l1, e1, c1, b1⟩, _⟩ := runP_adds f (.row _) _ _ h3 trivial
      split at h4
      · cases h4; exact ⟨l1, e1, c1, b1⟩
      · cases h4
    · rename_i k hr
      obtain ⟨k1, k2⟩ := opOf_lt (readF_beh hr)
      obtain ⟨s1, h1, h2⟩ := bind_ok h
      obtain ⟨rfl, _⟩ := enterF_ok h1
      obtain ⟨s2, h3, h4⟩ := bind_ok h2
      obtain ⟨⟨l1, e1, c1, b1⟩, _⟩ := runP_adds f .opd _ _ h3 trivial
      cases h4
      refine ⟨l1 ++ [⟨k, 0, E0⟩], by simp only [e1, List.append_assoc], fun h hh => ?_, b1⟩
      simp only [Job.adv] at c1 ⊢
      rw [checkF_app, c1 h (by omega)]
      show checkF (h + 1) [⟨k, 0, E0⟩] = _
      rw [checkF, if_pos ⟨mayB_op k1 (.inl k2), by show takesN (k : Int) ≤ h + 1; omega⟩]
      show some (h + 1 + 1 - takesN (k : Int)) = _
      rw [k2]
      congr 1
    · cases h
theorem bind_err {x : Except Int St} {k : St → Except Int St} {e : Int} (h : x.bind k = .error e) : x = .error e ∨ ∃ s1, x = .ok s1 ∧ k s1 = .error e := by
  cases x with
  | ok s1 => exact .inr ⟨s1, rfl, h⟩
  | error y => cases h; exact .inl rfl
theorem leafF_err {s : St} {t : Tm} {x : Int} (h : leafF s t = .error x) : x = 93 := by
  unfold leafF at h; split at h
  · cases h; rfl
  · cases h
theorem enterF_err {s : St} {x : Int} (h : enterF s = .error x) : x = 93 := by
  unfold enterF at h; split at h
  · cases h; rfl
  · cases h
theorem runP_err {T : List Tok} : ∀ (f : Nat) (j : Job) (s : St) (x : Int), runP T f j s = .error x → x = 90 ∨ x = 93
  | 0, j, s, x, h => by cases j <;> (cases h; exact .inl rfl)
  | f + 1, .row g, s, x, h => by
    rw [runP] at h
    rcases bind_err h with h | ⟨s1, _, h⟩
    · exact runP_err f _ _ _ h
    · exact runP_err f _ _ _ h
  | f + 1, .loop g, s, x, h => by
    rw [runP] at h
    split at h
    · cases h
    · split at h
      · cases h
      · rcases bind_err h with h | ⟨s1, _, h⟩
        · exact runP_err f _ _ _ h
        · exact runP_err f _ _ _ h
  | f + 1, .opd, s, x, h => by
    rw [runP] at h
    split at h
    · exact .inr (leafF_err h)
    · exact .inr (leafF_err h)
    · rcases bind_err h with h | ⟨s1, _, h⟩
      · exact .inr (enterF_err h)
      · rcases bind_err h with h | ⟨s2, _, h⟩
        · exact runP_err f _ _ _ h
        · split at h
          · cases h
          · cases h; exact .inl rfl
    · rcases bind_err h with h | ⟨s1, _, h⟩
      · exact .inr (enterF_err h)
      · rcases bind_err h with h | ⟨s2, _, h⟩
        · exact runP_err f _ _ _ h
        · cases h
    · cases h; exact .inl rfl
/-- what Parse tells: terms that are an expression, and how many tokens; or an error, and nothing -/
theorem parseT_ok (T : List Tok) : ((parseT T).2.2 = 0 ∧ checkT (parseT T).1 = 0 ∧ 1 ≤ (parseT T).2.1 ∧ (parseT T).2.1 ≤ T.length) ∨ ((parseT T).2.2 ≠ 0 ∧ (parseT T).1 = [] ∧ (parseT T).2.1 = 0) := by
  unfold parseT
  cases h : runP T (3 * T.length + 2) (.row 6) ⟨0, [], 0, 0⟩ with
  | ok s =>
    left
    obtain ⟨a1, a2, a3, a4, a5⟩ := runP_fin _ _ _ _ h (Nat.zero_le _)
    obtain ⟨⟨l, e1, c1, b1⟩, _⟩ := runP_adds _ _ _ _ h trivial
    simp only [Job.adv, List.length_nil] at a1 a4 e1 c1 b1 ⊢
    refine ⟨trivial, ?_, by omega, a2⟩
    have hl : s.tms = l := by rw [e1]; rfl
    unfold checkT
    rw [hl, if_pos (c1 0 (by omega)), if_pos (by have := b1 trivial; rw [← hl]; omega)]
  | error x =>
    right
    refine ⟨?_, rfl, rfl⟩
    rcases runP_err _ _ _ _ h with rfl | rfl <;> decide
/-! ### what a value may be -/
def vOk (v : V3) : Prop := partB v.2.1 = true ∧ partB v.2.2 = true ∧ (v.2.1 = E0 ∨ v.2.1 ≠ v.2.2)
theorem partB_e : partB E0 = true := rfl
theorem vOk_num (n : Int) : vOk (n, E0, E0) := ⟨rfl, rfl, .inl rfl⟩
theorem vOk_neg {v : V3} (h : vOk v) : vOk (negV v) := by
  obtain ⟨n, p, m⟩ := v
  obtain ⟨a, b, c⟩ := h
  refine ⟨b, a, ?_⟩
  show m = E0 ∨ m ≠ p
  simp only at c
  by_cases hm : m = E0
  · exact .inl hm
  · right
    rintro rfl
    rcases c with c | c
    · exact hm c
    · exact c rfl
theorem vOk_add {x y : V3} (hx : vOk x) (hy : vOk y) : vOk (sumR x y).1 := by
  rw [← docAdd_eq]
  obtain ⟨a, ap, am⟩ := x
  obtain ⟨b, bp, bm⟩ := y
  obtain ⟨x1, x2, x3⟩ := hx
  obtain ⟨y1, y2, y3⟩ := hy
  simp only at x1 x2 x3 y1 y2 y3
  have hz : vOk Z3 := vOk_num 0
  have ex : ∀ {x y : BA}, x ≠ y → ¬ (y = x) := fun h e => h e.symm
  by_cases h1 : ap = E0 <;> by_cases h2 : am = E0 <;> by_cases h3 : bp = E0 <;> by_cases h4 : bm = E0 <;> by_cases h5 : ap = bm <;> by_cases h6 : am = bp <;> simp_all [docAdd, crossV, clearV, oneV, vOk, partB_e]
theorem vOk_getD {T : List V3} (h : ∀ y ∈ T, vOk y) (i : Nat) : vOk (T.getD i Z3) := by
  rw [List.getD_eq_getElem?_getD]
  cases hq : T[i]? with
  | none => exact vOk_num 0
  | some y => exact h y (List.mem_of_getElem? hq)
theorem vOk_reckon {t : Tm} {T : List V3} (hm : mayB t = true) (hT : ∀ y ∈ T, vOk y) : vOk (reckonT t T).1 := by
  have a := vOk_getD hT 0
  have b := vOk_getD hT 1
  unfold reckonT
  split
  · exact vOk_num _
  split
  · rename_i h1 h2
    unfold mayB at hm
    rw [if_neg h1, if_pos h2, Bool.and_eq_true] at hm
    refine ⟨by show partB t.s = true; unfold partB; rw [hm.2, Bool.or_true], rfl, ?_⟩
    show t.s = E0 ∨ t.s ≠ E0
    exact Classical.em _
  split
  · exact vOk_neg a
  split
  · exact vOk_add a b
  split
  · exact vOk_add a (vOk_neg b)
  split
  · exact vOk_num 0
  split
  · exact vOk_num _
  · exact vOk_num _
theorem vOk_fold : ∀ (T : List Tm) (st : List V3), (∀ x ∈ T, mayB x = true) → (∀ y ∈ st, vOk y) → ∀ y ∈ (foldF st T).1, vOk y
  | [], st, _, h => h
  | t :: T, st, hT, h => by
    rw [foldF]
    split
    · refine vOk_fold T _ (fun x hx => hT x (List.mem_cons_of_mem _ hx)) (fun y hy => ?_)
      rcases List.mem_append.1 hy with hy | hy
      · exact h y (List.mem_of_mem_take hy)
      · rw [List.mem_singleton.1 hy]
        exact vOk_reckon (hT t List.mem_cons_self) (fun z hz => h z (List.mem_of_mem_drop hz))
    · intro y hy; cases hy
theorem evalT_ok (T : List Tm) : vOk (evalT T).1 := by
  unfold evalT
  split
  · rename_i h
    obtain ⟨h1, _⟩ := checkT_ok h
    have hm := checkF_may _ _ _ h1
    have hf := vOk_fold T [] hm (fun y hy => by cases hy)
    unfold foldT
    split
    · exact vOk_getD hf 0
    · exact vOk_num 0
  · exact vOk_num 0
theorem printV_ok {v : V3} (h : vOk v) : (printV v).2 = 0 := by
  obtain ⟨a, b, c⟩ := h
  unfold printV
  rw [if_pos]
  unfold pvOk
  rw [a, b]
  rcases c with c | c
  · rw [decide_eq_true c]; rfl
  · rw [decide_eq_false c]; simp
/-! ### numbers of 64 bits -/
def InB (n : Int) : Prop := -9223372036854775808 ≤ n ∧ n ≤ 9223372036854775807
theorem inB_wrap (n : Int) : InB (wrap64 n) := by unfold InB wrap64; omega
theorem inB_zero : InB 0 := by unfold InB; omega
theorem inB_w (n : Int) : InB (IntKind.i64.wrap n) := by
  have := wrap_within .i64 n
  have e1 : IntKind.i64.min = -9223372036854775808 := by decide
  have e2 : IntKind.i64.max = 9223372036854775807 := by decide
  rw [e1, e2] at this
  exact this
theorem inB_bits (op : BinOp) (a b : Int) : InB (bits op .i64 a b) := by
  have := bits_within op .i64 a b
  have e1 : IntKind.i64.min = -9223372036854775808 := by decide
  have e2 : IntKind.i64.max = 9223372036854775807 := by decide
  rw [e1, e2] at this
  exact this
theorem inB_tmod {a : Int} (h : InB a) (b : Int) : InB (a.tmod b) := by
  unfold InB at *
  have hle : ∀ c : Int, 0 ≤ c → 0 ≤ c.tmod b ∧ c.tmod b ≤ c := fun c hc => by
    refine ⟨Int.tmod_nonneg b hc, ?_⟩
    have h1 := Int.natAbs_tmod c b
    have h2 : c.natAbs % b.natAbs ≤ c.natAbs := Nat.mod_le _ _
    have h3 := Int.tmod_nonneg b hc
    omega
  rcases Int.lt_or_le a 0 with g | g
  · have h1 := hle (-a) (by omega)
    rw [Int.neg_tmod] at h1
    omega
  · have h1 := hle a g
    omega
theorem inB_num {a : Int} (h : InB a) (k b : Int) : InB (numZ k a b).1 := by
  unfold numZ divZ shfZ
  repeat' split
  all_goals dsimp only
  all_goals first | with_reducible exact inB_wrap _ | with_reducible exact inB_bits _ _ _ | with_reducible exact inB_tmod h _ | with_reducible exact inB_zero
theorem inB_sumV {a b : Int} {ap am bp bm : BA} {z : Int × BA × BA} (h : sumV a b ap am bp bm = some z) : InB z.1 := by
  unfold sumV at h
  simp only at h
  split at h
  · cases h; exact inB_wrap _
  · cases h
theorem inB_sum (x y : V3) : InB (sumR x y).1.1 := by
  unfold sumR
  cases h : sumV x.1 y.1 x.2.1 x.2.2 y.2.1 y.2.2 with
  | none => exact inB_zero
  | some z => obtain ⟨n, p, m⟩ := z; exact inB_sumV h
theorem inB_getD {T : List V3} (h : ∀ y ∈ T, InB y.1) (i : Nat) : InB (T.getD i Z3).1 := by
  rw [List.getD_eq_getElem?_getD]
  cases hq : T[i]? with
  | none => exact inB_zero
  | some y => exact h y (List.mem_of_getElem? hq)
theorem inB_reckon {t : Tm} {T : List V3} (hm : InB t.n) (hT : ∀ y ∈ T, InB y.1) : InB (reckonT t T).1.1 := by
  have a0 := inB_getD hT 0
  unfold reckonT
  split
  · exact hm
  split
  · exact inB_zero
  split
  · show InB (wrap64 (-(T.getD 0 Z3).1)); exact inB_wrap _
  split
  · show InB (sumR (T.getD 0 Z3) (T.getD 1 Z3)).1.1; exact inB_sum _ _
  split
  · show InB (sumR (T.getD 0 Z3) (negV (T.getD 1 Z3))).1.1; exact inB_sum _ _
  split
  · exact inB_zero
  split
  · show InB (bits BinOp.xor IntKind.i64 (-1) (T.getD 0 Z3).1); exact inB_bits _ _ _
  · show InB (numZ t.k (T.getD 0 Z3).1 (T.getD 1 Z3).1).1; exact inB_num a0 _ _
theorem inB_fold : ∀ (T : List Tm) (st : List V3), (∀ x ∈ T, InB x.n) → (∀ y ∈ st, InB y.1) → ∀ y ∈ (foldF st T).1, InB y.1
  | [], st, _, h => h
  | t :: T, st, hT, h => by
    rw [foldF]
    split
    · refine inB_fold T _ (fun x hx => hT x (List.mem_cons_of_mem _ hx)) (fun y hy => ?_)
      rcases List.mem_append.1 hy with hy | hy
      · exact h y (List.mem_of_mem_take hy)
      · rw [List.mem_singleton.1 hy]
        exact inB_reckon (hT t List.mem_cons_self) (fun z hz => h z (List.mem_of_mem_drop hz))
    · intro y hy; cases hy
theorem inB_eval {T : List Tm} (hT : ∀ x ∈ T, InB x.n) : InB (evalT T).1.1 := by
  unfold evalT foldT
  split
  · split
    · exact inB_getD (inB_fold T [] hT (fun y hy => by cases hy)) 0
    · exact inB_zero
  · exact inB_zero
theorem inB_push {l : List Tm} {t : Tm} (h : ∀ x ∈ l, InB x.n) (ht : InB t.n) : ∀ x ∈ l ++ [t], InB x.n := fun x hx => by
  rcases List.mem_append.1 hx with hx | hx
  · exact h x hx
  · rw [List.mem_singleton.1 hx]; exact ht
theorem runP_in {T : List Tok} : ∀ (f : Nat) (j : Job) (s s' : St), runP T f j s = .ok s' → (∀ x ∈ s.tms, InB x.n) → ∀ x ∈ s'.tms, InB x.n
  | 0, j, s, s', h, _ => by cases j <;> cases h
  | f + 1, .row g, s, s', h, hs => by
    rw [runP] at h
    obtain ⟨s1, h1, h2⟩ := bind_ok h
    exact runP_in f _ _ _ h2 (runP_in f _ _ _ h1 hs)
  | f + 1, .loop g, s, s', h, hs => by
    rw [runP] at h
    split at h
    · cases h; exact hs
    · split at h
      · cases h; exact hs
      · obtain ⟨s1, h1, h2⟩ := bind_ok h
        exact runP_in f _ _ _ h2 (inB_push (runP_in f _ _ _ h1 hs) inB_zero)
  | f + 1, .opd, s, s', h, hs => by
    rw [runP] at h
    split at h
    · obtain ⟨rfl, _⟩ := leafF_ok h; exact inB_push hs (inB_w _)
    · obtain ⟨rfl, _⟩ := leafF_ok h; exact inB_push hs inB_zero
    · obtain ⟨s1, h1, h2⟩ := bind_ok h
      obtain ⟨rfl, _⟩ := enterF_ok h1
      obtain ⟨s2, h3, h4⟩ := bind_ok h2
      have := runP_in f _ _ _ h3 hs
      split at h4
      · cases h4; exact this
      · cases h4
    · obtain ⟨s1, h1, h2⟩ := bind_ok h
      obtain ⟨rfl, _⟩ := enterF_ok h1
      obtain ⟨s2, h3, h4⟩ := bind_ok h2
      have := runP_in f _ _ _ h3 hs
      cases h4
      exact inB_push this inB_zero
    · cases h
theorem parseT_in (T : List Tok) : ∀ x ∈ (parseT T).1, InB x.n := by
  unfold parseT
  cases h : runP T (3 * T.length + 2) (.row 6) ⟨0, [], 0, 0⟩ with
  | ok s => exact runP_in _ _ _ _ h (fun x hx => by cases hx)
  | error x => intro x hx; cases hx
end Go.Proofs.YtdkflmpdelfgoaaDoor
