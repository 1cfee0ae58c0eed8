/-
  ExprSaid: what each call returns. Conditions: what the variables hold (Good, GoodE), texts of at most 2^48 bytes, numbers of 64 bits.
-/
import Derived.Test.YtdkflmpdelfgoaaGreatDoorExprGlue
import Derived.Test.YtdkflmpdelfgoaaGreatDoorExprR
import Derived.Test.YtdkflmpdelfgoaaGreatDoorLexR
namespace Go.Proofs.YtdkflmpdelfgoaaGreatDoor
open Go.RowKit Go.Shelf
set_option linter.unusedVariables false
set_option linter.unusedSimpArgs false
attribute [local go_sem] Oper.semAt_some

theorem tokC4 : ∀ T : List Tok, (tokC T).length = T.length * 4
  | [] => rfl
  | x :: T => by
    have ih := tokC4 T
    unfold tokC at ih ⊢
    rw [List.flatMap_cons, List.length_append, ih]
    simp only [List.length_cons, List.length_nil]
    omega
theorem tokC4_at : ∀ (T : List Tok) (k : Nat) (x : Tok), T[k]? = some x → (tokC T)[k * 4]? = some (.int .i64 x.k) ∧ (tokC T)[k * 4 + 1]? = some (.string ⟨x.t.toArray⟩) ∧ (tokC T)[k * 4 + 2]? = some (.int .u64 (x.n : Int)) ∧ (tokC T)[k * 4 + 3]? = some (.int .i64 x.p)
  | [], k, x, h => by simp at h
  | y :: T, 0, x, h => by simp at h; subst h; exact ⟨rfl, rfl, rfl, rfl⟩
  | y :: T, k + 1, x, h => by
    have := tokC4_at T k x (by simpa using h)
    rw [show (k + 1) * 4 = k * 4 + 1 + 1 + 1 + 1 by omega]
    exact this
theorem toko_of_own {W : World} {base : Nat} {v : Value} {T : List Tok} (h : W.ownsRow base 62 4 v T.length (tokC T)) : TokO W v T := by
  rcases h.2 with ⟨h1, h2⟩ | ⟨g, cap, cur, h1, h2, h3, h4, h5, h6⟩
  · exact .inl ⟨.inl h1, List.eq_nil_of_length_eq_zero h2⟩
  · refine .inr ⟨g, 0, cap, h1, h4, h5, (Array.getElem?_eq_some_iff.1 h3).1, fun k x hx => ?_⟩
    subst h1
    have hk : k < T.length := by
      rcases Nat.lt_or_ge k T.length with g | g
      · exact g
      · rw [List.getElem?_eq_none g] at hx; cases hx
    obtain ⟨a, b, c, d⟩ := tokC4_at T k x hx
    have hlen := tokC4 T
    refine ⟨?_, ?_, ?_, ?_⟩
    · rw [h.cellAt _ (by omega), show 0 + k * 4 = k * 4 by omega]; exact a
    · rw [h.cellAt _ (by omega), show 0 + k * 4 + 1 = k * 4 + 1 by omega]; exact b
    · rw [h.cellAt _ (by omega), show 0 + k * 4 + 2 = k * 4 + 2 by omega]; exact c
    · rw [h.cellAt _ (by omega), show 0 + k * 4 + 3 = k * 4 + 3 by omega]; exact d
/-- a value's text is read as the value's tokens -/
theorem line_val {v : V3} (h : pvOk v = true) (hn : InB v.1) (hl : (vtB v).length ≤ 512) : lexB (vtB v) = (posG 0 (toksV v), (vtB v).length, 0) := by
  have e : lineB (vtB v) = (posG 0 (toksV v), (vtB v).length, 0) := by
    unfold lineB
    rw [if_neg (by omega), ← toks_text v, lex_glue _ 0 (toks_good v h hn), Nat.zero_add]
  unfold lexB
  rw [e]; rfl
theorem posG_sub : ∀ (T : List Tok) (a : Nat) (x : Tok), x ∈ posG a T → ∃ y ∈ T, x.t = y.t ∧ x.n = y.n
  | [], a, x, h => by cases h
  | t :: r, a, x, h => by
    rw [posG] at h
    rcases List.mem_cons.1 h with rfl | h
    · exact ⟨t, List.mem_cons_self, rfl, rfl⟩
    · obtain ⟨y, hy, e⟩ := posG_sub r _ x h
      exact ⟨y, List.mem_cons_of_mem _ hy, e⟩
theorem glue_mem : ∀ (T : List Tok) (t : Tok), t ∈ T → (textB t).length ≤ (glueB T).length
  | x :: r, t, h => by
    rw [glue_cons, List.length_append]
    rcases List.mem_cons.1 h with rfl | h
    · omega
    · have := glue_mem r t h; omega
theorem goodG_mem : ∀ (T : List Tok) (t : Tok), GoodG T → t ∈ T → mayP t = true
  | x :: r, t, hg, h => by
    rcases List.mem_cons.1 h with rfl | h
    · exact hg.1
    · exact goodG_mem r t hg.2.2 h
theorem val_terms_len (v : V3) : (termsV v).length ≤ 5 ∧ (toksV v).length ≤ 5 := by
  obtain ⟨n, p, m⟩ := v
  unfold termsV toksV minL tailL
  generalize hasS (n, p, m) = b
  cases b <;> by_cases h2 : m = E0 <;> by_cases h3 : 0 < n <;> by_cases h4 : n < 0 <;> simp [h2, h3, h4]
theorem may_len {t : Tok} (h : mayP t = true) (hl : (textB t).length ≤ 512) : t.t.length ≤ 512 ∧ t.n < 18446744073709551616 := by
  obtain ⟨k, s, n, p⟩ := t
  simp only [mayP, fitsP, Bool.and_eq_true, Bool.or_eq_true, beq_iff_eq, decide_eq_true_eq] at h
  obtain ⟨⟨hn, hf⟩, hn2⟩ := h
  refine ⟨?_, hn2⟩
  unfold textB at hl
  simp only at hl ⊢
  by_cases k2 : k = 2
  · rw [if_neg (by omega), if_pos k2] at hf
    have : s = [] := by simpa using hf
    rw [this]; simp
  · rw [if_neg k2] at hl
    by_cases k3 : k = 3
    · rw [if_neg (by omega), if_neg k2, if_pos k3] at hf
      simpa using hf
    · rw [if_neg k3] at hl; exact hl
theorem checkT_small {T : List Tm} (h : checkT T = 0) : T.length ≤ 256 ∧ ∀ x ∈ T, x.s.size ≤ maxLen := by
  obtain ⟨h1, h2⟩ := checkT_ok h
  exact ⟨h2, fun x hx => by have := mayB_size (checkF_may _ _ _ h1 x hx); unfold maxLen; omega⟩
set_option maxRecDepth 100000 in
set_option maxHeartbeats 16000000 in
theorem said_any (v : V3) (w : World) (hG : Good w) (hE : GoodE w) (hn : InB v.1) (hp : v.2.1.size ≤ 281474976710656) (hm : v.2.2.size ≤ 281474976710656) :
    Calls Tryz.prog 4 #[vlV v] w fun e w' => e = .returned (.bool true) ∧ Below w.heap.size w w' := by
  have LV := Lib.hid (fun V (hb : Below w.heap.size w V) => live_any V (hE.thn hb))
  have PR := Lib.hid (fun V (hb : Below w.heap.size w V) => print_any v V (hE.thn hb) hn.1 hn.2 (by unfold maxLen; omega) (by unfold maxLen; omega))
  have HN := Lib.hid (heap_alloc_new w (.cells #[.int .i64 v.1, .string v.2.1, .string v.2.2] 36))
  have HB := Lib.hid (below1 w (.cells #[.int .i64 v.1, .string v.2.1, .string v.2.2] 36))
  by_cases hok : pvOk v = true
  · have hP : printV v = (⟨(vtB v).toArray⟩, 0) := by unfold printV; rw [if_pos hok]
    rw [hP] at PR
    by_cases hlong : 512 < (vtB v).length
    · have hsz : (512 : Int) < ((⟨(vtB v).toArray⟩ : BA).size : Int) := by rw [size_list]; simp only [List.toList_toArray]; omega
      obtain ⟨n, p, m⟩ := v
      unfold PV at PR
      unfold vlV at *
      simp only at PR HN HB ⊢
      generalize (⟨(vtB (n, p, m)).toArray⟩ : BA) = S at *
      clear hG hE hn hp hm hok hP hlong
      go_enter Tryz.func4, Tryz.ntmps4
      go_wp2_with fail
      generalize w.alloc (.cells #[.int .i64 n, .string p, .string m] 36) = W0 at *
      refine (LV.out _ HB.out).mono ?_
      rintro e w1 ⟨rfl, hb⟩
      have HB1 := Lib.hid (Below.thn HB.out HB.out.size hb)
      obtain ⟨x0, x1, x2⟩ := val_cells (block_kept hb HN.out)
      clear hb
      go_wp2_with fail
      refine (PR.out _ HB1.out).mono ?_
      rintro e w2 ⟨rfl, hb⟩
      have HB2 := Lib.hid (Below.thn HB1.out HB1.out.size hb)
      clear hb
      go_wp2_with fail
      go_ret
      exact ⟨rfl, HB2.out⟩
    · have hline := line_val hok hn (by omega)
      have hgood := toks_good v hok hn
      have hpar : parseT (posG 0 (toksV v)) = (termsV v, (toksV v).length, 0) := by rw [parseT_pos, toks_parse v hok]
      have hev := toks_eval v hok hn
      have hck : checkT (termsV v) = 0 := by
        rcases parseT_ok (posG 0 (toksV v)) with h | h
        · rw [hpar] at h; exact h.2.1
        · rw [hpar] at h; exact absurd rfl h.1
      obtain ⟨hc1, hc2⟩ := checkT_small hck
      have hbnd : ∀ x ∈ posG 0 (toksV v), x.t.length ≤ 512 ∧ x.n < 18446744073709551616 := fun x hx => by
        obtain ⟨y, hy, e1, e2⟩ := posG_sub _ _ _ hx
        rw [e1, e2]
        refine may_len (goodG_mem _ _ hgood hy) ?_
        have := glue_mem _ _ hy
        rw [toks_text] at this
        omega
      have hlen := posG_len (toksV v) 0
      have h5 := (val_terms_len v).2
      have LX := Lib.hid (fun V (hb : Below w.heap.size w V) => lex_any ⟨(vtB v).toArray⟩ V (hG.thn hb) (by rw [size_list]; simp only [List.toList_toArray]; unfold maxLen; omega))
      unfold LexOut at LX
      simp only [List.toList_toArray] at LX
      rw [hline] at LX
      have PA := Lib.hid (fun tv V (ht : TokO V tv (posG 0 (toksV v))) (hb : Below w.heap.size w V) => parse_any tv (posG 0 (toksV v)) V (hE.thn hb) ht (by omega) (fun x hx => (hbnd x hx).2) (fun x hx => by have := (hbnd x hx).1; omega))
      rw [hpar] at PA
      have EV := Lib.hid (fun sv V (hs : TriO tmF V sv (termsV v)) (hb : Below w.heap.size w V) => eval_any sv (termsV v) V (hE.thn hb) hs (by omega) hc2)
      rw [hev] at EV
      have hsz : ¬ ((512 : Int) < ((⟨(vtB v).toArray⟩ : BA).size : Int)) := by rw [size_list]; simp only [List.toList_toArray]; omega
      obtain ⟨T, hT⟩ : ∃ T, posG 0 (toksV v) = T := ⟨_, rfl⟩
      rw [hT] at hlen
      simp only [hT] at LX PA
      rw [← hlen] at PA
      obtain ⟨n, p, m⟩ := v
      unfold PV at PR
      unfold RV at EV
      unfold vlV at *
      simp only at PR HN HB EV PA LX ⊢
      generalize (⟨(vtB (n, p, m)).toArray⟩ : BA) = S at *
      generalize (vtB (n, p, m)).length = ln at *
      generalize termsV (n, p, m) = L at *
      clear hG hE hn hp hm hok hP hlong hline hgood hpar hev hck hc1 hc2 hbnd hlen h5 hT
      go_enter Tryz.func4, Tryz.ntmps4
      go_wp2_with fail
      generalize w.alloc (.cells #[.int .i64 n, .string p, .string m] 36) = W0 at *
      refine (LV.out _ HB.out).mono ?_
      rintro e w1 ⟨rfl, hb⟩
      have HB1 := Lib.hid (Below.thn HB.out HB.out.size hb)
      have HN1 := Lib.hid (block_kept hb HN.out)
      obtain ⟨x0, x1, x2⟩ := val_cells HN1.out
      clear hb
      go_wp2_with fail
      refine (PR.out _ HB1.out).mono ?_
      rintro e w2 ⟨rfl, hb⟩
      have HB2 := Lib.hid (Below.thn HB1.out HB1.out.size hb)
      have HN2 := Lib.hid (block_kept hb HN1.out)
      clear hb x0 x1 x2
      go_wp2_with fail
      refine (LX.out _ HB2.out).mono ?_
      rintro e w3 ⟨⟨tv, rfl, hown⟩, hb⟩
      have HB3 := Lib.hid (Below.thn HB2.out HB2.out.size hb)
      have HN3 := Lib.hid (block_kept hb HN2.out)
      have HT3 := toko_of_own hown
      obtain ⟨A, c, rfl⟩ := HT3.slice
      replace HT3 := Lib.hid HT3
      clear hb hown
      go_wp2_with fail
      refine (PA.out _ _ HT3.out HB3.out).mono ?_
      rintro e w4 ⟨⟨sv, rfl, htri⟩, hb⟩
      have HB4 := Lib.hid (Below.thn HB3.out HB3.out.size hb)
      have HN4 := Lib.hid (block_kept hb HN3.out)
      have HT4 := Lib.hid htri
      clear hb htri
      go_wp2_with fail
      refine (EV.out _ _ HT4.out HB4.out).mono ?_
      rintro e w5 ⟨rfl, hb⟩
      have HB5 := Lib.hid ((Below.thn HB4.out HB4.out.size hb).alloc (Nat.le_trans HB4.out.size hb.size) (.cells #[.int .i64 n, .string p, .string m] 36))
      have hn5 := heap_alloc_new w5 (.cells #[.int .i64 n, .string p, .string m] 36)
      obtain ⟨y0, y1, y2⟩ := val_cells hn5
      obtain ⟨x0, x1, x2⟩ := val_cells (block_kept (below1 w5 (.cells #[.int .i64 n, .string p, .string m] 36)) (block_kept hb HN4.out))
      clear hb hn5
      go_wp2_with fail
      go_ret
      exact ⟨rfl, HB5.out⟩
  · have hP : printV v = (E0, 90) := by unfold printV; rw [if_neg hok]
    rw [hP] at PR
    obtain ⟨n, p, m⟩ := v
    unfold PV at PR
    unfold vlV at *
    simp only at PR HN HB ⊢
    clear hG hE hn hp hm hok hP
    go_enter Tryz.func4, Tryz.ntmps4
    go_wp2_with fail
    generalize w.alloc (.cells #[.int .i64 n, .string p, .string m] 36) = W0 at *
    refine (LV.out _ HB.out).mono ?_
    rintro e w1 ⟨rfl, hb⟩
    have HB1 := Lib.hid (Below.thn HB.out HB.out.size hb)
    obtain ⟨x0, x1, x2⟩ := val_cells (block_kept hb HN.out)
    clear hb
    go_wp2_with fail
    refine (PR.out _ HB1.out).mono ?_
    rintro e w2 ⟨rfl, hb⟩
    have HB2 := Lib.hid (Below.thn HB1.out HB1.out.size hb)
    clear hb
    go_wp2_with fail
    go_ret
    exact ⟨rfl, HB2.out⟩
end Go.Proofs.YtdkflmpdelfgoaaGreatDoor
