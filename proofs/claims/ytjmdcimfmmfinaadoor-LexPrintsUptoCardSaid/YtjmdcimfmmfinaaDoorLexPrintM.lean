/-
  Tokens as a line, and that line's tokens again: they are the same but for their places; bytes are read back of their quotes. No program in this text; no conditions.
-/
import Derived.Test.YtjmdcimfmmfinaaDoorLexJoin
namespace Go.Proofs.YtjmdcimfmmfinaaDoor
set_option linter.unusedVariables false

/-- a token's text, of one that may be -/
def textB (t : Tok) : Bs := if t.k = 2 then Lib.decDigits t.n else if t.k = 3 then quoteB t.t else t.t
def wordyB (t : Tok) : Bool := t.k == 1 || t.k == 2
def slashB (t : Tok) : Bool := t.k == 4 && t.t == [47]
def partedP (a b : Tok) : Bool := wordyB a && wordyB b || slashB a && slashB b
/-- what stands ahead of a token -/
def gapB : Option Tok → Tok → Bs
  | none, _ => []
  | some a, b => if partedP a b then [32] else []
def printF : Option Tok → List Tok → Bs
  | _, [] => []
  | q, t :: T => gapB q t ++ textB t ++ printF (some t) T
def fitsP (k : Int) (t : Bs) : Bool := if k = 1 then nameB t else if k = 2 then t == [] else if k = 3 then decide (t.length ≤ 512) else if k = 4 then isSignB t else false
/-- a token that may be, its place apart -/
def mayP (t : Tok) : Bool := (t.n == 0 || t.k == 2) && fitsP t.k t.t && decide (t.n < 18446744073709551616)

/-! ### digits -/
theorem dec_all : ∀ u, (Lib.decDigits u).all isD = true := by
  intro u
  induction u using Nat.strongRecOn with
  | _ u ih =>
    have hd : ∀ k : Fin 10, isD (UInt8.ofNat (48 + k.val)) = true := by decide
    by_cases h : u < 10
    · rw [Lib.decDigits_one h]; simpa using hd ⟨u, h⟩
    · rw [Lib.decDigits, dif_neg h, List.all_append, ih (u / 10) (by omega)]
      simpa using hd ⟨u % 10, by omega⟩
theorem dec_ne (u : Nat) : Lib.decDigits u ≠ [] := by
  intro e
  have := congrArg List.length e
  rw [Lib.decDigits_length] at this
  have := Lib.nDigits_pos u
  simp at *
  omega
theorem valF_app (base : Nat) : ∀ (s r : Bs) (a v : Nat), valF base a s = some v → valF base a (s ++ r) = valF base v r
  | [], r, a, v, h => by cases h; rfl
  | c :: s, r, a, v, h => by
    rw [List.cons_append, valF]
    rw [valF] at h
    cases hx : hexV c with
    | none => rw [hx] at h; cases h
    | some d =>
      rw [hx] at h
      simp only at h ⊢
      split at h
      · rename_i hd
        rw [if_pos hd]
        exact valF_app base s r _ v h
      · cases h
theorem dec_val : ∀ u, valF 10 0 (Lib.decDigits u) = some u := by
  intro u
  induction u using Nat.strongRecOn with
  | _ u ih =>
    have hd : ∀ k : Fin 10, hexV (UInt8.ofNat (48 + k.val)) = some k.val := by decide
    by_cases h : u < 10
    · rw [Lib.decDigits_one h, valF, hd ⟨u, h⟩]
      simp [valF, h]
    · rw [Lib.decDigits, dif_neg h, valF_app 10 _ _ _ _ (ih (u / 10) (by omega)), valF, hd ⟨u % 10, by omega⟩]
      simp only [valF]
      rw [if_pos (by omega)]
      congr 1
      omega
theorem dec_head : ∀ u, 10 ≤ u → (Lib.decDigits u).head? ≠ some 48 := by
  intro u
  induction u using Nat.strongRecOn with
  | _ u ih =>
    intro hu
    rw [Lib.decDigits, dif_neg (by omega)]
    by_cases h : u / 10 < 10
    · rw [Lib.decDigits_one h]
      have hd : ∀ k : Fin 10, k.val ≠ 0 → UInt8.ofNat (48 + k.val) ≠ 48 := by decide
      have := hd ⟨u / 10, h⟩ (by show u / 10 ≠ 0; omega)
      simpa using this
    · have := ih (u / 10) (by omega) (by omega)
      cases he : Lib.decDigits (u / 10) with
      | nil => exact absurd he (dec_ne _)
      | cons c y => rw [he] at this; simpa using this
theorem isD_ne {c : UInt8} (h : isD c = true) : c ≠ 120 ∧ c ≠ 98 ∧ c ≠ 39 ∧ c ≠ 34 := by
  refine ⟨?_, ?_, ?_, ?_⟩ <;> (intro e; rw [e] at h; revert h; decide)
theorem parse_dec (u : Nat) (hu : u < 18446744073709551616) : parseD (Lib.decDigits u) = some u := by
  have ha := dec_all u
  have hne := dec_ne u
  have h2 : ∀ x : UInt8, isD x = false → (Lib.decDigits u).take 2 ≠ [48, x] := by
    intro x hx e
    have hm : x ∈ Lib.decDigits u := List.mem_of_mem_take (i := 2) (by rw [e]; simp)
    have := List.all_eq_true.1 ha x hm
    rw [hx] at this; cases this
  unfold parseD
  rw [if_neg (h2 120 (by decide)), if_neg (h2 98 (by decide)), if_neg]
  · unfold digitsV
    rw [if_neg hne, dec_val]
    simp only
    rw [if_pos hu]
  · rintro ⟨h3, h4⟩
    by_cases h : u < 10
    · rw [Lib.decDigits_one h] at h3; simp at h3
    · exact dec_head u (by omega) h4
theorem all_imp {p q : UInt8 → Bool} (h : ∀ c, p c = true → q c = true) {s : Bs} (hs : s.all p = true) : s.all q = true := List.all_eq_true.2 fun c hc => h c (List.all_eq_true.1 hs c hc)
theorem isD_LD {c : UInt8} (h : isD c = true) : isLD c = true := by simp [isLD, h]
theorem isD_notL : ∀ c : UInt8, isD c = true → isL c = false := by
  intro c h
  simp only [isD, Bool.and_eq_true, decide_eq_true_eq, UInt8.le_iff_toNat_le] at h
  have key : ∀ n : Fin 256, 48 ≤ n.val → n.val ≤ 57 → isL (UInt8.ofNat n.val) = false := by decide +kernel
  have := key ⟨c.toNat, c.toNat_lt⟩ h.1 h.2
  simpa using this

/-! ### quotes -/
theorem bytes256 {P : UInt8 → Prop} (h : ∀ n : Fin 256, P (UInt8.ofNat n.val)) (c : UInt8) : P c := by
  have := h ⟨c.toNat, c.toNat_lt⟩
  simpa using this
def shortOk (c : UInt8) : Bool := match letterOf c with
  | some l => decide (byteOf l = some c)
  | none => true
theorem shortOk_all : ∀ c, shortOk c = true := bytes256 (P := fun c => shortOk c = true) (by decide +kernel)
theorem hex_back : ∀ n : Fin 16, hexV (hexD n.val) = some n.val := by decide +kernel
theorem quoted1_back (c : UInt8) (r : Bs) : within1 (quoted1 c ++ r) = some (c, (quoted1 c).length) ∧ (∃ d y, quoted1 c = d :: y ∧ d ≠ 34) := by
  unfold quoted1
  cases hl : letterOf c with
  | some l =>
    have h := shortOk_all c
    unfold shortOk at h
    rw [hl] at h
    have hb : byteOf l = some c := by simpa using h
    exact ⟨by simp [within1, hb], _, _, rfl, by decide⟩
  | none =>
    simp only
    by_cases hs : stands c 34 = true
    · rw [if_pos hs]
      have h92 : c ≠ 92 := by intro e; rw [e] at hs; revert hs; decide
      have h34 : c ≠ 34 := by intro e; rw [e] at hs; revert hs; decide
      exact ⟨by simp [within1, hs, h92], _, _, rfl, h34⟩
    · rw [if_neg hs]
      have hlt := c.toNat_lt
      have a1 := hex_back ⟨c.toNat / 16, by omega⟩
      have a2 := hex_back ⟨c.toNat % 16, by omega⟩
      simp only at a1 a2
      refine ⟨?_, _, _, rfl, by decide⟩
      have e : 16 * (c.toNat / 16) + c.toNat % 16 = c.toNat := by omega
      simp [within1, show byteOf 120 = none by decide, a1, a2, e]
theorem unq_back : ∀ (s r : Bs), unq (s.flatMap quoted1 ++ 34 :: r) = some (s, (s.flatMap quoted1).length + 1)
  | [], r => by rw [List.flatMap_nil, List.nil_append]; exact unq_end r
  | c :: s, r => by
    obtain ⟨h1, d, y, hd, hne⟩ := quoted1_back c (s.flatMap quoted1 ++ 34 :: r)
    have e : (c :: s).flatMap quoted1 ++ 34 :: r = quoted1 c ++ (s.flatMap quoted1 ++ 34 :: r) := by rw [List.flatMap_cons, List.append_assoc]
    rw [e]
    have hdr : (quoted1 c ++ (s.flatMap quoted1 ++ 34 :: r)).drop (quoted1 c).length = s.flatMap quoted1 ++ 34 :: r := by simp
    have h2 : quoted1 c ++ (s.flatMap quoted1 ++ 34 :: r) = d :: (y ++ (s.flatMap quoted1 ++ 34 :: r)) := by rw [hd]; rfl
    rw [h2] at h1 hdr ⊢
    rw [unq_step hne h1, hdr, unq_back s r]
    simp only [Option.map_some, List.flatMap_cons, List.length_append]
    congr 2
theorem quotes_back (s r : Bs) : quotesB (quoteB s ++ r) = some (s, (quoteB s).length) := by
  have e : quoteB s ++ r = 34 :: (s.flatMap quoted1 ++ 34 :: r) := by simp [quoteB]
  rw [e]
  simp only [quotesB, if_true]
  rw [unq_back s r]
  simp [quoteB]
/-- bytes are read back of their quotes -/
theorem unquote_back (s : Bs) : unquoteB (quoteB s) = some s := by
  have := quotes_back s []
  rw [List.append_nil] at this
  unfold unquoteB
  rw [this]
  simp

/-! ### one token -/
/-- what may stand right behind a token's text -/
def Behind (t : Tok) (r : Bs) : Prop := (wordyB t = true → ∀ c, r.head? = some c → isLD c = false) ∧ (slashB t = true → r.head? ≠ some 47)
theorem nameB_all {s : Bs} (h : nameB s = true) : s.all isLD = true ∧ ∃ c r, s = c :: r ∧ isL c = true := by
  cases s with
  | nil => cases h
  | cons c r =>
    simp only [nameB, Bool.and_eq_true] at h
    exact ⟨by rw [List.all_cons, h.2]; simp [isLD, h.1], c, r, rfl, h.1⟩
theorem sign_cases {s : Bs} (h : isSignB s = true) : s = [60, 60] ∨ s = [62, 62] ∨ ∃ c, s = [c] ∧ signL.contains c = true := by
  unfold isSignB at h
  simp only [Bool.or_eq_true, beq_iff_eq] at h
  rcases h with (h | h) | h
  · exact .inl h
  · exact .inr (.inl h)
  · split at h
    · rename_i c; exact .inr (.inr ⟨c, rfl, h⟩)
    · cases h
theorem sign_byte : ∀ c : UInt8, signL.contains c = true → isL c = false ∧ isD c = false ∧ c ≠ 39 ∧ c ≠ 34 ∧ c ≠ 60 ∧ c ≠ 62 ∧ isBl c = false ∧ isLD c = false := by
  intro c h
  have key : ∀ c : UInt8, (!(signL.contains c) || (!isL c && !isD c && c != 39 && c != 34 && c != 60 && c != 62 && !isBl c && !isLD c)) = true := bytes256 (P := fun c => (!(signL.contains c) || (!isL c && !isD c && c != 39 && c != 34 && c != 60 && c != 62 && !isBl c && !isLD c)) = true) (by decide +kernel)
  have := key c
  rw [h] at this
  simp at this
  exact ⟨this.1.1.1.1.1.1.1, this.1.1.1.1.1.1.2, this.1.1.1.1.1.2, this.1.1.1.1.2, this.1.1.1.2, this.1.1.2, this.1.2, this.2⟩
theorem one_text {t : Tok} (h : mayP t = true) {r : Bs} (hb : Behind t r) : one (textB t ++ r) = some (t.k, t.t, t.n, (textB t).length) ∧ (textB t ++ r).take 2 ≠ [47, 47] := by
  obtain ⟨k, s, n, p⟩ := t
  simp only [mayP, fitsP, Bool.and_eq_true, Bool.or_eq_true, beq_iff_eq, decide_eq_true_eq] at h
  obtain ⟨⟨hn, hf⟩, hn2⟩ := h
  unfold textB
  simp only
  by_cases k1 : k = 1
  · subst k1
    simp only [if_true] at hf
    obtain ⟨ha, c, s1, rfl, hc⟩ := nameB_all hf
    have hn0 : n = 0 := by rcases hn with h | h; exact h; exact absurd h (by decide)
    subst hn0
    have hbr := hb.1 rfl
    have hr : run isLD (c :: s1 ++ r) = (c :: s1).length := run_app isLD _ _ ha hbr
    have c47 : c ≠ 47 := by intro e; rw [e] at hc; revert hc; decide
    have t2 : (c :: s1 ++ r).take (c :: s1).length = c :: s1 := by simp
    rw [if_neg (by decide), if_neg (by decide)]
    refine ⟨?_, by simp [c47]⟩
    show one (c :: (s1 ++ r)) = _
    unfold one
    simp only [hc, if_true]
    rw [show (c :: (s1 ++ r)) = c :: s1 ++ r from rfl, hr, t2]
  by_cases k2 : k = 2
  · subst k2
    simp only [show ¬ ((2 : Int) = 1) by decide, if_false, if_true, beq_iff_eq] at hf
    subst hf
    rw [if_pos rfl]
    have ha := dec_all n
    have hbr := hb.1 rfl
    have hr : run isLD (Lib.decDigits n ++ r) = (Lib.decDigits n).length := run_app isLD _ _ (all_imp (fun c h => isD_LD h) ha) hbr
    have t2 : (Lib.decDigits n ++ r).take (Lib.decDigits n).length = Lib.decDigits n := by simp
    have hp := parse_dec n hn2
    cases hd : Lib.decDigits n with
    | nil => exact absurd hd (dec_ne n)
    | cons c y =>
      rw [hd] at ha hr t2 hp
      have hc : isD c = true := by rw [List.all_cons, Bool.and_eq_true] at ha; exact ha.1
      have hne := isD_ne hc
      have c47 : c ≠ 47 := by intro e; rw [e] at hc; revert hc; decide
      refine ⟨?_, by simp [c47]⟩
      show one (c :: (y ++ r)) = _
      have hnum : numB (c :: (y ++ r)) = some (n, (c :: y).length) := by
        unfold numB
        rw [if_neg (by simp [hne.2.2.1])]
        rw [show c :: (y ++ r) = c :: y ++ r from rfl, hr, t2, hp]
        rfl
      unfold one
      simp only [isD_notL c hc, hc, Bool.true_or, if_true, Bool.false_eq_true, if_false, hnum, Option.map_some]
  by_cases k3 : k = 3
  · subst k3
    have hn0 : n = 0 := by rcases hn with h | h; exact h; exact absurd h (by decide)
    subst hn0
    rw [if_neg (by decide), if_pos rfl]
    have hq := quotes_back s r
    refine ⟨?_, by simp [quoteB]⟩
    have e : quoteB s ++ r = 34 :: (s.flatMap quoted1 ++ [34] ++ r) := by simp [quoteB]
    rw [e] at hq ⊢
    unfold one
    simp only [show isL 34 = false by decide, show isD 34 = false by decide, show ((34 : UInt8) == 39) = false by decide, show ((34 : UInt8) == 34) = true by decide, Bool.false_or, Bool.false_eq_true, if_false, if_true, hq, Option.map_some]
  by_cases k4 : k = 4
  · subst k4
    simp only [show ¬ ((4 : Int) = 1) by decide, show ¬ ((4 : Int) = 2) by decide, show ¬ ((4 : Int) = 3) by decide, if_false, if_true] at hf
    have hn0 : n = 0 := by rcases hn with h | h; exact h; exact absurd h (by decide)
    subst hn0
    rw [if_neg (by decide), if_neg (by decide)]
    rcases sign_cases hf with rfl | rfl | ⟨c, rfl, hc⟩
    · exact ⟨by simp [one, isL, isD, signN], by simp⟩
    · exact ⟨by simp [one, isL, isD, signN], by simp⟩
    · obtain ⟨h1, h2, h3, h4, h5, h6, _, _⟩ := sign_byte c hc
      have hs : signN (c :: r) = 1 := by rw [signN, if_neg (by simp [h5, h6]), if_pos hc]
      refine ⟨?_, ?_⟩
      · show one (c :: r) = _
        unfold one
        simp [h1, h2, h3, h4, hs]
      · intro e
        have e1 : c = 47 := by
          cases r <;> simp at e
          exact e.1
        subst e1
        have := hb.2 rfl
        cases r with
        | nil => cases e
        | cons d y => simp at e; rw [e] at this; exact this rfl
  · simp only [k1, k2, k3, k4, if_false] at hf
    cases hf
theorem text_len {t : Tok} (h : mayP t = true) : 1 ≤ (textB t).length := by
  cases ht : textB t with
  | cons c y => simp
  | nil =>
    obtain ⟨h1, _⟩ := one_text (t := t) (r := []) h ⟨(fun _ c hc => by cases hc), (fun _ => by simp)⟩
    rw [ht] at h1
    cases h1
/-- the first byte of a token's text -/
theorem head_text {t : Tok} (h : mayP t = true) : (wordyB t = false → ∀ c, (textB t).head? = some c → isLD c = false) ∧ (slashB t = false → (textB t).head? ≠ some 47) ∧ (∀ c, (textB t).head? = some c → isBl c = false) := by
  obtain ⟨k, s, n, p⟩ := t
  simp only [mayP, fitsP, Bool.and_eq_true, Bool.or_eq_true, beq_iff_eq, decide_eq_true_eq] at h
  obtain ⟨⟨hn, hf⟩, hn2⟩ := h
  unfold textB wordyB slashB
  simp only
  by_cases k1 : k = 1
  · subst k1
    simp only [if_true] at hf
    obtain ⟨ha, c, s1, rfl, hc⟩ := nameB_all hf
    have c47 : c ≠ 47 := by intro e; rw [e] at hc; revert hc; decide
    have hb : isBl c = false := by
      cases hb : isBl c with
      | false => rfl
      | true => have := (bl_ld c hb).2.1; rw [hc] at this; cases this
    simp [c47, hb]
  by_cases k2 : k = 2
  · subst k2
    have ha := dec_all n
    cases hd : Lib.decDigits n with
    | nil => exact absurd hd (dec_ne n)
    | cons c y =>
      rw [hd] at ha
      have hc : isD c = true := by rw [List.all_cons, Bool.and_eq_true] at ha; exact ha.1
      have c47 : c ≠ 47 := by intro e; rw [e] at hc; revert hc; decide
      have hb : isBl c = false := by
        cases hb : isBl c with
        | false => rfl
        | true => have := (bl_ld c hb).2.2.1; rw [hc] at this; cases this
      simp [c47, hb]
  by_cases k3 : k = 3
  · subst k3
    simp [quoteB, isLD, isL, isD, isBl]
  by_cases k4 : k = 4
  · subst k4
    simp only [show ¬ ((4 : Int) = 1) by decide, show ¬ ((4 : Int) = 2) by decide, show ¬ ((4 : Int) = 3) by decide, if_false, if_true] at hf
    rcases sign_cases hf with rfl | rfl | ⟨c, rfl, hc⟩
    · simp [isLD, isL, isD, isBl]
    · simp [isLD, isL, isD, isBl]
    · obtain ⟨h1, h2, h3, h4, h5, h6, h7, h8⟩ := sign_byte c hc
      simp [h7, h8]
  · simp only [k1, k2, k3, k4, if_false] at hf
    cases hf

/-- what may be behind the token: nothing, or the rest of the line -/
theorem behind_rest {t : Tok} (T : List Tok) (hT : ∀ x ∈ T, mayP x = true) : Behind t (printF (some t) T) := by
  cases T with
  | nil => exact ⟨(fun _ c hc => by cases hc), (fun _ => by simp [printF])⟩
  | cons u T =>
    have hu := hT u (by simp)
    obtain ⟨g1, g2, g3⟩ := head_text hu
    have hl := text_len hu
    by_cases hp : partedP t u = true
    · have e : printF (some t) (u :: T) = 32 :: (textB u ++ printF (some u) T) := by simp [printF, gapB, hp]
      rw [e]
      exact ⟨(fun _ c hc => by cases hc; decide), (fun _ => by simp)⟩
    · have e : printF (some t) (u :: T) = textB u ++ printF (some u) T := by simp [printF, gapB, hp]
      have hh : (textB u ++ printF (some u) T).head? = (textB u).head? := by
        cases hx : textB u with
        | nil => rw [hx] at hl; simp at hl
        | cons c y => rfl
      rw [e]
      unfold Behind
      rw [hh]
      have hp2 : partedP t u = false := by simpa using hp
      unfold partedP at hp2
      rw [Bool.or_eq_false_iff] at hp2
      refine ⟨fun hw => g1 ?_, fun hs => g2 ?_⟩
      · have := hp2.1; rw [hw] at this; simpa using this
      · have := hp2.2; rw [hs] at this; simpa using this
theorem print_lex : ∀ (T : List Tok) (q : Option Tok) (at_ : Nat), (∀ x ∈ T, mayP x = true) → (lexS at_ (printF q T)).1.map plainT = T.map plainT ∧ (lexS at_ (printF q T)).2.2 = 0 ∧ (lexS at_ (printF q T)).2.1 = at_ + (printF q T).length
  | [], q, at_, _ => by
    have : printF q [] = [] := by cases q <;> rfl
    rw [this, lexS_end (by rfl)]
    exact ⟨rfl, rfl, rfl⟩
  | t :: T, q, at_, h => by
    have ht := h t (by simp)
    have hT : ∀ x ∈ T, mayP x = true := fun x hx => h x (by simp [hx])
    obtain ⟨h1, h2⟩ := one_text ht (behind_rest (t := t) T hT)
    have hl := text_len ht
    have hg : (gapB q t).all isBl = true := by
      cases q with
      | none => rfl
      | some a =>
        show (if partedP a t = true then [32] else ([] : Bs)).all isBl = true
        split <;> rfl
    have hnb : ∀ c, (textB t ++ printF (some t) T).head? = some c → isBl c = false := by
      intro c hc
      refine (head_text ht).2.2 c ?_
      cases hx : textB t with
      | nil => rw [hx] at hl; simp at hl
      | cons d y => rw [hx] at hc; exact hc
    have hsp := skip_pre hg hnb h2
    have e : printF q (t :: T) = gapB q t ++ (textB t ++ printF (some t) T) := by rw [printF, List.append_assoc]
    rw [e]
    have hne : (gapB q t ++ (textB t ++ printF (some t) T)).drop (skipB (gapB q t ++ (textB t ++ printF (some t) T))) ≠ [] := by
      rw [hsp.1, hsp.2]
      intro e
      have := congrArg List.length e
      rw [List.length_append, List.length_nil] at this
      omega
    have hst := lexS_step (at_ := at_) hne (by rw [hsp.1, hsp.2]; exact h1)
    rw [hst]
    have hd : ((gapB q t ++ (textB t ++ printF (some t) T)).drop (skipB (gapB q t ++ (textB t ++ printF (some t) T)))).drop (textB t).length = printF (some t) T := by
      rw [hsp.1, hsp.2]; simp
    rw [hd]
    have ih := print_lex T (some t) (at_ + skipB (gapB q t ++ (textB t ++ printF (some t) T)) + (textB t).length) hT
    refine ⟨by rw [List.map_cons, List.map_cons, ih.1]; rfl, ih.2.1, ?_⟩
    show (lexS _ _).2.1 = _
    rw [ih.2.2, hsp.1]
    simp only [List.length_append]
    omega
/-- what was printed is read as it was, but for places -/
theorem print_back (T : List Tok) (hT : ∀ x ∈ T, mayP x = true) (hl : (printF none T).length ≤ 512) : (lexB (printF none T)).1.map plainT = T.map plainT ∧ (lexB (printF none T)).2.2 = 0 ∧ (lexB (printF none T)).2.1 = (printF none T).length := by
  have h := print_lex T none 0 hT
  have e : lineB (printF none T) = lexS 0 (printF none T) := by unfold lineB; rw [if_neg (by omega)]
  have e2 : lexB (printF none T) = lexS 0 (printF none T) := by unfold lexB; rw [e, if_pos h.2.1]
  rw [e2]
  exact ⟨h.1, h.2.1, by rw [h.2.2]; omega⟩
end Go.Proofs.YtjmdcimfmmfinaaDoor
