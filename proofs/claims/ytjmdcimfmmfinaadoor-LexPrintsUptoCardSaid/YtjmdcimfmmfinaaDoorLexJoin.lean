/-
  A line put together anew, with blanks ahead of its tokens and what is left out behind them, has the same tokens but for their places. No program in this text; no conditions.
-/
import Derived.Test.YtjmdcimfmmfinaaDoorLexMath
namespace Go.Proofs.YtjmdcimfmmfinaaDoor
set_option linter.unusedVariables false

def plainT (x : Tok) : Tok := ⟨x.k, x.t, x.n, 0⟩
/-- where the piece ends that a token begins: where the next one begins, or where the line ends -/
def pieceEnd (line : Bs) : List Tok → Nat
  | [] => line.length
  | u :: _ => u.p.toNat
def joinB (line tail : Bs) (B : Nat → Bs) : Nat → List Tok → Bs
  | _, [] => tail
  | i, t :: T => B i ++ ((line.take (pieceEnd line T)).drop t.p.toNat ++ joinB line tail B (i + 1) T)

theorem run_drop (p : UInt8 → Bool) : ∀ s : Bs, ∀ c, (s.drop (run p s)).head? = some c → p c = false
  | [], c, h => by simp [run] at h
  | x :: r, c, h => by
    rw [run] at h
    by_cases hx : p x = true
    · rw [if_pos hx, List.drop_succ_cons] at h; exact run_drop p r c h
    · rw [if_neg hx, List.drop_zero, List.head?_cons, Option.some.injEq] at h
      rw [← h]; simpa using hx
theorem run_app (p : UInt8 → Bool) : ∀ (u r : Bs), u.all p = true → (∀ c, r.head? = some c → p c = false) → run p (u ++ r) = u.length
  | [], [], _, _ => rfl
  | [], c :: r, _, h => run_no p (h c rfl)
  | x :: u, r, hu, h => by
    rw [List.all_cons, Bool.and_eq_true] at hu
    rw [List.cons_append, run_head p hu.1, run_app p u r hu.2 h, List.length_cons]
theorem all_run (p : UInt8 → Bool) : ∀ s : Bs, (s.take (run p s)).all p = true
  | [] => rfl
  | c :: r => by
    rw [run]
    by_cases h : p c = true
    · rw [if_pos h, List.take_succ_cons, List.all_cons, h, all_run p r]; rfl
    · rw [if_neg h]; rfl
theorem len_take_run (p : UInt8 → Bool) (s : Bs) : (s.take (run p s)).length = run p s := by
  rw [List.length_take, Nat.min_eq_left (run_le p s)]
theorem bl_ld : ∀ c : UInt8, isBl c = true → isLD c = false ∧ isL c = false ∧ isD c = false ∧ c ≠ 39 ∧ c ≠ 34 ∧ c ≠ 60 ∧ c ≠ 62 ∧ c ≠ 47 ∧ signL.contains c = false := by
  intro c h
  simp only [isBl, Bool.or_eq_true, beq_iff_eq] at h
  rcases h with rfl | rfl <;> decide
theorem one_nobl {c : UInt8} {r : Bs} {q : Int × Bs × Nat × Nat} (h : one (c :: r) = some q) : isBl c = false := by
  cases hb : isBl c with
  | false => rfl
  | true =>
    obtain ⟨_, h2, h3, h4, h5, h6, h7, _, h9⟩ := bl_ld c hb
    simp [one, h2, h3, h4, h5, signN, h6, h7, List.contains_eq_mem, show ¬ c ∈ signL by simpa using h9] at h

theorem within1_app {s : Bs} {b : UInt8} {m : Nat} (h : within1 s = some (b, m)) (r : Bs) : within1 (s.take m ++ r) = some (b, m) := by
  unfold within1 at h
  split at h
  · cases h
  · rename_i c r1
    split at h
    · rename_i hc
      split at h
      · cases h
      · rename_i d r2
        split at h
        · rename_i b' hb
          cases h
          simp [within1, hc, hb]
        · rename_i hb
          split at h
          · rename_i hd
            split at h
            · rename_i h1 h2 r3
              split at h
              · rename_i a b' ha hb'
                cases h
                simp [within1, hc, hd, show byteOf 120 = none by decide, ha, hb']
              · cases h
            · cases h
          · cases h
    · rename_i hc
      split at h
      · rename_i hs
        cases h
        simp [within1, hc, hs]
      · cases h
theorem unqF_app : ∀ (f : Nat) (s b : Bs) (n : Nat) (r : Bs), unqF f s = some (b, n) → unqF f (s.take n ++ r) = some (b, n)
  | 0, s, b, n, r, h => by cases h
  | f + 1, s, b, n, r, h => by
    cases s with
    | nil => cases h
    | cons c s1 =>
      rw [unqF] at h
      by_cases hc : c = 34
      · simp only [hc, if_true] at h
        cases h
        subst hc
        simp [unqF]
      · simp only [hc, if_false] at h
        cases hw : within1 (c :: s1) with
        | none => rw [hw] at h; cases h
        | some x =>
          obtain ⟨b1, m⟩ := x
          have hp := within1_pos hw
          rw [hw] at h
          simp only [Option.map_eq_some_iff] at h
          obtain ⟨⟨b2, n2⟩, h2, he⟩ := h
          obtain ⟨rfl, rfl⟩ := Prod.mk.inj he
          have ih := unqF_app f _ _ _ r h2
          have e : (c :: s1).take (m + n2) ++ r = (c :: s1).take m ++ (((c :: s1).drop m).take n2 ++ r) := by rw [List.take_add, List.append_assoc]
          have hw' := within1_app hw (((c :: s1).drop m).take n2 ++ r)
          have hlen : ((c :: s1).take m).length = m := by rw [List.length_take]; omega
          have hd : ((c :: s1).take m ++ (((c :: s1).drop m).take n2 ++ r)).drop m = ((c :: s1).drop m).take n2 ++ r := by rw [List.drop_append_of_le_length (by omega), List.drop_of_length_le (by omega), List.nil_append]
          rw [e]
          obtain ⟨m', rfl⟩ : ∃ m', m = m' + 1 := ⟨m - 1, by omega⟩
          rw [List.take_succ_cons, List.cons_append] at hw' hd ⊢
          rw [unqF]
          simp only [hc, if_false, hw', hd, ih, Option.map_some]
theorem quotesB_app {s b : Bs} {n : Nat} (h : quotesB s = some (b, n)) (r : Bs) : quotesB (s.take n ++ r) = some (b, n) := by
  have hle := quotesB_le h
  unfold quotesB at h
  split at h
  · cases h
  · rename_i c s1
    split at h
    · rename_i hc
      simp only [Option.map_eq_some_iff] at h
      obtain ⟨⟨b2, n2⟩, h2, he⟩ := h
      obtain ⟨rfl, rfl⟩ := Prod.mk.inj he
      rw [List.take_succ_cons, List.cons_append]
      simp only [quotesB, hc, if_true]
      have h3 := unqF_app (s1.length + r.length + 1) s1 b2 n2 r (by rw [unqF_fuel _ _ (by omega)]; exact h2)
      rw [unqF_fuel _ _ (by rw [List.length_append, List.length_take]; omega)] at h3
      have h4 : unq (s1.take n2 ++ r) = some (b2, n2) := h3
      rw [h4]; rfl
    · cases h

/-- what may stand behind a token in its old rest's place -/
def Follows (r r' : Bs) : Prop := r'.head? = r.head? ∨ ∃ c, r'.head? = some c ∧ isBl c = true
theorem Follows.ld {r r' : Bs} (h : Follows r r') (hr : ∀ c, r.head? = some c → isLD c = false) : ∀ c, r'.head? = some c → isLD c = false := by
  intro c hc
  rcases h with h | ⟨d, hd, hb⟩
  · exact hr c (h ▸ hc)
  · rw [hd] at hc; cases hc; exact (bl_ld _ hb).1
theorem okEnd_head {r : Bs} : okEnd r = true ↔ ∀ c, r.head? = some c → isLD c = false := by
  cases r with
  | nil => simp [okEnd]
  | cons c r => simp [okEnd]
theorem run_same {x r : Bs} (hf : Follows (x.drop (run isLD x)) r) : run isLD (x.take (run isLD x) ++ r) = run isLD x := by
  rw [run_app isLD _ _ (all_run _ _) (hf.ld (run_drop isLD x)), len_take_run]
theorem take_same {x r : Bs} {z : Nat} (hz : z ≤ x.length) : (x.take z ++ r).take z = x.take z := by
  rw [List.take_append_of_le_length (by rw [List.length_take]; omega), List.take_take, Nat.min_self]
theorem numB_app {x r : Bs} {v z : Nat} (h : numB x = some (v, z)) (h1 : 1 ≤ z) (hf : Follows (x.drop z) r) : numB (x.take z ++ r) = some (v, z) := by
  unfold numB at h
  split at h
  · split at h
    · rename_i a c t r1 hh
      split at h
      · rename_i hc
        cases h
        obtain ⟨hc1, hc2, hc3⟩ := hc
        subst hc1
        simp only [List.head?_cons, Option.some.injEq] at hh
        subst hh
        have : okEnd r = true := okEnd_head.2 (hf.ld (okEnd_head.1 (by simpa using hc3)))
        simp [numB, hc2, this]
      · cases h
    · cases h
  · rename_i hh
    simp only [Option.map_eq_some_iff] at h
    obtain ⟨v', h2, he⟩ := h
    obtain ⟨rfl, rfl⟩ := Prod.mk.inj he
    have hr := run_same hf
    have ht : (x.take (run isLD x) ++ r).take (run isLD x) = x.take (run isLD x) := take_same (run_le _ _)
    unfold numB
    rw [hr, ht, h2]
    have hhead : (x.take (run isLD x) ++ r).head? = x.head? := by
      cases x with
      | nil => simp [run] at h1
      | cons c x1 =>
        obtain ⟨n, hn⟩ : ∃ n, run isLD (c :: x1) = n + 1 := ⟨run isLD (c :: x1) - 1, by omega⟩
        rw [hn]; rfl
    rw [hhead, if_neg hh]; rfl
theorem one_app {x r : Bs} {k : Int} {t : Bs} {n z : Nat} (h : one x = some (k, t, n, z)) (hf : Follows (x.drop z) r) : one (x.take z ++ r) = some (k, t, n, z) := by
  have hz := one_le h
  cases x with
  | nil => cases h
  | cons c x1 =>
    have hh : ∃ y, (c :: x1).take z ++ r = c :: y := by
      obtain ⟨m, rfl⟩ : ∃ m, z = m + 1 := ⟨z - 1, by omega⟩
      exact ⟨_, rfl⟩
    obtain ⟨y, hy⟩ := hh
    unfold one at h
    simp only at h
    unfold one
    split at h
    · rename_i hl
      cases h
      rw [run_same hf, take_same (run_le _ _), hy]
      simp only [hl, if_true]
    · rename_i hl
      split at h
      · rename_i hd
        simp only [Option.map_eq_some_iff] at h
        obtain ⟨⟨v, m⟩, h2, he⟩ := h
        simp only [Prod.mk.injEq] at he
        obtain ⟨rfl, rfl, rfl, rfl⟩ := he
        have h3 := numB_app h2 hz.1 hf
        rw [h3, hy]
        simp only [hl, hd, if_true, Option.map_some]
        rfl
      · rename_i hd
        split at h
        · rename_i hq
          simp only [Option.map_eq_some_iff] at h
          obtain ⟨⟨b, m⟩, h2, he⟩ := h
          simp only [Prod.mk.injEq] at he
          obtain ⟨rfl, rfl, rfl, rfl⟩ := he
          have h3 := quotesB_app h2 r
          rw [h3, hy]
          simp only [hl, hd, hq, if_true, Option.map_some]
          rfl
        · rename_i hq
          split at h
          · cases h
          · rename_i hs
            cases h
            have key : signN ((c :: x1).take (signN (c :: x1)) ++ r) = signN (c :: x1) := by
              by_cases g1 : ((c == 60 && x1.head? == some 60) || (c == 62 && x1.head? == some 62)) = true
              · have e : signN (c :: x1) = 2 := by rw [signN, if_pos g1]
                rw [e]
                cases x1 with
                | nil => simp at g1
                | cons d x2 =>
                  have g2 : ((c == 60 && (d :: r).head? == some 60) || (c == 62 && (d :: r).head? == some 62)) = true := by simpa using g1
                  show signN (c :: d :: r) = 2
                  rw [signN, if_pos g2]
              · by_cases g2 : signL.contains c = true
                · have e : signN (c :: x1) = 1 := by rw [signN, if_neg g1, if_pos g2]
                  rw [e]
                  show signN (c :: r) = 1
                  have c60 : c ≠ 60 := by intro e; rw [e] at g2; revert g2; decide
                  have c62 : c ≠ 62 := by intro e; rw [e] at g2; revert g2; decide
                  rw [signN, if_neg (by simp [c60, c62]), if_pos g2]
                · exact absurd (by rw [signN, if_neg g1, if_neg g2]) hs
            rw [key, take_same (signN_le _).1, hy]
            simp only [hl, hd, hq, hs, if_false]
            rfl
theorem remark_app {x r : Bs} {k : Int} {t : Bs} {n z : Nat} (h : one x = some (k, t, n, z)) (hf : Follows (x.drop z) r) (h2 : x.take 2 ≠ [47, 47]) : (x.take z ++ r).take 2 ≠ [47, 47] := by
  have hz := one_le h
  match x, hz with
  | [], hz => exact absurd h (by simp [one])
  | c :: x1, hz =>
    by_cases hc : c = 47
    · subst hc
      have e : signN (47 :: x1) = 1 := by
        rw [signN, if_neg (by simp), if_pos (by decide)]
      have hz1 : z = 1 := by
        unfold one at h
        simp only [show isL 47 = false by decide, show isD 47 = false by decide, e] at h
        simp at h
        omega
      subst hz1
      show (47 :: r).take 2 ≠ [47, 47]
      intro hr
      have hrh : r.head? = some 47 := by
        cases r with
        | nil => cases hr
        | cons d r2 => simp at hr; rw [hr]; rfl
      rcases hf with h3 | ⟨d, hd, hb⟩
      · rw [List.drop_succ_cons, List.drop_zero] at h3
        rw [hrh] at h3
        apply h2
        cases x1 with
        | nil => cases h3
        | cons d x2 => simp only [List.head?_cons, Option.some.injEq] at h3; rw [← h3]; rfl
      · rw [hrh] at hd; cases hd; exact absurd hb (by decide)
    · intro hr
      obtain ⟨m, rfl⟩ : ∃ m, z = m + 1 := ⟨z - 1, by omega⟩
      rw [List.take_succ_cons, List.cons_append, List.take_succ_cons] at hr
      exact hc (List.cons.inj hr).1
theorem skip_pre {G y : Bs} (hG : G.all isBl = true) (hy : ∀ c, y.head? = some c → isBl c = false) (h2 : y.take 2 ≠ [47, 47]) : skipB (G ++ y) = G.length ∧ (G ++ y).drop G.length = y := by
  have e : (G ++ y).drop G.length = y := by simp
  refine ⟨?_, e⟩
  unfold skipB
  rw [run_app isBl G y hG hy, e, if_neg h2]
theorem skip_some {s : Bs} (h : s.drop (skipB s) ≠ []) : skipB s = run isBl s ∧ (s.drop (skipB s)).take 2 ≠ [47, 47] := by
  unfold skipB at h ⊢
  by_cases g : (s.drop (run isBl s)).take 2 = [47, 47]
  · rw [if_pos g, List.drop_length] at h
    exact absurd rfl h
  · rw [if_neg g] at h ⊢
    exact ⟨rfl, g⟩
theorem skip_rest {s behind : Bs} (h : s.drop (skipB s) = []) : (s ++ 32 :: 47 :: 47 :: behind).drop (skipB (s ++ 32 :: 47 :: 47 :: behind)) = [] := by
  have hs : s = s.take (run isBl s) ++ s.drop (run isBl s) := (List.take_append_drop _ _).symm
  by_cases g : (s.drop (run isBl s)).take 2 = [47, 47]
  · match hd : s.drop (run isBl s), g with
    | [], g => cases g
    | [_], g => cases g
    | c :: d :: r, g =>
      obtain ⟨rfl, g2⟩ := List.cons.inj g
      obtain ⟨rfl, _⟩ := List.cons.inj g2
      have e1 : s ++ 32 :: 47 :: 47 :: behind = s.take (run isBl s) ++ (47 :: 47 :: (r ++ 32 :: 47 :: 47 :: behind)) := by
        conv => lhs; rw [hs, hd]
        simp
      have e2 := run_app isBl (s.take (run isBl s)) (47 :: 47 :: (r ++ 32 :: 47 :: 47 :: behind)) (all_run _ _) (fun c hc => by cases hc; rfl)
      rw [e1]
      unfold skipB
      rw [e2, if_pos (by simp)]
      simp
  · have hl : run isBl s = s.length := by
      unfold skipB at h
      rw [if_neg g] at h
      have := List.drop_eq_nil_iff.1 h
      have := run_le isBl s
      omega
    have ha : s.all isBl = true := by
      have := all_run isBl s
      rwa [hl, List.take_length] at this
    have e1 : s ++ 32 :: 47 :: 47 :: behind = (s ++ [32]) ++ (47 :: 47 :: behind) := by simp
    have e2 := run_app isBl (s ++ [32]) (47 :: 47 :: behind) (by simp [ha, isBl]) (fun c hc => by cases hc; rfl)
    rw [e1]
    unfold skipB
    rw [e2, if_pos (by simp)]
    simp
theorem errO_nz (s : Bs) : errO s ≠ 0 := by
  unfold errO
  split
  · decide
  · split
    · decide
    · split <;> decide
theorem all_of_head {G y : Bs} {c : UInt8} (hc : c ∈ G) (h : G.all isBl = true) : isBl c = true := List.all_eq_true.1 h c hc

theorem lexF_zero_cases {f at_ : Nat} {s : Bs} {T : List Tok} {a : Nat} (h : lexF (f + 1) at_ s = (T, a, 0)) :
    (s.drop (skipB s) = [] ∧ T = []) ∨ ∃ k t n z T', s.drop (skipB s) ≠ [] ∧ one (s.drop (skipB s)) = some (k, t, n, z) ∧ T = ⟨k, t, n, ((at_ + skipB s : Nat) : Int)⟩ :: T' ∧ lexF f (at_ + skipB s + z) ((s.drop (skipB s)).drop z) = (T', a, 0) := by
  rw [lexF] at h
  by_cases h0 : s.drop (skipB s) = []
  · rw [if_pos h0] at h; exact .inl ⟨h0, (Prod.mk.inj h).1.symm⟩
  · rw [if_neg h0] at h
    cases ho : one (s.drop (skipB s)) with
    | none =>
      rw [ho] at h
      simp only [Prod.mk.injEq] at h
      exact absurd h.2.2 (errO_nz _)
    | some q =>
      obtain ⟨k, t, n, z⟩ := q
      rw [ho] at h
      simp only [Prod.mk.injEq] at h
      obtain ⟨h1, h2⟩ := h
      exact .inr ⟨k, t, n, z, _, h0, rfl, h1.symm, by rw [← h2]⟩

theorem join_lex (line behind : Bs) (B : Nat → Bs) (hB : ∀ i, (B i).all isBl = true) : ∀ (f at_ : Nat) (T : List Tok) (a : Nat), at_ ≤ line.length → (line.drop at_).length < f → lexF f at_ (line.drop at_) = (T, a, 0) → T ≠ [] →
    ∀ (G : Bs) (i at' : Nat), G.all isBl = true → (lexS at' (G ++ joinB line (32 :: 47 :: 47 :: behind) B i T)).1.map plainT = T.map plainT ∧ (lexS at' (G ++ joinB line (32 :: 47 :: 47 :: behind) B i T)).2.2 = 0
  | 0, at_, T, a, _, hf, _, _ => by omega
  | f + 1, at_, T, a, hat, hf, h, hT => by
    intro G i at' hG
    rcases lexF_zero_cases h with ⟨_, h2⟩ | ⟨k, t, n, z, T', h0, ho, rfl, hrest⟩
    · exact absurd h2 hT
    obtain ⟨x, hx⟩ : ∃ x, (line.drop at_).drop (skipB (line.drop at_)) = x := ⟨_, rfl⟩
    have hsk := skip_some h0
    have hskl := skip_le (line.drop at_)
    rw [hx] at h0 ho hrest hsk
    obtain ⟨p, hp⟩ : ∃ p, at_ + skipB (line.drop at_) = p := ⟨_, rfl⟩
    rw [hp] at hrest ⊢
    have hxp : line.drop p = x := by rw [← hx, List.drop_drop, hp]
    have hz := one_le ho
    have hxl : x.length = line.length - p := by rw [← hxp, List.length_drop]
    have hs2 : x.drop z = line.drop (p + z) := by rw [← hxp, List.drop_drop]
    rw [List.length_drop] at hf hskl
    have hGB : (G ++ B i).all isBl = true := by rw [List.all_append, hG, hB]; rfl
    -- the new text from the token on: its bytes and r'
    have step : ∀ r', Follows (x.drop z) r' → (∀ at2, (lexS at2 r').1.map plainT = T'.map plainT ∧ (lexS at2 r').2.2 = 0) →
        (lexS at' ((G ++ B i) ++ (x.take z ++ r'))).1.map plainT = (⟨k, t, n, (p : Int)⟩ :: T' : List Tok).map plainT ∧ (lexS at' ((G ++ B i) ++ (x.take z ++ r'))).2.2 = 0 := by
      intro r' hfol hr
      have ho' := one_app ho hfol
      have hrem := remark_app ho hfol hsk.2
      have hnb : ∀ c, (x.take z ++ r').head? = some c → isBl c = false := by
        intro c hc
        match hy : x.take z ++ r', hc with
        | c' :: y, hc =>
          cases hc
          rw [hy] at ho'
          exact one_nobl ho'
      have hsp := skip_pre hGB hnb hrem
      have hne : ((G ++ B i) ++ (x.take z ++ r')).drop (skipB ((G ++ B i) ++ (x.take z ++ r'))) ≠ [] := by
        rw [hsp.1, hsp.2]
        intro e
        have := congrArg List.length e
        rw [List.length_append, List.length_take, List.length_nil] at this
        omega
      have hst := lexS_step (at_ := at') hne (by rw [hsp.1, hsp.2]; exact ho')
      rw [hst]
      have hd : (((G ++ B i) ++ (x.take z ++ r')).drop (skipB ((G ++ B i) ++ (x.take z ++ r')))).drop z = r' := by
        rw [hsp.1, hsp.2, List.drop_append_of_le_length (by rw [List.length_take]; omega), List.drop_of_length_le (by rw [List.length_take]; omega), List.nil_append]
      rw [hd]
      have := hr (at' + skipB ((G ++ B i) ++ (x.take z ++ r')) + z)
      exact ⟨by rw [List.map_cons, List.map_cons, this.1]; rfl, this.2⟩
    cases T' with
    | nil =>
      have e : G ++ joinB line (32 :: 47 :: 47 :: behind) B i [⟨k, t, n, (p : Int)⟩] = (G ++ B i) ++ (x.take z ++ (x.drop z ++ 32 :: 47 :: 47 :: behind)) := by
        simp only [joinB, pieceEnd, List.take_length, Int.toNat_natCast, hxp, List.append_assoc]
        rw [← List.append_assoc (x.take z), List.take_append_drop]
      rw [e]
      have hend : (x.drop z).drop (skipB (x.drop z)) = [] := by
        cases f with
        | zero => omega
        | succ f =>
          rcases lexF_zero_cases hrest with ⟨h1, _⟩ | ⟨k2, t2, n2, z2, T2, _, _, h3, _⟩
          · exact h1
          · cases h3
      refine step _ ?_ ?_
      · by_cases hnil : x.drop z = []
        · rw [hnil]; exact .inr ⟨32, rfl, rfl⟩
        · left
          cases hx2 : x.drop z with
          | nil => exact absurd hx2 hnil
          | cons c y => rfl
      · intro at2
        rw [lexS_end (skip_rest hend)]
        exact ⟨rfl, rfl⟩
    | cons u T2 =>
      cases f with
      | zero => omega
      | succ f =>
        have hrest0 := hrest
        rcases lexF_zero_cases hrest with ⟨_, h3⟩ | ⟨k2, t2, n2, z2, T3, g0, go, g3, g4⟩
        · cases h3
        have hsk2 := skip_some g0
        have hsl2 := skip_le (x.drop z)
        obtain ⟨g, hg⟩ : ∃ g, skipB (x.drop z) = g := ⟨_, rfl⟩
        rw [hg] at g0 go g3 g4 hsk2 hsl2
        obtain ⟨hu, rfl⟩ := List.cons.inj g3
        have hup : u.p.toNat = p + z + g := by rw [hu]; simp only [Int.toNat_natCast]
        have hlz : (x.drop z).length = x.length - z := List.length_drop
        have hgl : g ≤ x.length - z := by omega
        have hbl : ((x.drop z).take g).all isBl = true := by rw [hsk2.1]; exact all_run _ _
        have e : G ++ joinB line (32 :: 47 :: 47 :: behind) B i (⟨k, t, n, (p : Int)⟩ :: u :: T2) = (G ++ B i) ++ (x.take z ++ ((x.drop z).take g ++ joinB line (32 :: 47 :: 47 :: behind) B (i + 1) (u :: T2))) := by
          have e1 : (line.take (p + z + g)).drop p = x.take z ++ (x.drop z).take g := by
            rw [List.drop_take, hxp, show p + z + g - p = z + g by omega, List.take_add]
          rw [joinB]
          simp only [pieceEnd, Int.toNat_natCast, hup, e1, List.append_assoc]
        rw [e]
        have hlen2 : (line.drop (p + z)).length < f + 1 := by rw [List.length_drop]; omega
        have ih := join_lex line behind B hB (f + 1) (p + z) (u :: T2) a (by omega) hlen2 (by rw [← hs2]; exact hrest0) (by simp) ((x.drop z).take g) (i + 1)
        refine step _ ?_ (fun at2 => ih at2 hbl)
        -- what follows
        by_cases hg0 : g = 0
        · subst hg0
          rw [List.take_zero, List.nil_append, joinB]
          cases hBi : B (i + 1) with
          | cons c y =>
            refine .inr ⟨c, rfl, ?_⟩
            have := hB (i + 1)
            rw [hBi, List.all_cons, Bool.and_eq_true] at this
            exact this.1
          | nil =>
            left
            rw [List.nil_append, hup]
            -- the next piece is not empty
            have hz2 := one_le go
            rw [List.drop_zero, hlz] at hz2
            have hend : p + z + 0 < pieceEnd line T2 ∧ pieceEnd line T2 ≤ line.length ∨ pieceEnd line T2 = line.length := by
              cases T2 with
              | nil => right; rfl
              | cons v T4 =>
                left
                cases f with
                | zero => omega
                | succ f =>
                rcases lexF_zero_cases g4 with ⟨_, h3⟩ | ⟨k5, t5, n5, z5, T5, q0, qo, q3, q4⟩
                · cases h3
                obtain ⟨hv, _⟩ := List.cons.inj q3
                have hq := skip_le (((x.drop z).drop 0).drop z2)
                have hq2 := List.length_drop (i := z2) (l := (x.drop z).drop 0)
                rw [List.drop_zero, hlz] at hq2
                rw [List.drop_zero] at hq
                simp only [pieceEnd, hv, Int.toNat_natCast]
                rw [List.drop_zero]
                exact ⟨by omega, by omega⟩
            have hlt : p + z + 0 < pieceEnd line T2 := by
              rcases hend with h | h
              · exact h.1
              · omega
            have e2 : line.drop (p + z + 0) = x.drop z := by rw [Nat.add_zero, hs2]
            rw [List.drop_take, e2]
            obtain ⟨m, hm⟩ : ∃ m, pieceEnd line T2 - (p + z + 0) = m + 1 := ⟨pieceEnd line T2 - (p + z + 0) - 1, by omega⟩
            rw [hm]
            cases hxd : x.drop z with
            | nil => exact absurd hxd (by simpa using g0)
            | cons c y => rfl
        · left
          obtain ⟨m, rfl⟩ : ∃ m, g = m + 1 := ⟨g - 1, by omega⟩
          cases hxd : x.drop z with
          | nil => exact absurd (by rw [hxd]; rfl) g0
          | cons c y => rfl
end Go.Proofs.YtjmdcimfmmfinaaDoor
