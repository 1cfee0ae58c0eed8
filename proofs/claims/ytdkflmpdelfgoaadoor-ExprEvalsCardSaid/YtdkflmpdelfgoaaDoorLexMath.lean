/-
  The lexer's words as plain functions on lists of bytes: names, signs, numbers, quotes, the pieces of a line. No program in this text; no conditions.
-/
import Derived.Lib.ItoaNum
namespace Go.Proofs.YtdkflmpdelfgoaaDoor

abbrev Bs := List UInt8

def isL (c : UInt8) : Bool := (97 ≤ c && c ≤ 122) || (65 ≤ c && c ≤ 90) || c == 95 || c == 46 || c == 36
def isD (c : UInt8) : Bool := 48 ≤ c && c ≤ 57
def isBl (c : UInt8) : Bool := c == 32 || c == 9
def isLD (c : UInt8) : Bool := isL c || isD c
/-- the kind of a byte, as a bit -/
def classN (c : UInt8) : Nat := if isL c then 2 else if isD c then 4 else if isBl c then 1 else if c == 39 then 8 else if c == 34 then 16 else 32
def hasB (m : Nat) (c : UInt8) : Bool := m &&& classN c != 0
/-- how many bytes, from the first on, are of a kind -/
def run (p : UInt8 → Bool) : Bs → Nat
  | [] => 0
  | c :: r => if p c then run p r + 1 else 0

/-- a byte that may stand, as it is, between two of another one -/
def stands (c around : UInt8) : Bool := 32 ≤ c && c ≤ 126 && c != 92 && c != around

def nameB : Bs → Bool
  | [] => false
  | c :: r => isL c && r.all isLD

def signL : Bs := [44, 91, 93, 33, 35, 58, 43, 45, 42, 47, 37, 38, 124, 94, 126, 40, 41, 61]
def isSignB (s : Bs) : Bool := s == [60, 60] || s == [62, 62] || (match s with
  | [c] => signL.contains c
  | _ => false)
/-- how many bytes the sign has with which a text begins -/
def signN : Bs → Nat
  | [] => 0
  | c :: r => if (c == 60 && r.head? == some 60) || (c == 62 && r.head? == some 62) then 2 else if signL.contains c then 1 else 0

/-! ### quotes -/
def shortB : Bs := [0, 9, 10, 13, 34, 92]
def shortL : Bs := [48, 116, 110, 114, 34, 92]
/-- the letter of a byte's short form -/
def letterOf (c : UInt8) : Option UInt8 := if c = 0 then some 48 else if c = 9 then some 116 else if c = 10 then some 110 else if c = 13 then some 114 else if c = 34 then some 34 else if c = 92 then some 92 else none
/-- the byte of a short form -/
def byteOf (c : UInt8) : Option UInt8 := if c = 48 then some 0 else if c = 116 then some 9 else if c = 110 then some 10 else if c = 114 then some 13 else if c = 34 then some 34 else if c = 92 then some 92 else none
def hexD (n : Nat) : UInt8 := if n < 10 then UInt8.ofNat (48 + n) else UInt8.ofNat (87 + n)
def quoted1 (c : UInt8) : Bs := match letterOf c with
  | some l => [92, l]
  | none => if stands c 34 then [c] else [92, 120, hexD (c.toNat / 16), hexD (c.toNat % 16)]
def quoteB (s : Bs) : Bs := 34 :: s.flatMap quoted1 ++ [34]

/-- a digit's value -/
def hexV (c : UInt8) : Option Nat := if 48 ≤ c.toNat ∧ c.toNat ≤ 57 then some (c.toNat - 48) else if 97 ≤ c.toNat ∧ c.toNat ≤ 102 then some (c.toNat - 87) else if 65 ≤ c.toNat ∧ c.toNat ≤ 70 then some (c.toNat - 55) else none
/-- the byte of the form with which a text within quotes begins, how many bytes the form has -/
def within1 : Bs → Option (UInt8 × Nat)
  | [] => none
  | c :: r => if c = 92 then (match r with
      | [] => none
      | d :: r2 => match byteOf d with
        | some b => some (b, 2)
        | none => if d = 120 then (match r2 with
            | h1 :: h2 :: _ => match hexV h1, hexV h2 with
              | some a, some b => some (UInt8.ofNat (16 * a + b), 4)
              | _, _ => none
            | _ => none) else none)
    else if stands c 34 then some (c, 1) else none
theorem within1_pos {s : Bs} {b : UInt8} {n : Nat} (h : within1 s = some (b, n)) : 1 ≤ n ∧ n ≤ s.length := by
  unfold within1 at h
  split at h
  · cases h
  · split at h
    · split at h
      · cases h
      · split at h
        · cases h; simp
        · split at h
          · split at h
            · split at h
              · cases h; simp
              · cases h
            · cases h
          · cases h
    · split at h
      · cases h; simp
      · cases h
/-- the bytes up to the quote that ends them, and how many bytes these forms have with that quote; by fuel -/
def unqF : Nat → Bs → Option (Bs × Nat)
  | 0, _ => none
  | f + 1, s => match s with
    | [] => none
    | c :: _ => if c = 34 then some ([], 1) else match within1 s with
      | none => none
      | some (b, n) => (unqF f (s.drop n)).map fun x => (b :: x.1, n + x.2)
theorem unqF_two : ∀ (f g : Nat) (s : Bs), s.length < f → s.length < g → unqF f s = unqF g s
  | 0, _, _, h, _ => by omega
  | _ + 1, 0, _, _, h => by omega
  | f + 1, g + 1, s, h, h' => by
    cases s with
    | nil => rfl
    | cons c r =>
      rw [unqF, unqF]
      by_cases hc : c = 34
      · simp [hc]
      · simp only [hc, if_false]
        cases hw : within1 (c :: r) with
        | none => rfl
        | some x =>
          obtain ⟨b, n⟩ := x
          have hp := within1_pos hw
          have hl : ((c :: r).drop n).length < (c :: r).length := by rw [List.length_drop]; omega
          simp only
          rw [unqF_two f g _ (by omega) (by omega)]
theorem unqF_fuel (f : Nat) (s : Bs) (h : s.length < f) : unqF f s = unqF (s.length + 1) s := unqF_two _ _ _ h (Nat.lt_succ_self _)
def unq (s : Bs) : Option (Bs × Nat) := unqF (s.length + 1) s
theorem unq_nil : unq [] = none := rfl
theorem unq_end (r : Bs) : unq (34 :: r) = some ([], 1) := by simp [unq, unqF]
theorem unq_none {c : UInt8} {r : Bs} (hc : c ≠ 34) (h : within1 (c :: r) = none) : unq (c :: r) = none := by
  unfold unq; rw [unqF]; simp [hc, h]
theorem unq_step {c : UInt8} {r : Bs} {b : UInt8} {n : Nat} (hc : c ≠ 34) (h : within1 (c :: r) = some (b, n)) : unq (c :: r) = (unq ((c :: r).drop n)).map fun x => (b :: x.1, n + x.2) := by
  have hp := within1_pos h
  have hl : ((c :: r).drop n).length < (c :: r).length := by rw [List.length_drop]; omega
  unfold unq
  rw [unqF]
  simp only [hc, if_false, h]
  rw [unqF_fuel _ _ hl]
/-- the bytes of the quotes with which a text begins, and how long these are -/
def quotesB : Bs → Option (Bs × Nat)
  | [] => none
  | c :: r => if c = 34 then (unq r).map fun x => (x.1, x.2 + 1) else none
def unquoteB (s : Bs) : Option Bs := match quotesB s with
  | some (b, n) => if n = s.length then some b else none
  | none => none

/-! ### numbers -/
/-- what digits of a base spell -/
def valF (base : Nat) : Nat → Bs → Option Nat
  | a, [] => some a
  | a, c :: r => match hexV c with
    | some d => if d < base then valF base (a * base + d) r else none
    | none => none
def digitsV (base : Nat) (s : Bs) : Option Nat := if s = [] then none else match valF base 0 s with
  | some v => if v < 18446744073709551616 then some v else none
  | none => none
/-- what letters and digits spell that begin with a digit -/
def parseD (d : Bs) : Option Nat :=
  if d.take 2 = [48, 120] then digitsV 16 (d.drop 2) else if d.take 2 = [48, 98] then digitsV 2 (d.drop 2) else if 1 < d.length ∧ d.head? = some 48 then none else digitsV 10 d
/-- whether no letter and no digit stands ahead -/
def okEnd : Bs → Bool
  | [] => true
  | x :: _ => !isLD x
/-- the number with which a text begins, how many bytes it has -/
def numB (s : Bs) : Option (Nat × Nat) :=
  if s.head? = some 39 then
    (match s with
    | _ :: c :: t :: r => if t = 39 ∧ stands c 39 = true ∧ okEnd r = true then some (c.toNat, 3) else none
    | _ => none)
  else (parseD (s.take (run isLD s))).map fun v => (v, run isLD s)

/-! ### pieces -/
structure Tok where
  k : Int
  t : Bs
  n : Nat
  p : Int
/-- the piece with which a text begins: its kind, its text, its number, how many bytes it has -/
def one (s : Bs) : Option (Int × Bs × Nat × Nat) := match s with
  | [] => none
  | c :: _ =>
    if isL c then some (1, s.take (run isLD s), 0, run isLD s)
    else if isD c || c == 39 then (numB s).map fun x => (2, [], x.1, x.2)
    else if c == 34 then (quotesB s).map fun x => (3, x.1, 0, x.2)
    else if signN s = 0 then none else some (4, s.take (signN s), 0, signN s)
/-- what is wrong with what a text begins with -/
def errO (s : Bs) : Int := match s with
  | [] => 80
  | c :: _ => if isD c || c == 39 then 81 else if c == 34 then 82 else 80
/-- how many bytes stand ahead of the next piece -/
def skipB (s : Bs) : Nat := if (s.drop (run isBl s)).take 2 = [47, 47] then s.length else run isBl s
/-- the tokens of a text ahead of the first piece that is wrong, where that is (or the end), what is wrong; by fuel -/
def lexF : Nat → Nat → Bs → List Tok × Nat × Int
  | 0, at_, _ => ([], at_, 0)
  | f + 1, at_, s =>
    if s.drop (skipB s) = [] then ([], at_ + s.length, 0) else match one (s.drop (skipB s)) with
    | none => ([], at_ + skipB s, errO (s.drop (skipB s)))
    | some (k, t, n, z) => (⟨k, t, n, ((at_ + skipB s : Nat) : Int)⟩ :: (lexF f (at_ + skipB s + z) ((s.drop (skipB s)).drop z)).1, (lexF f (at_ + skipB s + z) ((s.drop (skipB s)).drop z)).2)
structure Pc where
  k : Int
  t : Bs
  n : Nat
  p : Int
  z : Nat
  e : Int
/-- the pieces of a text, up to the first one that is wrong; by fuel -/
def piecesF : Nat → Nat → Bs → List Pc
  | 0, _, _ => []
  | f + 1, at_, s =>
    if s.drop (skipB s) = [] then [] else match one (s.drop (skipB s)) with
    | none => [⟨0, [], 0, ((at_ + skipB s : Nat) : Int), 0, errO (s.drop (skipB s))⟩]
    | some (k, t, n, z) => ⟨k, t, n, ((at_ + skipB s : Nat) : Int), z, 0⟩ :: piecesF f (at_ + skipB s + z) ((s.drop (skipB s)).drop z)
def tokOf (x : Pc) : Tok := ⟨x.k, x.t, x.n, x.p⟩

theorem run_le (p : UInt8 → Bool) : ∀ s : Bs, run p s ≤ s.length
  | [] => Nat.le_refl _
  | c :: r => by
    rw [run]
    have := run_le p r
    split <;> simp <;> omega
theorem run_head (p : UInt8 → Bool) {c : UInt8} {r : Bs} (h : p c = true) : run p (c :: r) = run p r + 1 := by simp [run, h]
theorem run_no (p : UInt8 → Bool) {c : UInt8} {r : Bs} (h : p c = false) : run p (c :: r) = 0 := by simp [run, h]
theorem unq_le : ∀ (f : Nat) (s : Bs) (b : Bs) (n : Nat), unqF f s = some (b, n) → 1 ≤ n ∧ n ≤ s.length ∧ b.length + 1 ≤ n
  | 0, s, b, n, h => by cases h
  | f + 1, s, b, n, h => by
    cases s with
    | nil => cases h
    | cons c r =>
      rw [unqF] at h
      by_cases hc : c = 34
      · simp [hc] at h; obtain ⟨rfl, rfl⟩ := h; simp
      · simp only [hc, if_false] at h
        cases hw : within1 (c :: r) with
        | none => rw [hw] at h; cases h
        | some x =>
          obtain ⟨b', n'⟩ := x
          have hp := within1_pos hw
          rw [hw] at h
          simp only [Option.map_eq_some_iff] at h
          obtain ⟨⟨b2, n2⟩, h2, he⟩ := h
          have ih := unq_le f _ _ _ h2
          rw [List.length_drop] at ih
          obtain ⟨rfl, rfl⟩ := Prod.mk.inj he
          simp only [List.length_cons] at *
          omega
theorem quotesB_le {s b : Bs} {n : Nat} (h : quotesB s = some (b, n)) : 2 ≤ n ∧ n ≤ s.length ∧ b.length + 2 ≤ n := by
  unfold quotesB at h
  split at h
  · cases h
  · split at h
    · simp only [Option.map_eq_some_iff] at h
      obtain ⟨⟨b2, n2⟩, h2, he⟩ := h
      have := unq_le _ _ _ _ h2
      obtain ⟨rfl, rfl⟩ := Prod.mk.inj he
      simp only [List.length_cons] at *
      omega
    · cases h
theorem signN_le : ∀ s : Bs, signN s ≤ s.length ∧ signN s ≤ 2
  | [] => ⟨Nat.le_refl _, by decide⟩
  | c :: r => by
    rw [signN]
    split
    · rename_i h
      cases r with
      | nil => simp at h
      | cons d r => simp
    · split <;> simp
theorem numB_le {s : Bs} {v n : Nat} (h : numB s = some (v, n)) (hs : s.head? ≠ some 39 → 1 ≤ run isLD s) : 1 ≤ n ∧ n ≤ s.length := by
  unfold numB at h
  split at h
  · split at h
    · split at h
      · cases h; simp
      · cases h
    · cases h
  · rename_i hh
    simp only [Option.map_eq_some_iff] at h
    obtain ⟨v', _, he⟩ := h
    obtain ⟨rfl, rfl⟩ := Prod.mk.inj he
    exact ⟨hs hh, run_le _ _⟩
theorem one_le {s : Bs} {k : Int} {t : Bs} {n z : Nat} (h : one s = some (k, t, n, z)) : 1 ≤ z ∧ z ≤ s.length := by
  unfold one at h
  split at h
  · cases h
  · rename_i c r
    split at h
    · rename_i hl
      cases h
      exact ⟨by rw [run_head _ (by simp [isLD, hl])]; omega, run_le _ _⟩
    · split at h
      · rename_i hd
        simp only [Option.map_eq_some_iff] at h
        obtain ⟨⟨v, m⟩, h2, he⟩ := h
        have := numB_le h2 (fun hne => by
          have : isD c = true := by
            simp only [List.head?_cons, ne_eq, Option.some.injEq] at hne
            simpa [hne] using hd
          rw [run_head _ (by simp [isLD, this])]; omega)
        simp only [Prod.mk.injEq] at he
        omega
      · split at h
        · simp only [Option.map_eq_some_iff] at h
          obtain ⟨⟨b, m⟩, h2, he⟩ := h
          have := quotesB_le h2
          simp only [Prod.mk.injEq] at he
          omega
        · split at h
          · cases h
          · have := signN_le (c :: r)
            cases h
            omega
theorem skip_le (s : Bs) : skipB s ≤ s.length := by
  unfold skipB
  split
  · exact Nat.le_refl _
  · exact run_le _ _
theorem lexF_two : ∀ (f g at_ : Nat) (s : Bs), s.length < f → s.length < g → lexF f at_ s = lexF g at_ s
  | 0, _, _, _, h, _ => by omega
  | _ + 1, 0, _, _, _, h => by omega
  | f + 1, g + 1, at_, s, h, h' => by
    rw [lexF, lexF]
    split
    · rfl
    · rename_i hne
      split
      · rfl
      · rename_i k t n z ho
        have hz := one_le ho
        have hl : ((s.drop (skipB s)).drop z).length < s.length := by
          have := skip_le s
          rw [List.length_drop] at hz ⊢; rw [List.length_drop]; omega
        rw [lexF_two f g _ _ (by omega) (by omega)]
theorem lexF_fuel (f at_ : Nat) (s : Bs) (h : s.length < f) : lexF f at_ s = lexF (s.length + 1) at_ s := lexF_two _ _ _ _ h (Nat.lt_succ_self _)
theorem piecesF_two : ∀ (f g at_ : Nat) (s : Bs), s.length < f → s.length < g → piecesF f at_ s = piecesF g at_ s
  | 0, _, _, _, h, _ => by omega
  | _ + 1, 0, _, _, _, h => by omega
  | f + 1, g + 1, at_, s, h, h' => by
    rw [piecesF, piecesF]
    split
    · rfl
    · rename_i hne
      split
      · rfl
      · rename_i k t n z ho
        have hz := one_le ho
        have hl : ((s.drop (skipB s)).drop z).length < s.length := by
          have := skip_le s
          rw [List.length_drop] at hz ⊢; rw [List.length_drop]; omega
        rw [piecesF_two f g _ _ (by omega) (by omega)]
theorem piecesF_fuel (f at_ : Nat) (s : Bs) (h : s.length < f) : piecesF f at_ s = piecesF (s.length + 1) at_ s := piecesF_two _ _ _ _ h (Nat.lt_succ_self _)
def lexS (at_ : Nat) (s : Bs) : List Tok × Nat × Int := lexF (s.length + 1) at_ s
def piecesS (at_ : Nat) (s : Bs) : List Pc := piecesF (s.length + 1) at_ s
theorem lexS_end {at_ : Nat} {s : Bs} (h : s.drop (skipB s) = []) : lexS at_ s = ([], at_ + s.length, 0) := by
  unfold lexS; rw [lexF, if_pos h]
theorem lexS_bad {at_ : Nat} {s : Bs} (h : s.drop (skipB s) ≠ []) (ho : one (s.drop (skipB s)) = none) : lexS at_ s = ([], at_ + skipB s, errO (s.drop (skipB s))) := by
  unfold lexS; rw [lexF, if_neg h, ho]
theorem lexS_step {at_ : Nat} {s : Bs} {k : Int} {t : Bs} {n z : Nat} (h : s.drop (skipB s) ≠ []) (ho : one (s.drop (skipB s)) = some (k, t, n, z)) :
    lexS at_ s = (⟨k, t, n, ((at_ + skipB s : Nat) : Int)⟩ :: (lexS (at_ + skipB s + z) ((s.drop (skipB s)).drop z)).1, (lexS (at_ + skipB s + z) ((s.drop (skipB s)).drop z)).2) := by
  have hz := one_le ho
  have hl : ((s.drop (skipB s)).drop z).length < s.length := by
    have := skip_le s
    rw [List.length_drop] at hz ⊢; rw [List.length_drop]; omega
  unfold lexS
  rw [lexF, if_neg h, ho]
  simp only
  rw [lexF_fuel s.length _ _ hl]
theorem piecesS_end {at_ : Nat} {s : Bs} (h : s.drop (skipB s) = []) : piecesS at_ s = [] := by
  unfold piecesS; rw [piecesF, if_pos h]
theorem piecesS_bad {at_ : Nat} {s : Bs} (h : s.drop (skipB s) ≠ []) (ho : one (s.drop (skipB s)) = none) : piecesS at_ s = [⟨0, [], 0, ((at_ + skipB s : Nat) : Int), 0, errO (s.drop (skipB s))⟩] := by
  unfold piecesS; rw [piecesF, if_neg h, ho]
theorem piecesS_step {at_ : Nat} {s : Bs} {k : Int} {t : Bs} {n z : Nat} (h : s.drop (skipB s) ≠ []) (ho : one (s.drop (skipB s)) = some (k, t, n, z)) :
    piecesS at_ s = ⟨k, t, n, ((at_ + skipB s : Nat) : Int), z, 0⟩ :: piecesS (at_ + skipB s + z) ((s.drop (skipB s)).drop z) := by
  have hz := one_le ho
  have hl : ((s.drop (skipB s)).drop z).length < s.length := by
    have := skip_le s
    rw [List.length_drop] at hz ⊢; rw [List.length_drop]; omega
  unfold piecesS
  rw [piecesF, if_neg h, ho]
  simp only
  rw [piecesF_fuel s.length _ _ hl]
/-- what a line comes to: its tokens ahead of what is wrong, where that is, what is wrong -/
def lineB (s : Bs) : List Tok × Nat × Int := if 512 < s.length then ([], 0, 3) else lexS 0 s
/-- Lex's answer -/
def lexB (s : Bs) : List Tok × Nat × Int := if (lineB s).2.2 = 0 then lineB s else ([], (lineB s).2)
end Go.Proofs.YtdkflmpdelfgoaaDoor
