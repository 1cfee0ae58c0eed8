/-
  The lexer's words as plain functions on lists of bytes: names, signs, numbers, quotes, the pieces of a line. No program in this text; no conditions.
-/
import Derived.Lib.ItoaNum
namespace Go.Proofs.YtdkflmpdelfgoaaGreatDoor

abbrev Bs := List UInt8

def isL (c : UInt8) : Bool := (97 ≤ c && c ≤ 122) || (65 ≤ c && c ≤ 90) || c == 95 || c == 46 || c == 36
def isD (c : UInt8) : Bool := 48 ≤ c && c ≤ 57
def isBl (c : UInt8) : Bool := c == 32 || c == 9
def isLD (c : UInt8) : Bool := isL c || isD c
/-- the kind of a byte, as a bit -/
def classN (c : UInt8) : Nat := if isL c then 2 else if isD c then 4 else if isBl c then 1 else if c == 39 then 8 else if c == 34 then 16 else 32
def hasB (m : Nat) (c : UInt8) : Bool := m &&& classN c != 0
/-- how many bytes, from the first on, are of a kind -/
def run (p : UInt8 → Bool) : Bs → Nat
  | [] => 0
  | c :: r => if p c then run p r + 1 else 0

/-- a byte that may stand, as it is, between two of another one -/
def stands (c around : UInt8) : Bool := 32 ≤ c && c ≤ 126 && c != 92 && c != around

def nameB : Bs → Bool
  | [] => false
  | c :: r => isL c && r.all isLD

def signL : Bs := [44, 91, 93, 33, 35, 58, 43, 45, 42, 47, 37, 38, 124, 94, 126, 40, 41, 61]
def isSignB (s : Bs) : Bool := s == [60, 60] || s == [62, 62] || (match s with
  | [c] => signL.contains c
  | _ => false)
/-- how many bytes the sign has with which a text begins -/
def signN : Bs → Nat
  | [] => 0
  | c :: r => if (c == 60 && r.head? == some 60) || (c == 62 && r.head? == some 62) then 2 else if signL.contains c then 1 else 0

/-! ### quotes -/
def shortB : Bs := [0, 9, 10, 13, 34, 92]
def shortL : Bs := [48, 116, 110, 114, 34, 92]
/-- the letter of a byte's short form -/
def letterOf (c : UInt8) : Option UInt8 := if c = 0 then some 48 else if c = 9 then some 116 else if c = 10 then some 110 else if c = 13 then some 114 else if c = 34 then some 34 else if c = 92 then some 92 else none
/-- the byte of a short form -/
def byteOf (c : UInt8) : Option UInt8 := if c = 48 then some 0 else if c = 116 then some 9 else if c = 110 then some 10 else if c = 114 then some 13 else if c = 34 then some 34 else if c = 92 then some 92 else none
def hexD (n : Nat) : UInt8 := if n < 10 then UInt8.ofNat (48 + n) else UInt8.ofNat (87 + n)
def quoted1 (c : UInt8) : Bs := match letterOf c with
  | some l => [92, l]
  | none => if stands c 34 then [c] else [92, 120, hexD (c.toNat / 16), hexD (c.toNat % 16)]
def quoteB (s : Bs) : Bs := 34 :: s.flatMap quoted1 ++ [34]

/-- a digit's value -/
def hexV (c : UInt8) : Option Nat := if 48 ≤ c.toNat ∧ c.toNat ≤ 57 then some (c.toNat - 48) else if 97 ≤ c.toNat ∧ c.toNat ≤ 102 then some (c.toNat - 87) else if 65 ≤ c.toNat ∧ c.toNat ≤ 70 then some (c.toNat - 55) else none
/-- the byte of the form with which a text within quotes begins, how many bytes the form has -/
def within1 : Bs → Option (UInt8 × Nat)
  | [] => none
  | c :: r => if c = 92 then (match r with
      | [] => none
      | d :: r2 => match byteOf d with
        | some b => some (b, 2)
        | none => if d = 120 then (match r2 with
            | h1 :: h2 :: _ => match hexV h1, hexV h2 with
              | some a, some b => some (UInt8.ofNat (16 * a + b), 4)
              | _, _ => none
            | _ => none) else none)
    else if stands c 34 then some (c, 1) else none
theorem within1_pos {s : Bs} {b : UInt8} {n : Nat} (h : within1 s = some (b, n)) : 1 ≤ n ∧ n ≤ s.length := by
  unfold within1 at h
  split at h
  · cases h
  · split at h
    · split at h
      · cases h
      · split at h
        · cases h; simp
        · split at h
          · split at h
            · split at h
              · cases h; simp
              · cases h
            · cases h
          · cases h
    · split at h
      · cases h; simp
      · cases h
/-- the bytes up to the quote that ends them, and how many bytes these forms have with that quote; by fuel -/
def unqF : Nat → Bs → Option (Bs × Nat)
  | 0, _ => none
  | f + 1, s => match s with
    | [] => none
    | c :: _ => if c = 34 then some ([], 1) else match within1 s with
      | none => none
      | some (b, n) => (unqF f (s.drop n)).map fun x => (b :: x.1, n + x.2)
theorem unqF_two : ∀ (f g : Nat) (s : Bs), s.length < f → s.length < g → unqF f s = unqF g s
  | 0, _, _, h, _ => by omega
  | _ + 1, 0, _, _, h => by omega
  | f + 1, g + 1, s, h, h' => by
    cases s with
    | nil => rfl
    | cons c r =>
      rw [unqF, unqF]
      by_cases hc : c = 34
      · simp [hc]
      · simp only [hc, if_false]
        cases hw : within1 (c :: r) with
        | none => rfl
        | some x =>
          obtain ⟨b, n⟩ := x
          have hp := within1_pos hw
          have hl : ((c :: r).drop n).length < (c :: r).length := by rw [List.length_drop]; omega
          simp only
          rw [unqF_two f g _ (by omega) (by omega)]
theorem unqF_fuel (f : Nat) (s : Bs) (h : s.length < f) : unqF f s = unqF (s.length + 1) s := unqF_two _ _ _ h (Nat.lt_succ_self _)
def unq (s : Bs) : Option (Bs × Nat) := unqF (s.length + 1) s
theorem unq_nil : unq [] = none := rfl
theorem unq_end (r : Bs) : unq (34 :: r) = some ([], 1) := by simp [unq, unqF]
theorem unq_none {c : UInt8} {r : Bs} (hc : c ≠ 34) (h : within1 (c :: r) = none) : unq (c :: r) = none := by
  unfold unq; rw [unqF]; simp [hc, h]
theorem unq_step {c : UInt8} {r : Bs} {b : UInt8} {n : Nat} (hc : c ≠ 34) (h : within1 (c :: r) = some (b, n)) : unq (c :: r) = (unq ((c :: r).drop n)).map fun x => (b :: x.1, n + x.2) := by
  have hp := within1_pos h
  have hl : ((c :: r).drop n).length < (c :: r).length := by rw [List.length_drop]; omega
  unfold unq
  rw [unqF]
  simp only [hc, if_false, h]
  rw [unqF_fuel _ _ hl]
/-- the bytes of the quotes with which a text begins, and how long these are -/
def quotesB : Bs → Option (Bs × Nat)
  | [] => none
  | c :: r => if c = 34 then (unq r).map fun x => (x.1, x.2 + 1) else none
def unquoteB (s : Bs) : Option Bs := match quotesB s with
  | some (b, n) => if n = s.length then some b else none
  | none => none

/-! ### numbers -/
/-- what digits of a base spell -/
def valF (base : Nat) : Nat → Bs → Option Nat
  | a, [] => some a
  | a, c :: r => match hexV c with
    | some d => if d < base then valF base (a * base + d) r else none
    | none => none
def digitsV (base : Nat) (s : Bs) : Option Nat := if s = [] then none else match valF base 0 s with
  | some v => if v < 18446744073709551616 then some v else none
  | none => none
/-- what letters and digits spell that begin with a digit -/
def parseD (d : Bs) : Option Nat :=
  if d.take 2 = [48, 120] then digitsV 16 (d.drop 2) else if d.take 2 = [48, 98] then digitsV 2 (d.drop 2) else if 1 < d.length ∧ d.head? = some 48 then none else digitsV 10 d
/-- whether no letter and no digit stands ahead -/
def okEnd : Bs → Bool
  | [] => true
  | x :: _ => !isLD x
/-- the number with which a text begins, how many bytes it has -/
def numB (s : Bs) : Option (Nat × Nat) :=
  if s.head? = some 39 then
    (match s with
    | _ :: c :: t :: r => if t = 39 ∧ stands c 39 = true ∧ okEnd r = true then some (c.toNat, 3) else none
    | _ => none)
  else (parseD (s.take (run isLD s))).map fun v => (v, run isLD s)

/-! ### pieces -/
structure Tok where
  k : Int
  t : Bs
  n : Nat
  p : Int
/-- the piece with which a text begins: its kind, its text, its number, how many bytes it has -/
def one (s : Bs) : Option (Int × Bs × Nat × Nat) := match s with
  | [] => none
  | c :: _ =>
    if isL c then some (1, s.take (run isLD s), 0, run isLD s)
    else if isD c || c == 39 then (numB s).map fun x => (2, [], x.1, x.2)
    else if c == 34 then (quotesB s).map fun x => (3, x.1, 0, x.2)
    else if signN s = 0 then none else some (4, s.take (signN s), 0, signN s)
/-- what is wrong with what a text begins with -/
def errO (s : Bs) : Int := match s with
  | [] => 80
  | c :: _ => if isD c || c == 39 then 81 else if c == 34 then 82 else 80
/-- how many bytes stand ahead of the next piece -/
def skipB (s : Bs) : Nat := if (s.drop (run isBl s)).take 2 = [47, 47] then s.length else run isBl s
/-- the tokens of a text ahead of the first piece that is wrong, where that is (or the end), what is wrong; by fuel -/
def lexF : Nat → Nat → Bs → List Tok × Nat × Int
  | 0, at_, _ => ([], at_, 0)
  | f + 1, at_, s =>
    if s.drop (skipB s) = [] then ([], at_ + s.length, 0) else match one (s.drop (skipB s)) with
    | none => ([], at_ + skipB s, errO (s.drop (skipB s)))
    | some (k, t, n, z) => (⟨k, t, n, ((at_ + skipB s : Nat) : Int)⟩ :: (lexF f (at_ + skipB s + z) ((s.drop (skipB s)).drop z)).1, (lexF f (at_ + skipB s + z) ((s.drop (skipB s)).drop z)).2)
structure Pc where
  k : Int
  t : Bs
  n : Nat
  p : Int
  z : Nat
  e : Int
/-- the pieces of a text, up to the first one that is wrong; by fuel -/
def piecesF : Nat → Nat → Bs → List Pc
  | 0, _, _ => []
  | f + 1, at_, s =>
    if s.drop (skipB s) = [] then [] else match one (s.drop (skipB s)) with
    | none => [⟨0, [], 0, ((at_ + skipB s : Nat) : Int), 0, errO (s.drop (skipB s))⟩]
    | some (k, t, n, z) => ⟨k, t, n, ((at_ + skipB s : Nat) : Int), z, 0⟩ :: piecesF f (at_ + skipB s + z) ((s.drop (skipB s)).drop z)
def tokOf (x : Pc) : Tok := ⟨x.k, x.t, x.n, x.p⟩

theorem run_le (p : UInt8 → Bool) : ∀ s : Bs, run p s ≤ s.length
  | [] => Nat.le_refl _
  | c :: r => by
    rw [run]
    have := run_le p r
    split <;> simp <;> omega
theorem run_head (p : UInt8 → Bool) {c : UInt8} {r : Bs} (h : p c = true) : run p (c :: r) = run p r + 1 := by simp [run, h]
theorem run_no (p : UInt8 → Bool) {c : UInt8} {r : Bs} (h : p c = false) : run p (c :: r) = 0 := by simp [run, h]
theorem unq_le : ∀ (f : Nat) (s : Bs) (b : Bs) (n : Nat), unqF f s = some (b, n) → 1 ≤ n ∧ n ≤ s.length ∧ b.length + 1 ≤ n
  | 0, s, b, n, h => by cases h
  | f + 1, s, b, n, h => by
    cases s with
    | nil => cases h
    | cons c r =>
      rw [unqF] at h
      by_cases hc : c = 34
      · simp [hc] at h; obtain ⟨rfl, rfl⟩ := h; simp
      · simp only [hc, if_false] at h
        cases hw : within1 (c :: r) with
        | none => rw [hw] at h; cases h
        | some x =>
          obtain ⟨b', n'⟩ := x
          have hp := within1_pos hw
          rw [hw] at h
          simp only [Option.map_eq_some_iff] at h
          obtain ⟨⟨b2, n2⟩, h2, he⟩ := h
          have ih := unq_le f _ _ _ h2
          rw [List.length_drop] at ih
          obtain ⟨rfl, rfl⟩ := Prod.mk.inj he
          simp only [List.length_cons] at *
          omega
theorem quotesB_le {s b : Bs} {n : Nat} (h : quotesB s = some (b, n)) : 2 ≤ n ∧ n ≤ s.length ∧ b.length + 2 ≤ n := by
  unfold quotesB at h
  split at h
  · cases h
  · split at h
    · simp only [Option.map_eq_some_iff] at h
      obtain ⟨⟨b2, n2⟩, h2, he⟩ := h
      have := unq_le _ _ _ _ h2
      obtain ⟨rfl, rfl⟩ := Prod.mk.inj he
      simp only [List.length_cons] at *
      omega
    · cases h
theorem signN_le : ∀ s : Bs, signN s ≤ s.length ∧ signN s ≤ 2
  | [] => ⟨Nat.le_refl _, by decide⟩
  | c :: r => by
    rw [signN]
    split
    · rename_i h
      cases r with
      | nil => simp at h
      | cons d r => simp
    · split <;> simp
theorem numB_le {s : Bs} {v n : Nat} (h : numB s = some (v, n)) (hs : s.head? ≠ some 39 → 1 ≤ run isLD s) : 1 ≤ n ∧ n ≤ s.length := by
  unfold numB at h
  split at h
  · split at h
    · split at h
      · cases h; simp
      · cases h
    · cases h
  · rename_i hh
    simp only [Option.map_eq_some_iff] at h
    obtain ⟨v', _, he⟩ := h
    obtain ⟨rfl, rfl⟩ := Prod.mk.inj he
    exact ⟨hs hh, run_le _ _⟩
theorem one_le {s : Bs} {k : Int} {t : Bs} {n z : Nat} (h : one s = some (k, t, n, z)) : 1 ≤ z ∧ z ≤ s.length := by
  unfold one at h
  split at h
  · cases h
  · rename_i c r
    split at h
    · rename_i hl
      cases h
      exact ⟨by rw [run_head _ (by simp [isLD, hl])]; omega, run_le _ _⟩
    · split at h
      · rename_i hd
        simp only [Option.map_eq_some_iff] at h
        obtain ⟨⟨v, m⟩, h2, he⟩ := h
        have := numB_le h2 (fun hne => by
          have : isD c = true := by
            simp only [List.head?_cons, ne_eq, Option.some.injEq] at hne
            simpa [hne] using hd
          rw [run_head _ (by simp [isLD, this])]; omega)
        simp only [Prod.mk.injEq] at he
        omega
      · split at h
        · simp only [Option.map_eq_some_iff] at h
          obtain ⟨⟨b, m⟩, h2, he⟩ := h
          have := quotesB_le h2
          simp only [Prod.mk.injEq] at he
          omega
        · split at h
          · cases h
          · have := signN_le (c :: r)
            cases h
            omega
theorem skip_le (s : Bs) : skipB s ≤ s.length := by
  unfold skipB
  split
  · exact Nat.le_refl _
  · exact run_le _ _
theorem lexF_two : ∀ (f g at_ : Nat) (s : Bs), s.length < f → s.length < g → lexF f at_ s = lexF g at_ s
  | 0, _, _, _, h, _ => by omega
  | _ + 1, 0, _, _, _, h => by omega
  | f + 1, g + 1, at_, s, h, h' => by
    rw [lexF, lexF]
    split
    · rfl
    · rename_i hne
      split
      · rfl
      · rename_i k t n z ho
        have hz := one_le ho
        have hl : ((s.drop (skipB s)).drop z).length < s.length := by
          have := skip_le s
          rw [List.length_drop] at hz ⊢; rw [List.length_drop]; omega
        rw [lexF_two f g _ _ (by omega) (by omega)]
theorem lexF_fuel (f at_ : Nat) (s : Bs) (h : s.length < f) : lexF f at_ s = lexF (s.length + 1) at_ s := lexF_two _ _ _ _ h (Nat.lt_succ_self _)
theorem piecesF_two : ∀ (f g at_ : Nat) (s : Bs), s.length < f → s.length < g → piecesF f at_ s = piecesF g at_ s
  | 0, _, _, _, h, _ => by omega
  | _ + 1, 0, _, _, _, h => by omega
  | f + 1, g + 1, at_, s, h, h' => by
    rw [piecesF, piecesF]
    split
    · rfl
    · rename_i hne
      split
      · rfl
      · rename_i k t n z ho
        have hz := one_le ho
        have hl : ((s.drop (skipB s)).drop z).length < s.length := by
          have := skip_le s
          rw [List.length_drop] at hz ⊢; rw [List.length_drop]; omega
        rw [piecesF_two f g _ _ (by omega) (by omega)]
theorem piecesF_fuel (f at_ : Nat) (s : Bs) (h : s.length < f) : piecesF f at_ s = piecesF (s.length + 1) at_ s := piecesF_two _ _ _ _ h (Nat.lt_succ_self _)
def lexS (at_ : Nat) (s : Bs) : List Tok × Nat × Int := lexF (s.length + 1) at_ s
def piecesS (at_ : Nat) (s : Bs) : List Pc := piecesF (s.length + 1) at_ s
theorem lexS_end {at_ : Nat} {s : Bs} (h : s.drop (skipB s) = []) : lexS at_ s = ([], at_ + s.length, 0) := by
  unfold lexS; rw [lexF, if_pos h]
theorem lexS_bad {at_ : Nat} {s : Bs} (h : s.drop (skipB s) ≠ []) (ho : one (s.drop (skipB s)) = none) : lexS at_ s = ([], at_ + skipB s, errO (s.drop (skipB s))) := by
  unfold lexS; rw [lexF, if_neg h, ho]
theorem lexS_step {at_ : Nat} {s : Bs} {k : Int} {t : Bs} {n z : Nat} (h : s.drop (skipB s) ≠ []) (ho : one (s.drop (skipB s)) = some (k, t, n, z)) :
    lexS at_ s = (⟨k, t, n, ((at_ + skipB s : Nat) : Int)⟩ :: (lexS (at_ + skipB s + z) ((s.drop (skipB s)).drop z)).1, (lexS (at_ + skipB s + z) ((s.drop (skipB s)).drop z)).2) := by
  have hz := one_le ho
  have hl : ((s.drop (skipB s)).drop z).length < s.length := by
    have := skip_le s
    rw [List.length_drop] at hz ⊢; rw [List.length_drop]; omega
  unfold lexS
  rw [lexF, if_neg h, ho]
  simp only
  rw [lexF_fuel s.length _ _ hl]
theorem piecesS_end {at_ : Nat} {s : Bs} (h : s.drop (skipB s) = []) : piecesS at_ s = [] := by
  unfold piecesS; rw [piecesF, if_pos h]
theorem piecesS_bad {at_ : Nat} {s : Bs} (h : s.drop (skipB s) ≠ []) (ho : one (s.drop (skipB s)) = none) : piecesS at_ s = [⟨0, [], 0, ((at_ + skipB s : Nat) : Int), 0, errO (s.drop (skipB s))⟩] := by
  unfold piecesS; rw [piecesF, if_neg h, ho]
theorem piecesS_step {at_ : Nat} {s : Bs} {k : Int} {t : Bs} {n z : Nat} (h : s.drop (skipB s) ≠ []) (ho : one (s.drop (skipB s)) = some (k, t, n, z)) :
    piecesS at_ s = ⟨k, t, n, ((at_ + skipB s : Nat) : Int), z, 0⟩ :: piecesS (at_ + skipB s + z) ((s.drop (skipB s)).drop z) := by
  have hz := one_le ho
  have hl : ((s.drop (skipB s)).drop z).length < s.length := by
    have := skip_le s
    rw [List.length_drop] at hz ⊢; rw [List.length_drop]; omega
  unfold piecesS
  rw [piecesF, if_neg h, ho]
  simp only
  rw [piecesF_fuel s.length _ _ hl]
/-- what a line comes to: its tokens ahead of what is wrong, where that is, what is wrong -/
def lineB (s : Bs) : List Tok × Nat × Int := if 512 < s.length then ([], 0, 3) else lexS 0 s
/-- Lex's answer -/
def lexB (s : Bs) : List Tok × Nat × Int := if (lineB s).2.2 = 0 then lineB s else ([], (lineB s).2)
end Go.Proofs.YtdkflmpdelfgoaaGreatDoor
namespace Go.Proofs.YtdkflmpdelfgoaaGreatDoor

theorem hexV_ld {c : UInt8} {d : Nat} (h : hexV c = some d) : isLD c = true := by
  unfold hexV at h
  unfold isLD isL isD
  simp only [UInt8.le_iff_toNat_le, Bool.or_eq_true, Bool.and_eq_true, decide_eq_true_eq]
  split at h
  · right; simpa using ‹_ ∧ _›
  · split at h
    · rename_i h2; left; left; left; left; left
      exact ⟨h2.1, by have := h2.2; show c.toNat ≤ 122; omega⟩
    · split at h
      · rename_i h3; left; left; left; left; right
        exact ⟨h3.1, by have := h3.2; show c.toNat ≤ 90; omega⟩
      · cases h
/-- digits of a base read one by one, as long as they fit: the value, how many; none: they don't fit -/
def basedF (base : Nat) : Nat → Nat → Bs → Option (Nat × Nat)
  | a, k, [] => some (a, k)
  | a, k, c :: r => match hexV c with
    | some d => if d < base then (if a * base + d < 18446744073709551616 then basedF base (a * base + d) (k + 1) r else none) else some (a, k)
    | none => some (a, k)
theorem valF_ge {base : Nat} (hb : 1 ≤ base) : ∀ (t : Bs) (a v : Nat), valF base a t = some v → a ≤ v
  | [], a, v, h => by simp [valF] at h; omega
  | c :: r, a, v, h => by
    rw [valF] at h
    split at h
    · rename_i d hd
      split at h
      · have := valF_ge hb r _ _ h
        have := Nat.le_mul_of_pos_right a hb
        omega
      · cases h
    · cases h
theorem based_none {base : Nat} (hb : 1 ≤ base) : ∀ (t : Bs) (a k : Nat), basedF base a k t = none → ∀ v, valF base a (t.take (run isLD t)) = some v → 18446744073709551616 ≤ v
  | [], a, k, h, v => by cases h
  | c :: r, a, k, h, v => by
    rw [basedF] at h
    intro hv
    cases hx : hexV c with
    | none => rw [hx] at h; cases h
    | some d =>
      rw [hx] at h
      simp only at h
      rw [run_head _ (hexV_ld hx), List.take_succ_cons, valF, hx] at hv
      simp only at hv
      split at h
      · rename_i hd
        rw [if_pos hd] at hv
        split at h
        · exact based_none hb r _ _ h v hv
        · have := valF_ge hb _ _ _ hv
          omega
      · cases h
theorem based_some {base : Nat} : ∀ (t : Bs) (a k v k' : Nat), a < 18446744073709551616 → basedF base a k t = some (v, k') →
    v < 18446744073709551616 ∧ ∃ j, k' = k + j ∧ j ≤ t.length ∧ ((okEnd (t.drop j) = true ∧ run isLD t = j ∧ valF base a (t.take (run isLD t)) = some v) ∨ (okEnd (t.drop j) = false ∧ valF base a (t.take (run isLD t)) = none))
  | [], a, k, v, k', ha, h => by
    simp [basedF] at h
    obtain ⟨rfl, rfl⟩ := h
    exact ⟨ha, 0, rfl, Nat.le_refl _, .inl ⟨rfl, rfl, rfl⟩⟩
  | c :: r, a, k, v, k', ha, h => by
    rw [basedF] at h
    have stop : ∀ (hx : ∀ d, hexV c = some d → ¬ d < base) (he : some (a, k) = some (v, k')), v < 18446744073709551616 ∧ ∃ j, k' = k + j ∧ j ≤ (c :: r).length ∧ ((okEnd ((c :: r).drop j) = true ∧ run isLD (c :: r) = j ∧ valF base a ((c :: r).take (run isLD (c :: r))) = some v) ∨ (okEnd ((c :: r).drop j) = false ∧ valF base a ((c :: r).take (run isLD (c :: r))) = none)) := by
      intro hx he
      cases he
      refine ⟨ha, 0, rfl, Nat.zero_le _, ?_⟩
      cases hl : isLD c with
      | false => left; exact ⟨by simp [okEnd, hl], run_no _ hl, by rw [run_no _ hl]; rfl⟩
      | true =>
        right
        refine ⟨by simp [okEnd, hl], ?_⟩
        rw [run_head _ hl, List.take_succ_cons, valF]
        cases hxc : hexV c with
        | none => rfl
        | some d => simp only; rw [if_neg (hx d hxc)]
    cases hx : hexV c with
    | none => rw [hx] at h; exact stop (fun d e => by rw [hx] at e; cases e) h
    | some d =>
      rw [hx] at h
      simp only at h
      split at h
      · rename_i hd
        split at h
        · rename_i hlt
          obtain ⟨hv, j, rfl, hj, hor⟩ := based_some r _ _ _ _ hlt h
          refine ⟨hv, j + 1, by omega, by simp; omega, ?_⟩
          rw [run_head _ (hexV_ld hx), List.take_succ_cons, valF, hx, List.drop_succ_cons]
          simp only
          rw [if_pos hd]
          rcases hor with ⟨h1, h2, h3⟩ | ⟨h1, h2⟩
          · exact .inl ⟨h1, by omega, h3⟩
          · exact .inr ⟨h1, h2⟩
        · cases h
      · rename_i hd
        exact stop (fun d' e => by rw [hx] at e; cases e; exact hd) h
/-- the digits of a base, as the document reads them -/
theorem digitsV_based {base : Nat} (hb : 1 ≤ base) (t : Bs) : digitsV base (t.take (run isLD t)) = match basedF base 0 0 t with
    | none => none
    | some (v, k) => if k < 1 ∨ okEnd (t.drop k) = false then none else some v := by
  cases h : basedF base 0 0 t with
  | none =>
    have hn := based_none hb t 0 0 h
    simp only
    unfold digitsV
    split
    · rfl
    · split
      · rename_i v hv
        rw [if_neg (by have := hn v hv; omega)]
      · rfl
  | some x =>
    obtain ⟨v, k⟩ := x
    obtain ⟨hv, j, hk, hj, hor⟩ := based_some t 0 0 v k (by decide) h
    obtain rfl : k = j := by omega
    simp only
    rcases hor with ⟨h1, h2, h3⟩ | ⟨h1, h2⟩
    · unfold digitsV
      rw [h3, h2]
      by_cases hk0 : k = 0
      · subst hk0; simp
      · have : t.take k ≠ [] := by
          intro e
          have := congrArg List.length e
          rw [List.length_take, Nat.min_eq_left hj] at this
          exact hk0 this
        rw [if_neg this, if_neg (by simp [h1]; omega)]
        simp [hv]
    · rw [if_pos (.inr h1)]
      unfold digitsV
      rw [h2]
      split <;> rfl
theorem based_run {base : Nat} {t : Bs} {v k : Nat} (h : basedF base 0 0 t = some (v, k)) (he : okEnd (t.drop k) = true) : run isLD t = k := by
  obtain ⟨hv, j, hk, hj, hor⟩ := based_some t 0 0 v k (by decide) h
  obtain rfl : k = j := by omega
  rcases hor with ⟨h1, h2, h3⟩ | ⟨h1, h2⟩
  · exact h2
  · rw [h1] at he; cases he
/-- the document's number: its value, how many bytes; 0: there is none -/
def docNum (s : Bs) : Nat × Nat :=
  if s.head? = some 39 then (match s with
    | _ :: c :: t :: _ => if t = 39 ∧ stands c 39 = true then (c.toNat, 3) else (0, 0)
    | _ => (0, 0))
  else if s.take 2 = [48, 120] then (match basedF 16 0 0 (s.drop 2) with
    | some (v, k) => if k < 1 then (0, 0) else (v, 2 + k)
    | none => (0, 0))
  else if s.take 2 = [48, 98] then (match basedF 2 0 0 (s.drop 2) with
    | some (v, k) => if k < 1 then (0, 0) else (v, 2 + k)
    | none => (0, 0))
  else (match basedF 10 0 0 s with
    | some (v, k) => if k < 1 ∨ (1 < k ∧ s.head? = some 48) then (0, 0) else (v, k)
    | none => (0, 0))
theorem docNum_le (s : Bs) : (docNum s).2 ≤ s.length := by
  have B : ∀ {base : Nat} {t : Bs} {v k : Nat}, basedF base 0 0 t = some (v, k) → k ≤ t.length := fun {base t v k} h => by
    obtain ⟨hv, j, hk, hj, hor⟩ := based_some t 0 0 v k (by decide) h
    omega
  unfold docNum
  split
  · split
    · split <;> simp
    · simp
  · split
    · rename_i h2
      have : 2 ≤ s.length := by have := congrArg List.length h2; simp at this; omega
      split
      · rename_i v k hb
        have := B hb
        rw [List.length_drop] at this
        split <;> simp <;> omega
      · simp
    · split
      · rename_i h2
        have : 2 ≤ s.length := by have := congrArg List.length h2; simp at this; omega
        split
        · rename_i v k hb
          have := B hb
          rw [List.length_drop] at this
          split <;> simp <;> omega
        · simp
      · split
        · rename_i v k hb
          have := B hb
          split <;> simp <;> omega
        · simp
theorem take2_run {s : Bs} {a b : UInt8} (h : s.take 2 = [a, b]) (ha : isLD a = true) (hb : isLD b = true) : ∃ r, s = a :: b :: r ∧ run isLD s = run isLD r + 2 := by
  match s, h with
  | x :: y :: r, h =>
    simp only [List.take_succ_cons, List.take_zero, List.cons.injEq, and_true] at h
    obtain ⟨rfl, rfl⟩ := h
    exact ⟨r, rfl, by rw [run_head _ ha, run_head _ hb]⟩
theorem numB_doc {s : Bs} (hs : ∀ c, s.head? = some c → isD c = true ∨ c = 39) (hne : s ≠ []) : numB s = if (docNum s).2 = 0 ∨ okEnd (s.drop (docNum s).2) = false then none else some (docNum s) := by
  unfold numB docNum
  by_cases h39 : s.head? = some 39
  · rw [if_pos h39, if_pos h39]
    match s with
    | [] => rfl
    | [_] => rfl
    | [_, _] => rfl
    | a :: c :: t :: r =>
      simp only
      by_cases h1 : t = 39 ∧ stands c 39 = true
      · rw [if_pos h1]
        simp only [List.drop_succ_cons, List.drop_zero]
        cases ho : okEnd r <;> simp [h1]
      · rw [if_neg h1, if_neg (fun h => h1 ⟨h.1, h.2.1⟩)]
        simp
  · rw [if_neg h39, if_neg h39]
    unfold parseD
    have key : ∀ (b : UInt8) (base : Nat), 1 ≤ base → isLD b = true → s.take 2 = [48, b] →
        (digitsV base ((s.take (run isLD s)).drop 2)).map (fun v => (v, run isLD s)) = if (match basedF base 0 0 (s.drop 2) with
          | some (v, k) => if k < 1 then (0, 0) else (v, 2 + k)
          | none => (0, 0)).2 = 0 ∨ okEnd (s.drop (match basedF base 0 0 (s.drop 2) with
          | some (v, k) => if k < 1 then (0, 0) else (v, 2 + k)
          | none => (0, 0)).2) = false then none else some (match basedF base 0 0 (s.drop 2) with
          | some (v, k) => if k < 1 then (0, 0) else (v, 2 + k)
          | none => (0, 0)) := by
      intro b base hb hlb h2
      obtain ⟨r, rfl, hr⟩ := take2_run h2 (by decide) hlb
      rw [hr, show run isLD r + 2 = run isLD r + 1 + 1 from rfl, List.take_succ_cons, List.take_succ_cons, List.drop_succ_cons, List.drop_succ_cons, List.drop_zero, List.drop_succ_cons, List.drop_succ_cons, List.drop_zero, digitsV_based hb]
      cases hbf : basedF base 0 0 r with
      | none => simp
      | some x =>
        obtain ⟨v, k⟩ := x
        simp only
        by_cases hk : k < 1
        · simp [hk]
        · simp only [hk, if_false, false_or]
          rw [show 2 + k = k + 1 + 1 by omega, List.drop_succ_cons, List.drop_succ_cons]
          cases ho : okEnd (r.drop k) with
          | false => simp
          | true =>
            have := based_run hbf ho
            simp [this]
    by_cases hx : s.take 2 = [48, 120]
    · have hd : (s.take (run isLD s)).take 2 = [48, 120] := by
        obtain ⟨r, rfl, hr⟩ := take2_run hx (by decide) (by decide)
        rw [hr]; rfl
      rw [if_pos hd, if_pos hx]
      exact key 120 16 (by decide) (by decide) hx
    · have hd : (s.take (run isLD s)).take 2 ≠ [48, 120] := by
        intro h
        rw [List.take_take] at h
        by_cases hm : 2 ≤ run isLD s
        · rw [Nat.min_eq_left hm] at h; exact hx h
        · have := congrArg List.length h
          rw [List.length_take] at this
          simp at this; omega
      rw [if_neg hd, if_neg hx]
      by_cases hb : s.take 2 = [48, 98]
      · have hd : (s.take (run isLD s)).take 2 = [48, 98] := by
          obtain ⟨r, rfl, hr⟩ := take2_run hb (by decide) (by decide)
          rw [hr]; rfl
        rw [if_pos hd, if_pos hb]
        exact key 98 2 (by decide) (by decide) hb
      · have hd : (s.take (run isLD s)).take 2 ≠ [48, 98] := by
          intro h
          rw [List.take_take] at h
          by_cases hm : 2 ≤ run isLD s
          · rw [Nat.min_eq_left hm] at h; exact hb h
          · have := congrArg List.length h
            rw [List.length_take] at this
            simp at this; omega
        rw [if_neg hd, if_neg hb]
        obtain ⟨c, r, rfl⟩ := List.exists_cons_of_ne_nil hne
        · have hdc : isD c = true := by
            rcases hs c rfl with h | h
            · exact h
            · exact absurd (by rw [h]; rfl) h39
          have hlc : isLD c = true := by simp [isLD, hdc]
          have hR := run_head isLD (c := c) (r := r) hlc
          have hlen : ((c :: r).take (run isLD (c :: r))).length = run isLD (c :: r) := by
            rw [List.length_take]; exact Nat.min_eq_left (run_le _ _)
          have hhd : ((c :: r).take (run isLD (c :: r))).head? = some c := by rw [hR]; rfl
          rw [hlen, hhd, digitsV_based (by decide)]
          simp only [List.head?_cons, Option.some.injEq]
          cases hbf : basedF 10 0 0 (c :: r) with
          | none => simp
          | some x =>
            obtain ⟨v, k⟩ := x
            simp only
            by_cases hk : k < 1
            · simp [hk]
            · have hr1 := based_some (c :: r) 0 0 v k (by decide) hbf
              cases ho : okEnd ((c :: r).drop k) with
              | true =>
                have hrk := based_run hbf ho
                rw [hrk]
                by_cases hz : 1 < k ∧ c = 48
                · simp [hz]
                · have e1 : (if k < 1 ∨ 1 < k ∧ c = 48 then ((0, 0) : Nat × Nat) else (v, k)) = (v, k) := if_neg (fun h => h.elim hk hz)
                  rw [if_neg hz, e1, if_neg (by simp; omega), if_neg (by simp [ho]; omega)]
                  rfl
              | false =>
                have : ∀ y : Nat × Nat, (y = (0, 0) ∨ y = (v, k)) → (if y.2 = 0 ∨ okEnd ((c :: r).drop y.2) = false then none else some y) = none := by
                  intro y hy
                  rcases hy with rfl | rfl
                  · simp
                  · simp [ho]
                rw [this _ (by split <;> simp)]
                split <;> simp
end Go.Proofs.YtdkflmpdelfgoaaGreatDoor
namespace Go.Proofs.YtdkflmpdelfgoaaGreatDoor
set_option linter.unusedVariables false

def plainT (x : Tok) : Tok := ⟨x.k, x.t, x.n, 0⟩
/-- where the piece ends that a token begins: where the next one begins, or where the line ends -/
def pieceEnd (line : Bs) : List Tok → Nat
  | [] => line.length
  | u :: _ => u.p.toNat
def joinB (line tail : Bs) (B : Nat → Bs) : Nat → List Tok → Bs
  | _, [] => tail
  | i, t :: T => B i ++ ((line.take (pieceEnd line T)).drop t.p.toNat ++ joinB line tail B (i + 1) T)

theorem run_drop (p : UInt8 → Bool) : ∀ s : Bs, ∀ c, (s.drop (run p s)).head? = some c → p c = false
  | [], c, h => by simp [run] at h
  | x :: r, c, h => by
    rw [run] at h
    by_cases hx : p x = true
    · rw [if_pos hx, List.drop_succ_cons] at h; exact run_drop p r c h
    · rw [if_neg hx, List.drop_zero, List.head?_cons, Option.some.injEq] at h
      rw [← h]; simpa using hx
theorem run_app (p : UInt8 → Bool) : ∀ (u r : Bs), u.all p = true → (∀ c, r.head? = some c → p c = false) → run p (u ++ r) = u.length
  | [], [], _, _ => rfl
  | [], c :: r, _, h => run_no p (h c rfl)
  | x :: u, r, hu, h => by
    rw [List.all_cons, Bool.and_eq_true] at hu
    rw [List.cons_append, run_head p hu.1, run_app p u r hu.2 h, List.length_cons]
theorem all_run (p : UInt8 → Bool) : ∀ s : Bs, (s.take (run p s)).all p = true
  | [] => rfl
  | c :: r => by
    rw [run]
    by_cases h : p c = true
    · rw [if_pos h, List.take_succ_cons, List.all_cons, h, all_run p r]; rfl
    · rw [if_neg h]; rfl
theorem len_take_run (p : UInt8 → Bool) (s : Bs) : (s.take (run p s)).length = run p s := by
  rw [List.length_take, Nat.min_eq_left (run_le p s)]
theorem bl_ld : ∀ c : UInt8, isBl c = true → isLD c = false ∧ isL c = false ∧ isD c = false ∧ c ≠ 39 ∧ c ≠ 34 ∧ c ≠ 60 ∧ c ≠ 62 ∧ c ≠ 47 ∧ signL.contains c = false := by
  intro c h
  simp only [isBl, Bool.or_eq_true, beq_iff_eq] at h
  rcases h with rfl | rfl <;> decide
theorem one_nobl {c : UInt8} {r : Bs} {q : Int × Bs × Nat × Nat} (h : one (c :: r) = some q) : isBl c = false := by
  cases hb : isBl c with
  | false => rfl
  | true =>
    obtain ⟨_, h2, h3, h4, h5, h6, h7, _, h9⟩ := bl_ld c hb
    simp [one, h2, h3, h4, h5, signN, h6, h7, List.contains_eq_mem, show ¬ c ∈ signL by simpa using h9] at h

theorem within1_app {s : Bs} {b : UInt8} {m : Nat} (h : within1 s = some (b, m)) (r : Bs) : within1 (s.take m ++ r) = some (b, m) := by
  unfold within1 at h
  split at h
  · cases h
  · rename_i c r1
    split at h
    · rename_i hc
      split at h
      · cases h
      · rename_i d r2
        split at h
        · rename_i b' hb
          cases h
          simp [within1, hc, hb]
        · rename_i hb
          split at h
          · rename_i hd
            split at h
            · rename_i h1 h2 r3
              split at h
              · rename_i a b' ha hb'
                cases h
                simp [within1, hc, hd, show byteOf 120 = none by decide, ha, hb']
              · cases h
            · cases h
          · cases h
    · rename_i hc
      split at h
      · rename_i hs
        cases h
        simp [within1, hc, hs]
      · cases h
theorem unqF_app : ∀ (f : Nat) (s b : Bs) (n : Nat) (r : Bs), unqF f s = some (b, n) → unqF f (s.take n ++ r) = some (b, n)
  | 0, s, b, n, r, h => by cases h
  | f + 1, s, b, n, r, h => by
    cases s with
    | nil => cases h
    | cons c s1 =>
      rw [unqF] at h
      by_cases hc : c = 34
      · simp only [hc, if_true] at h
        cases h
        subst hc
        simp [unqF]
      · simp only [hc, if_false] at h
        cases hw : within1 (c :: s1) with
        | none => rw [hw] at h; cases h
        | some x =>
          obtain ⟨b1, m⟩ := x
          have hp := within1_pos hw
          rw [hw] at h
          simp only [Option.map_eq_some_iff] at h
          obtain ⟨⟨b2, n2⟩, h2, he⟩ := h
          obtain ⟨rfl, rfl⟩ := Prod.mk.inj he
          have ih := unqF_app f _ _ _ r h2
          have e : (c :: s1).take (m + n2) ++ r = (c :: s1).take m ++ (((c :: s1).drop m).take n2 ++ r) := by rw [List.take_add, List.append_assoc]
          have hw' := within1_app hw (((c :: s1).drop m).take n2 ++ r)
          have hlen : ((c :: s1).take m).length = m := by rw [List.length_take]; omega
          have hd : ((c :: s1).take m ++ (((c :: s1).drop m).take n2 ++ r)).drop m = ((c :: s1).drop m).take n2 ++ r := by rw [List.drop_append_of_le_length (by omega), List.drop_of_length_le (by omega), List.nil_append]
          rw [e]
          obtain ⟨m', rfl⟩ : ∃ m', m = m' + 1 := ⟨m - 1, by omega⟩
          rw [List.take_succ_cons, List.cons_append] at hw' hd ⊢
          rw [unqF]
          simp only [hc, if_false, hw', hd, ih, Option.map_some]
theorem quotesB_app {s b : Bs} {n : Nat} (h : quotesB s = some (b, n)) (r : Bs) : quotesB (s.take n ++ r) = some (b, n) := by
  have hle := quotesB_le h
  unfold quotesB at h
  split at h
  · cases h
  · rename_i c s1
    split at h
    · rename_i hc
      simp only [Option.map_eq_some_iff] at h
      obtain ⟨⟨b2, n2⟩, h2, he⟩ := h
      obtain ⟨rfl, rfl⟩ := Prod.mk.inj he
      rw [List.take_succ_cons, List.cons_append]
      simp only [quotesB, hc, if_true]
      have h3 := unqF_app (s1.length + r.length + 1) s1 b2 n2 r (by rw [unqF_fuel _ _ (by omega)]; exact h2)
      rw [unqF_fuel _ _ (by rw [List.length_append, List.length_take]; omega)] at h3
      have h4 : unq (s1.take n2 ++ r) = some (b2, n2) := h3
      rw [h4]; rfl
    · cases h

/-- what may stand behind a token in its old rest's place -/
def Follows (r r' : Bs) : Prop := r'.head? = r.head? ∨ ∃ c, r'.head? = some c ∧ isBl c = true
theorem Follows.ld {r r' : Bs} (h : Follows r r') (hr : ∀ c, r.head? = some c → isLD c = false) : ∀ c, r'.head? = some c → isLD c = false := by
  intro c hc
  rcases h with h | ⟨d, hd, hb⟩
  · exact hr c (h ▸ hc)
  · rw [hd] at hc; cases hc; exact (bl_ld _ hb).1
theorem okEnd_head {r : Bs} : okEnd r = true ↔ ∀ c, r.head? = some c → isLD c = false := by
  cases r with
  | nil => simp [okEnd]
  | cons c r => simp [okEnd]
theorem run_same {x r : Bs} (hf : Follows (x.drop (run isLD x)) r) : run isLD (x.take (run isLD x) ++ r) = run isLD x := by
  rw [run_app isLD _ _ (all_run _ _) (hf.ld (run_drop isLD x)), len_take_run]
theorem take_same {x r : Bs} {z : Nat} (hz : z ≤ x.length) : (x.take z ++ r).take z = x.take z := by
  rw [List.take_append_of_le_length (by rw [List.length_take]; omega), List.take_take, Nat.min_self]
theorem numB_app {x r : Bs} {v z : Nat} (h : numB x = some (v, z)) (h1 : 1 ≤ z) (hf : Follows (x.drop z) r) : numB (x.take z ++ r) = some (v, z) := by
  unfold numB at h
  split at h
  · split at h
    · rename_i a c t r1 hh
      split at h
      · rename_i hc
        cases h
        obtain ⟨hc1, hc2, hc3⟩ := hc
        subst hc1
        simp only [List.head?_cons, Option.some.injEq] at hh
        subst hh
        have : okEnd r = true := okEnd_head.2 (hf.ld (okEnd_head.1 (by simpa using hc3)))
        simp [numB, hc2, this]
      · cases h
    · cases h
  · rename_i hh
    simp only [Option.map_eq_some_iff] at h
    obtain ⟨v', h2, he⟩ := h
    obtain ⟨rfl, rfl⟩ := Prod.mk.inj he
    have hr := run_same hf
    have ht : (x.take (run isLD x) ++ r).take (run isLD x) = x.take (run isLD x) := take_same (run_le _ _)
    unfold numB
    rw [hr, ht, h2]
    have hhead : (x.take (run isLD x) ++ r).head? = x.head? := by
      cases x with
      | nil => simp [run] at h1
      | cons c x1 =>
        obtain ⟨n, hn⟩ : ∃ n, run isLD (c :: x1) = n + 1 := ⟨run isLD (c :: x1) - 1, by omega⟩
        rw [hn]; rfl
    rw [hhead, if_neg hh]; rfl
theorem one_app {x r : Bs} {k : Int} {t : Bs} {n z : Nat} (h : one x = some (k, t, n, z)) (hf : Follows (x.drop z) r) : one (x.take z ++ r) = some (k, t, n, z) := by
  have hz := one_le h
  cases x with
  | nil => cases h
  | cons c x1 =>
    have hh : ∃ y, (c :: x1).take z ++ r = c :: y := by
      obtain ⟨m, rfl⟩ : ∃ m, z = m + 1 := ⟨z - 1, by omega⟩
      exact ⟨_, rfl⟩
    obtain ⟨y, hy⟩ := hh
    unfold one at h
    simp only at h
    unfold one
    split at h
    · rename_i hl
      cases h
      rw [run_same hf, take_same (run_le _ _), hy]
      simp only [hl, if_true]
    · rename_i hl
      split at h
      · rename_i hd
        simp only [Option.map_eq_some_iff] at h
        obtain ⟨⟨v, m⟩, h2, he⟩ := h
        simp only [Prod.mk.injEq] at he
        obtain ⟨rfl, rfl, rfl, rfl⟩ := he
        have h3 := numB_app h2 hz.1 hf
        rw [h3, hy]
        simp only [hl, hd, if_true, Option.map_some]
        rfl
      · rename_i hd
        split at h
        · rename_i hq
          simp only [Option.map_eq_some_iff] at h
          obtain ⟨⟨b, m⟩, h2, he⟩ := h
          simp only [Prod.mk.injEq] at he
          obtain ⟨rfl, rfl, rfl, rfl⟩ := he
          have h3 := quotesB_app h2 r
          rw [h3, hy]
          simp only [hl, hd, hq, if_true, Option.map_some]
          rfl
        · rename_i hq
          split at h
          · cases h
          · rename_i hs
            cases h
            have key : signN ((c :: x1).take (signN (c :: x1)) ++ r) = signN (c :: x1) := by
              by_cases g1 : ((c == 60 && x1.head? == some 60) || (c == 62 && x1.head? == some 62)) = true
              · have e : signN (c :: x1) = 2 := by rw [signN, if_pos g1]
                rw [e]
                cases x1 with
                | nil => simp at g1
                | cons d x2 =>
                  have g2 : ((c == 60 && (d :: r).head? == some 60) || (c == 62 && (d :: r).head? == some 62)) = true := by simpa using g1
                  show signN (c :: d :: r) = 2
                  rw [signN, if_pos g2]
              · by_cases g2 : signL.contains c = true
                · have e : signN (c :: x1) = 1 := by rw [signN, if_neg g1, if_pos g2]
                  rw [e]
                  show signN (c :: r) = 1
                  have c60 : c ≠ 60 := by intro e; rw [e] at g2; revert g2; decide
                  have c62 : c ≠ 62 := by intro e; rw [e] at g2; revert g2; decide
                  rw [signN, if_neg (by simp [c60, c62]), if_pos g2]
                · exact absurd (by rw [signN, if_neg g1, if_neg g2]) hs
            rw [key, take_same (signN_le _).1, hy]
            simp only [hl, hd, hq, hs, if_false]
            rfl
theorem remark_app {x r : Bs} {k : Int} {t : Bs} {n z : Nat} (h : one x = some (k, t, n, z)) (hf : Follows (x.drop z) r) (h2 : x.take 2 ≠ [47, 47]) : (x.take z ++ r).take 2 ≠ [47, 47] := by
  have hz := one_le h
  match x, hz with
  | [], hz => exact absurd h (by simp [one])
  | c :: x1, hz =>
    by_cases hc : c = 47
    · subst hc
      have e : signN (47 :: x1) = 1 := by
        rw [signN, if_neg (by simp), if_pos (by decide)]
      have hz1 : z = 1 := by
        unfold one at h
        simp only [show isL 47 = false by decide, show isD 47 = false by decide, e] at h
        simp at h
        omega
      subst hz1
      show (47 :: r).take 2 ≠ [47, 47]
      intro hr
      have hrh : r.head? = some 47 := by
        cases r with
        | nil => cases hr
        | cons d r2 => simp at hr; rw [hr]; rfl
      rcases hf with h3 | ⟨d, hd, hb⟩
      · rw [List.drop_succ_cons, List.drop_zero] at h3
        rw [hrh] at h3
        apply h2
        cases x1 with
        | nil => cases h3
        | cons d x2 => simp only [List.head?_cons, Option.some.injEq] at h3; rw [← h3]; rfl
      · rw [hrh] at hd; cases hd; exact absurd hb (by decide)
    · intro hr
      obtain ⟨m, rfl⟩ : ∃ m, z = m + 1 := ⟨z - 1, by omega⟩
      rw [List.take_succ_cons, List.cons_append, List.take_succ_cons] at hr
      exact hc (List.cons.inj hr).1
theorem skip_pre {G y : Bs} (hG : G.all isBl = true) (hy : ∀ c, y.head? = some c → isBl c = false) (h2 : y.take 2 ≠ [47, 47]) : skipB (G ++ y) = G.length ∧ (G ++ y).drop G.length = y := by
  have e : (G ++ y).drop G.length = y := by simp
  refine ⟨?_, e⟩
  unfold skipB
  rw [run_app isBl G y hG hy, e, if_neg h2]
theorem skip_some {s : Bs} (h : s.drop (skipB s) ≠ []) : skipB s = run isBl s ∧ (s.drop (skipB s)).take 2 ≠ [47, 47] := by
  unfold skipB at h ⊢
  by_cases g : (s.drop (run isBl s)).take 2 = [47, 47]
  · rw [if_pos g, List.drop_length] at h
    exact absurd rfl h
  · rw [if_neg g] at h ⊢
    exact ⟨rfl, g⟩
theorem skip_rest {s behind : Bs} (h : s.drop (skipB s) = []) : (s ++ 32 :: 47 :: 47 :: behind).drop (skipB (s ++ 32 :: 47 :: 47 :: behind)) = [] := by
  have hs : s = s.take (run isBl s) ++ s.drop (run isBl s) := (List.take_append_drop _ _).symm
  by_cases g : (s.drop (run isBl s)).take 2 = [47, 47]
  · match hd : s.drop (run isBl s), g with
    | [], g => cases g
    | [_], g => cases g
    | c :: d :: r, g =>
      obtain ⟨rfl, g2⟩ := List.cons.inj g
      obtain ⟨rfl, _⟩ := List.cons.inj g2
      have e1 : s ++ 32 :: 47 :: 47 :: behind = s.take (run isBl s) ++ (47 :: 47 :: (r ++ 32 :: 47 :: 47 :: behind)) := by
        conv => lhs; rw [hs, hd]
        simp
      have e2 := run_app isBl (s.take (run isBl s)) (47 :: 47 :: (r ++ 32 :: 47 :: 47 :: behind)) (all_run _ _) (fun c hc => by cases hc; rfl)
      rw [e1]
      unfold skipB
      rw [e2, if_pos (by simp)]
      simp
  · have hl : run isBl s = s.length := by
      unfold skipB at h
      rw [if_neg g] at h
      have := List.drop_eq_nil_iff.1 h
      have := run_le isBl s
      omega
    have ha : s.all isBl = true := by
      have := all_run isBl s
      rwa [hl, List.take_length] at this
    have e1 : s ++ 32 :: 47 :: 47 :: behind = (s ++ [32]) ++ (47 :: 47 :: behind) := by simp
    have e2 := run_app isBl (s ++ [32]) (47 :: 47 :: behind) (by simp [ha, isBl]) (fun c hc => by cases hc; rfl)
    rw [e1]
    unfold skipB
    rw [e2, if_pos (by simp)]
    simp
theorem errO_nz (s : Bs) : errO s ≠ 0 := by
  unfold errO
  split
  · decide
  · split
    · decide
    · split <;> decide
theorem all_of_head {G y : Bs} {c : UInt8} (hc : c ∈ G) (h : G.all isBl = true) : isBl c = true := List.all_eq_true.1 h c hc

theorem lexF_zero_cases {f at_ : Nat} {s : Bs} {T : List Tok} {a : Nat} (h : lexF (f + 1) at_ s = (T, a, 0)) :
    (s.drop (skipB s) = [] ∧ T = []) ∨ ∃ k t n z T', s.drop (skipB s) ≠ [] ∧ one (s.drop (skipB s)) = some (k, t, n, z) ∧ T = ⟨k, t, n, ((at_ + skipB s : Nat) : Int)⟩ :: T' ∧ lexF f (at_ + skipB s + z) ((s.drop (skipB s)).drop z) = (T', a, 0) := by
  rw [lexF] at h
  by_cases h0 : s.drop (skipB s) = []
  · rw [if_pos h0] at h; exact .inl ⟨h0, (Prod.mk.inj h).1.symm⟩
  · rw [if_neg h0] at h
    cases ho : one (s.drop (skipB s)) with
    | none =>
      rw [ho] at h
      simp only [Prod.mk.injEq] at h
      exact absurd h.2.2 (errO_nz _)
    | some q =>
      obtain ⟨k, t, n, z⟩ := q
      rw [ho] at h
      simp only [Prod.mk.injEq] at h
      obtain ⟨h1, h2⟩ := h
      exact .inr ⟨k, t, n, z, _, h0, rfl, h1.symm, by rw [← h2]⟩

theorem join_lex (line behind : Bs) (B : Nat → Bs) (hB : ∀ i, (B i).all isBl = true) : ∀ (f at_ : Nat) (T : List Tok) (a : Nat), at_ ≤ line.length → (line.drop at_).length < f → lexF f at_ (line.drop at_) = (T, a, 0) → T ≠ [] →
    ∀ (G : Bs) (i at' : Nat), G.all isBl = true → (lexS at' (G ++ joinB line (32 :: 47 :: 47 :: behind) B i T)).1.map plainT = T.map plainT ∧ (lexS at' (G ++ joinB line (32 :: 47 :: 47 :: behind) B i T)).2.2 = 0
  | 0, at_, T, a, _, hf, _, _ => by omega
  | f + 1, at_, T, a, hat, hf, h, hT => by
    intro G i at' hG
    rcases lexF_zero_cases h with ⟨_, h2⟩ | ⟨k, t, n, z, T', h0, ho, rfl, hrest⟩
    · exact absurd h2 hT
    obtain ⟨x, hx⟩ : ∃ x, (line.drop at_).drop (skipB (line.drop at_)) = x := ⟨_, rfl⟩
    have hsk := skip_some h0
    have hskl := skip_le (line.drop at_)
    rw [hx] at h0 ho hrest hsk
    obtain ⟨p, hp⟩ : ∃ p, at_ + skipB (line.drop at_) = p := ⟨_, rfl⟩
    rw [hp] at hrest ⊢
    have hxp : line.drop p = x := by rw [← hx, List.drop_drop, hp]
    have hz := one_le ho
    have hxl : x.length = line.length - p := by rw [← hxp, List.length_drop]
    have hs2 : x.drop z = line.drop (p + z) := by rw [← hxp, List.drop_drop]
    rw [List.length_drop] at hf hskl
    have hGB : (G ++ B i).all isBl = true := by rw [List.all_append, hG, hB]; rfl
    -- the new text from the token on: its bytes and r'
    have step : ∀ r', Follows (x.drop z) r' → (∀ at2, (lexS at2 r').1.map plainT = T'.map plainT ∧ (lexS at2 r').2.2 = 0) →
        (lexS at' ((G ++ B i) ++ (x.take z ++ r'))).1.map plainT = (⟨k, t, n, (p : Int)⟩ :: T' : List Tok).map plainT ∧ (lexS at' ((G ++ B i) ++ (x.take z ++ r'))).2.2 = 0 := by
      intro r' hfol hr
      have ho' := one_app ho hfol
      have hrem := remark_app ho hfol hsk.2
      have hnb : ∀ c, (x.take z ++ r').head? = some c → isBl c = false := by
        intro c hc
        match hy : x.take z ++ r', hc with
        | c' :: y, hc =>
          cases hc
          rw [hy] at ho'
          exact one_nobl ho'
      have hsp := skip_pre hGB hnb hrem
      have hne : ((G ++ B i) ++ (x.take z ++ r')).drop (skipB ((G ++ B i) ++ (x.take z ++ r'))) ≠ [] := by
        rw [hsp.1, hsp.2]
        intro e
        have := congrArg List.length e
        rw [List.length_append, List.length_take, List.length_nil] at this
        omega
      have hst := lexS_step (at_ := at') hne (by rw [hsp.1, hsp.2]; exact ho')
      rw [hst]
      have hd : (((G ++ B i) ++ (x.take z ++ r')).drop (skipB ((G ++ B i) ++ (x.take z ++ r')))).drop z = r' := by
        rw [hsp.1, hsp.2, List.drop_append_of_le_length (by rw [List.length_take]; omega), List.drop_of_length_le (by rw [List.length_take]; omega), List.nil_append]
      rw [hd]
      have := hr (at' + skipB ((G ++ B i) ++ (x.take z ++ r')) + z)
      exact ⟨by rw [List.map_cons, List.map_cons, this.1]; rfl, this.2⟩
    cases T' with
    | nil =>
      have e : G ++ joinB line (32 :: 47 :: 47 :: behind) B i [⟨k, t, n, (p : Int)⟩] = (G ++ B i) ++ (x.take z ++ (x.drop z ++ 32 :: 47 :: 47 :: behind)) := by
        simp only [joinB, pieceEnd, List.take_length, Int.toNat_natCast, hxp, List.append_assoc]
        rw [← List.append_assoc (x.take z), List.take_append_drop]
      rw [e]
      have hend : (x.drop z).drop (skipB (x.drop z)) = [] := by
        cases f with
        | zero => omega
        | succ f =>
          rcases lexF_zero_cases hrest with ⟨h1, _⟩ | ⟨k2, t2, n2, z2, T2, _, _, h3, _⟩
          · exact h1
          · cases h3
      refine step _ ?_ ?_
      · by_cases hnil : x.drop z = []
        · rw [hnil]; exact .inr ⟨32, rfl, rfl⟩
        · left
          cases hx2 : x.drop z with
          | nil => exact absurd hx2 hnil
          | cons c y => rfl
      · intro at2
        rw [lexS_end (skip_rest hend)]
        exact ⟨rfl, rfl⟩
    | cons u T2 =>
      cases f with
      | zero => omega
      | succ f =>
        have hrest0 := hrest
        rcases lexF_zero_cases hrest with ⟨_, h3⟩ | ⟨k2, t2, n2, z2, T3, g0, go, g3, g4⟩
        · cases h3
        have hsk2 := skip_some g0
        have hsl2 := skip_le (x.drop z)
        obtain ⟨g, hg⟩ : ∃ g, skipB (x.drop z) = g := ⟨_, rfl⟩
        rw [hg] at g0 go g3 g4 hsk2 hsl2
        obtain ⟨hu, rfl⟩ := List.cons.inj g3
        have hup : u.p.toNat = p + z + g := by rw [hu]; simp only [Int.toNat_natCast]
        have hlz : (x.drop z).length = x.length - z := List.length_drop
        have hgl : g ≤ x.length - z := by omega
        have hbl : ((x.drop z).take g).all isBl = true := by rw [hsk2.1]; exact all_run _ _
        have e : G ++ joinB line (32 :: 47 :: 47 :: behind) B i (⟨k, t, n, (p : Int)⟩ :: u :: T2) = (G ++ B i) ++ (x.take z ++ ((x.drop z).take g ++ joinB line (32 :: 47 :: 47 :: behind) B (i + 1) (u :: T2))) := by
          have e1 : (line.take (p + z + g)).drop p = x.take z ++ (x.drop z).take g := by
            rw [List.drop_take, hxp, show p + z + g - p = z + g by omega, List.take_add]
          rw [joinB]
          simp only [pieceEnd, Int.toNat_natCast, hup, e1, List.append_assoc]
        rw [e]
        have hlen2 : (line.drop (p + z)).length < f + 1 := by rw [List.length_drop]; omega
        have ih := join_lex line behind B hB (f + 1) (p + z) (u :: T2) a (by omega) hlen2 (by rw [← hs2]; exact hrest0) (by simp) ((x.drop z).take g) (i + 1)
        refine step _ ?_ (fun at2 => ih at2 hbl)
        -- what follows
        by_cases hg0 : g = 0
        · subst hg0
          rw [List.take_zero, List.nil_append, joinB]
          cases hBi : B (i + 1) with
          | cons c y =>
            refine .inr ⟨c, rfl, ?_⟩
            have := hB (i + 1)
            rw [hBi, List.all_cons, Bool.and_eq_true] at this
            exact this.1
          | nil =>
            left
            rw [List.nil_append, hup]
            -- the next piece is not empty
            have hz2 := one_le go
            rw [List.drop_zero, hlz] at hz2
            have hend : p + z + 0 < pieceEnd line T2 ∧ pieceEnd line T2 ≤ line.length ∨ pieceEnd line T2 = line.length := by
              cases T2 with
              | nil => right; rfl
              | cons v T4 =>
                left
                cases f with
                | zero => omega
                | succ f =>
                rcases lexF_zero_cases g4 with ⟨_, h3⟩ | ⟨k5, t5, n5, z5, T5, q0, qo, q3, q4⟩
                · cases h3
                obtain ⟨hv, _⟩ := List.cons.inj q3
                have hq := skip_le (((x.drop z).drop 0).drop z2)
                have hq2 := List.length_drop (i := z2) (l := (x.drop z).drop 0)
                rw [List.drop_zero, hlz] at hq2
                rw [List.drop_zero] at hq
                simp only [pieceEnd, hv, Int.toNat_natCast]
                rw [List.drop_zero]
                exact ⟨by omega, by omega⟩
            have hlt : p + z + 0 < pieceEnd line T2 := by
              rcases hend with h | h
              · exact h.1
              · omega
            have e2 : line.drop (p + z + 0) = x.drop z := by rw [Nat.add_zero, hs2]
            rw [List.drop_take, e2]
            obtain ⟨m, hm⟩ : ∃ m, pieceEnd line T2 - (p + z + 0) = m + 1 := ⟨pieceEnd line T2 - (p + z + 0) - 1, by omega⟩
            rw [hm]
            cases hxd : x.drop z with
            | nil => exact absurd hxd (by simpa using g0)
            | cons c y => rfl
        · left
          obtain ⟨m, rfl⟩ : ∃ m, g = m + 1 := ⟨g - 1, by omega⟩
          cases hxd : x.drop z with
          | nil => exact absurd (by rw [hxd]; rfl) g0
          | cons c y => rfl
end Go.Proofs.YtdkflmpdelfgoaaGreatDoor
namespace Go.Proofs.YtdkflmpdelfgoaaGreatDoor
set_option linter.unusedVariables false

/-- a token's text, of one that may be -/
def textB (t : Tok) : Bs := if t.k = 2 then Lib.decDigits t.n else if t.k = 3 then quoteB t.t else t.t
def wordyB (t : Tok) : Bool := t.k == 1 || t.k == 2
def slashB (t : Tok) : Bool := t.k == 4 && t.t == [47]
def partedP (a b : Tok) : Bool := wordyB a && wordyB b || slashB a && slashB b
/-- what stands ahead of a token -/
def gapB : Option Tok → Tok → Bs
  | none, _ => []
  | some a, b => if partedP a b then [32] else []
def printF : Option Tok → List Tok → Bs
  | _, [] => []
  | q, t :: T => gapB q t ++ textB t ++ printF (some t) T
def fitsP (k : Int) (t : Bs) : Bool := if k = 1 then nameB t else if k = 2 then t == [] else if k = 3 then decide (t.length ≤ 512) else if k = 4 then isSignB t else false
/-- a token that may be, its place apart -/
def mayP (t : Tok) : Bool := (t.n == 0 || t.k == 2) && fitsP t.k t.t && decide (t.n < 18446744073709551616)

/-! ### digits -/
theorem dec_all : ∀ u, (Lib.decDigits u).all isD = true := by
  intro u
  induction u using Nat.strongRecOn with
  | _ u ih =>
    have hd : ∀ k : Fin 10, isD (UInt8.ofNat (48 + k.val)) = true := by decide
    by_cases h : u < 10
    · rw [Lib.decDigits_one h]; simpa using hd ⟨u, h⟩
    · rw [Lib.decDigits, dif_neg h, List.all_append, ih (u / 10) (by omega)]
      simpa using hd ⟨u % 10, by omega⟩
theorem dec_ne (u : Nat) : Lib.decDigits u ≠ [] := by
  intro e
  have := congrArg List.length e
  rw [Lib.decDigits_length] at this
  have := Lib.nDigits_pos u
  simp at *
  omega
theorem valF_app (base : Nat) : ∀ (s r : Bs) (a v : Nat), valF base a s = some v → valF base a (s ++ r) = valF base v r
  | [], r, a, v, h => by cases h; rfl
  | c :: s, r, a, v, h => by
    rw [List.cons_append, valF]
    rw [valF] at h
    cases hx : hexV c with
    | none => rw [hx] at h; cases h
    | some d =>
      rw [hx] at h
      simp only at h ⊢
      split at h
      · rename_i hd
        rw [if_pos hd]
        exact valF_app base s r _ v h
      · cases h
theorem dec_val : ∀ u, valF 10 0 (Lib.decDigits u) = some u := by
  intro u
  induction u using Nat.strongRecOn with
  | _ u ih =>
    have hd : ∀ k : Fin 10, hexV (UInt8.ofNat (48 + k.val)) = some k.val := by decide
    by_cases h : u < 10
    · rw [Lib.decDigits_one h, valF, hd ⟨u, h⟩]
      simp [valF, h]
    · rw [Lib.decDigits, dif_neg h, valF_app 10 _ _ _ _ (ih (u / 10) (by omega)), valF, hd ⟨u % 10, by omega⟩]
      simp only [valF]
      rw [if_pos (by omega)]
      congr 1
      omega
theorem dec_head : ∀ u, 10 ≤ u → (Lib.decDigits u).head? ≠ some 48 := by
  intro u
  induction u using Nat.strongRecOn with
  | _ u ih =>
    intro hu
    rw [Lib.decDigits, dif_neg (by omega)]
    by_cases h : u / 10 < 10
    · rw [Lib.decDigits_one h]
      have hd : ∀ k : Fin 10, k.val ≠ 0 → UInt8.ofNat (48 + k.val) ≠ 48 := by decide
      have := hd ⟨u / 10, h⟩ (by show u / 10 ≠ 0; omega)
      simpa using this
    · have := ih (u / 10) (by omega) (by omega)
      cases he : Lib.decDigits (u / 10) with
      | nil => exact absurd he (dec_ne _)
      | cons c y => rw [he] at this; simpa using this
theorem isD_ne {c : UInt8} (h : isD c = true) : c ≠ 120 ∧ c ≠ 98 ∧ c ≠ 39 ∧ c ≠ 34 := by
  refine ⟨?_, ?_, ?_, ?_⟩ <;> (intro e; rw [e] at h; revert h; decide)
theorem parse_dec (u : Nat) (hu : u < 18446744073709551616) : parseD (Lib.decDigits u) = some u := by
  have ha := dec_all u
  have hne := dec_ne u
  have h2 : ∀ x : UInt8, isD x = false → (Lib.decDigits u).take 2 ≠ [48, x] := by
    intro x hx e
    have hm : x ∈ Lib.decDigits u := List.mem_of_mem_take (i := 2) (by rw [e]; simp)
    have := List.all_eq_true.1 ha x hm
    rw [hx] at this; cases this
  unfold parseD
  rw [if_neg (h2 120 (by decide)), if_neg (h2 98 (by decide)), if_neg]
  · unfold digitsV
    rw [if_neg hne, dec_val]
    simp only
    rw [if_pos hu]
  · rintro ⟨h3, h4⟩
    by_cases h : u < 10
    · rw [Lib.decDigits_one h] at h3; simp at h3
    · exact dec_head u (by omega) h4
theorem all_imp {p q : UInt8 → Bool} (h : ∀ c, p c = true → q c = true) {s : Bs} (hs : s.all p = true) : s.all q = true := List.all_eq_true.2 fun c hc => h c (List.all_eq_true.1 hs c hc)
theorem isD_LD {c : UInt8} (h : isD c = true) : isLD c = true := by simp [isLD, h]
theorem isD_notL : ∀ c : UInt8, isD c = true → isL c = false := by
  intro c h
  simp only [isD, Bool.and_eq_true, decide_eq_true_eq, UInt8.le_iff_toNat_le] at h
  have key : ∀ n : Fin 256, 48 ≤ n.val → n.val ≤ 57 → isL (UInt8.ofNat n.val) = false := by decide +kernel
  have := key ⟨c.toNat, c.toNat_lt⟩ h.1 h.2
  simpa using this

/-! ### quotes -/
theorem bytes256 {P : UInt8 → Prop} (h : ∀ n : Fin 256, P (UInt8.ofNat n.val)) (c : UInt8) : P c := by
  have := h ⟨c.toNat, c.toNat_lt⟩
  simpa using this
def shortOk (c : UInt8) : Bool := match letterOf c with
  | some l => decide (byteOf l = some c)
  | none => true
theorem shortOk_all : ∀ c, shortOk c = true := bytes256 (P := fun c => shortOk c = true) (by decide +kernel)
theorem hex_back : ∀ n : Fin 16, hexV (hexD n.val) = some n.val := by decide +kernel
theorem quoted1_back (c : UInt8) (r : Bs) : within1 (quoted1 c ++ r) = some (c, (quoted1 c).length) ∧ (∃ d y, quoted1 c = d :: y ∧ d ≠ 34) := by
  unfold quoted1
  cases hl : letterOf c with
  | some l =>
    have h := shortOk_all c
    unfold shortOk at h
    rw [hl] at h
    have hb : byteOf l = some c := by simpa using h
    exact ⟨by simp [within1, hb], _, _, rfl, by decide⟩
  | none =>
    simp only
    by_cases hs : stands c 34 = true
    · rw [if_pos hs]
      have h92 : c ≠ 92 := by intro e; rw [e] at hs; revert hs; decide
      have h34 : c ≠ 34 := by intro e; rw [e] at hs; revert hs; decide
      exact ⟨by simp [within1, hs, h92], _, _, rfl, h34⟩
    · rw [if_neg hs]
      have hlt := c.toNat_lt
      have a1 := hex_back ⟨c.toNat / 16, by omega⟩
      have a2 := hex_back ⟨c.toNat % 16, by omega⟩
      simp only at a1 a2
      refine ⟨?_, _, _, rfl, by decide⟩
      have e : 16 * (c.toNat / 16) + c.toNat % 16 = c.toNat := by omega
      simp [within1, show byteOf 120 = none by decide, a1, a2, e]
theorem unq_back : ∀ (s r : Bs), unq (s.flatMap quoted1 ++ 34 :: r) = some (s, (s.flatMap quoted1).length + 1)
  | [], r => by rw [List.flatMap_nil, List.nil_append]; exact unq_end r
  | c :: s, r => by
    obtain ⟨h1, d, y, hd, hne⟩ := quoted1_back c (s.flatMap quoted1 ++ 34 :: r)
    have e : (c :: s).flatMap quoted1 ++ 34 :: r = quoted1 c ++ (s.flatMap quoted1 ++ 34 :: r) := by rw [List.flatMap_cons, List.append_assoc]
    rw [e]
    have hdr : (quoted1 c ++ (s.flatMap quoted1 ++ 34 :: r)).drop (quoted1 c).length = s.flatMap quoted1 ++ 34 :: r := by simp
    have h2 : quoted1 c ++ (s.flatMap quoted1 ++ 34 :: r) = d :: (y ++ (s.flatMap quoted1 ++ 34 :: r)) := by rw [hd]; rfl
    rw [h2] at h1 hdr ⊢
    rw [unq_step hne h1, hdr, unq_back s r]
    simp only [Option.map_some, List.flatMap_cons, List.length_append]
    congr 2
theorem quotes_back (s r : Bs) : quotesB (quoteB s ++ r) = some (s, (quoteB s).length) := by
  have e : quoteB s ++ r = 34 :: (s.flatMap quoted1 ++ 34 :: r) := by simp [quoteB]
  rw [e]
  simp only [quotesB, if_true]
  rw [unq_back s r]
  simp [quoteB]
/-- bytes are read back of their quotes -/
theorem unquote_back (s : Bs) : unquoteB (quoteB s) = some s := by
  have := quotes_back s []
  rw [List.append_nil] at this
  unfold unquoteB
  rw [this]
  simp

/-! ### one token -/
/-- what may stand right behind a token's text -/
def Behind (t : Tok) (r : Bs) : Prop := (wordyB t = true → ∀ c, r.head? = some c → isLD c = false) ∧ (slashB t = true → r.head? ≠ some 47)
theorem nameB_all {s : Bs} (h : nameB s = true) : s.all isLD = true ∧ ∃ c r, s = c :: r ∧ isL c = true := by
  cases s with
  | nil => cases h
  | cons c r =>
    simp only [nameB, Bool.and_eq_true] at h
    exact ⟨by rw [List.all_cons, h.2]; simp [isLD, h.1], c, r, rfl, h.1⟩
theorem sign_cases {s : Bs} (h : isSignB s = true) : s = [60, 60] ∨ s = [62, 62] ∨ ∃ c, s = [c] ∧ signL.contains c = true := by
  unfold isSignB at h
  simp only [Bool.or_eq_true, beq_iff_eq] at h
  rcases h with (h | h) | h
  · exact .inl h
  · exact .inr (.inl h)
  · split at h
    · rename_i c; exact .inr (.inr ⟨c, rfl, h⟩)
    · cases h
theorem sign_byte : ∀ c : UInt8, signL.contains c = true → isL c = false ∧ isD c = false ∧ c ≠ 39 ∧ c ≠ 34 ∧ c ≠ 60 ∧ c ≠ 62 ∧ isBl c = false ∧ isLD c = false := by
  intro c h
  have key : ∀ c : UInt8, (!(signL.contains c) || (!isL c && !isD c && c != 39 && c != 34 && c != 60 && c != 62 && !isBl c && !isLD c)) = true := bytes256 (P := fun c => (!(signL.contains c) || (!isL c && !isD c && c != 39 && c != 34 && c != 60 && c != 62 && !isBl c && !isLD c)) = true) (by decide +kernel)
  have := key c
  rw [h] at this
  simp at this
  exact ⟨this.1.1.1.1.1.1.1, this.1.1.1.1.1.1.2, this.1.1.1.1.1.2, this.1.1.1.1.2, this.1.1.1.2, this.1.1.2, this.1.2, this.2⟩
theorem one_text {t : Tok} (h : mayP t = true) {r : Bs} (hb : Behind t r) : one (textB t ++ r) = some (t.k, t.t, t.n, (textB t).length) ∧ (textB t ++ r).take 2 ≠ [47, 47] := by
  obtain ⟨k, s, n, p⟩ := t
  simp only [mayP, fitsP, Bool.and_eq_true, Bool.or_eq_true, beq_iff_eq, decide_eq_true_eq] at h
  obtain ⟨⟨hn, hf⟩, hn2⟩ := h
  unfold textB
  simp only
  by_cases k1 : k = 1
  · subst k1
    simp only [if_true] at hf
    obtain ⟨ha, c, s1, rfl, hc⟩ := nameB_all hf
    have hn0 : n = 0 := by rcases hn with h | h; exact h; exact absurd h (by decide)
    subst hn0
    have hbr := hb.1 rfl
    have hr : run isLD (c :: s1 ++ r) = (c :: s1).length := run_app isLD _ _ ha hbr
    have c47 : c ≠ 47 := by intro e; rw [e] at hc; revert hc; decide
    have t2 : (c :: s1 ++ r).take (c :: s1).length = c :: s1 := by simp
    rw [if_neg (by decide), if_neg (by decide)]
    refine ⟨?_, by simp [c47]⟩
    show one (c :: (s1 ++ r)) = _
    unfold one
    simp only [hc, if_true]
    rw [show (c :: (s1 ++ r)) = c :: s1 ++ r from rfl, hr, t2]
  by_cases k2 : k = 2
  · subst k2
    simp only [show ¬ ((2 : Int) = 1) by decide, if_false, if_true, beq_iff_eq] at hf
    subst hf
    rw [if_pos rfl]
    have ha := dec_all n
    have hbr := hb.1 rfl
    have hr : run isLD (Lib.decDigits n ++ r) = (Lib.decDigits n).length := run_app isLD _ _ (all_imp (fun c h => isD_LD h) ha) hbr
    have t2 : (Lib.decDigits n ++ r).take (Lib.decDigits n).length = Lib.decDigits n := by simp
    have hp := parse_dec n hn2
    cases hd : Lib.decDigits n with
    | nil => exact absurd hd (dec_ne n)
    | cons c y =>
      rw [hd] at ha hr t2 hp
      have hc : isD c = true := by rw [List.all_cons, Bool.and_eq_true] at ha; exact ha.1
      have hne := isD_ne hc
      have c47 : c ≠ 47 := by intro e; rw [e] at hc; revert hc; decide
      refine ⟨?_, by simp [c47]⟩
      show one (c :: (y ++ r)) = _
      have hnum : numB (c :: (y ++ r)) = some (n, (c :: y).length) := by
        unfold numB
        rw [if_neg (by simp [hne.2.2.1])]
        rw [show c :: (y ++ r) = c :: y ++ r from rfl, hr, t2, hp]
        rfl
      unfold one
      simp only [isD_notL c hc, hc, Bool.true_or, if_true, Bool.false_eq_true, if_false, hnum, Option.map_some]
  by_cases k3 : k = 3
  · subst k3
    have hn0 : n = 0 := by rcases hn with h | h; exact h; exact absurd h (by decide)
    subst hn0
    rw [if_neg (by decide), if_pos rfl]
    have hq := quotes_back s r
    refine ⟨?_, by simp [quoteB]⟩
    have e : quoteB s ++ r = 34 :: (s.flatMap quoted1 ++ [34] ++ r) := by simp [quoteB]
    rw [e] at hq ⊢
    unfold one
    simp only [show isL 34 = false by decide, show isD 34 = false by decide, show ((34 : UInt8) == 39) = false by decide, show ((34 : UInt8) == 34) = true by decide, Bool.false_or, Bool.false_eq_true, if_false, if_true, hq, Option.map_some]
  by_cases k4 : k = 4
  · subst k4
    simp only [show ¬ ((4 : Int) = 1) by decide, show ¬ ((4 : Int) = 2) by decide, show ¬ ((4 : Int) = 3) by decide, if_false, if_true] at hf
    have hn0 : n = 0 := by rcases hn with h | h; exact h; exact absurd h (by decide)
    subst hn0
    rw [if_neg (by decide), if_neg (by decide)]
    rcases sign_cases hf with rfl | rfl | ⟨c, rfl, hc⟩
    · exact ⟨by simp [one, isL, isD, signN], by simp⟩
    · exact ⟨by simp [one, isL, isD, signN], by simp⟩
    · obtain ⟨h1, h2, h3, h4, h5, h6, _, _⟩ := sign_byte c hc
      have hs : signN (c :: r) = 1 := by rw [signN, if_neg (by simp [h5, h6]), if_pos hc]
      refine ⟨?_, ?_⟩
      · show one (c :: r) = _
        unfold one
        simp [h1, h2, h3, h4, hs]
      · intro e
        have e1 : c = 47 := by
          cases r <;> simp at e
          exact e.1
        subst e1
        have := hb.2 rfl
        cases r with
        | nil => cases e
        | cons d y => simp at e; rw [e] at this; exact this rfl
  · simp only [k1, k2, k3, k4, if_false] at hf
    cases hf
theorem text_len {t : Tok} (h : mayP t = true) : 1 ≤ (textB t).length := by
  cases ht : textB t with
  | cons c y => simp
  | nil =>
    obtain ⟨h1, _⟩ := one_text (t := t) (r := []) h ⟨(fun _ c hc => by cases hc), (fun _ => by simp)⟩
    rw [ht] at h1
    cases h1
/-- the first byte of a token's text -/
theorem head_text {t : Tok} (h : mayP t = true) : (wordyB t = false → ∀ c, (textB t).head? = some c → isLD c = false) ∧ (slashB t = false → (textB t).head? ≠ some 47) ∧ (∀ c, (textB t).head? = some c → isBl c = false) := by
  obtain ⟨k, s, n, p⟩ := t
  simp only [mayP, fitsP, Bool.and_eq_true, Bool.or_eq_true, beq_iff_eq, decide_eq_true_eq] at h
  obtain ⟨⟨hn, hf⟩, hn2⟩ := h
  unfold textB wordyB slashB
  simp only
  by_cases k1 : k = 1
  · subst k1
    simp only [if_true] at hf
    obtain ⟨ha, c, s1, rfl, hc⟩ := nameB_all hf
    have c47 : c ≠ 47 := by intro e; rw [e] at hc; revert hc; decide
    have hb : isBl c = false := by
      cases hb : isBl c with
      | false => rfl
      | true => have := (bl_ld c hb).2.1; rw [hc] at this; cases this
    simp [c47, hb]
  by_cases k2 : k = 2
  · subst k2
    have ha := dec_all n
    cases hd : Lib.decDigits n with
    | nil => exact absurd hd (dec_ne n)
    | cons c y =>
      rw [hd] at ha
      have hc : isD c = true := by rw [List.all_cons, Bool.and_eq_true] at ha; exact ha.1
      have c47 : c ≠ 47 := by intro e; rw [e] at hc; revert hc; decide
      have hb : isBl c = false := by
        cases hb : isBl c with
        | false => rfl
        | true => have := (bl_ld c hb).2.2.1; rw [hc] at this; cases this
      simp [c47, hb]
  by_cases k3 : k = 3
  · subst k3
    simp [quoteB, isLD, isL, isD, isBl]
  by_cases k4 : k = 4
  · subst k4
    simp only [show ¬ ((4 : Int) = 1) by decide, show ¬ ((4 : Int) = 2) by decide, show ¬ ((4 : Int) = 3) by decide, if_false, if_true] at hf
    rcases sign_cases hf with rfl | rfl | ⟨c, rfl, hc⟩
    · simp [isLD, isL, isD, isBl]
    · simp [isLD, isL, isD, isBl]
    · obtain ⟨h1, h2, h3, h4, h5, h6, h7, h8⟩ := sign_byte c hc
      simp [h7, h8]
  · simp only [k1, k2, k3, k4, if_false] at hf
    cases hf

/-- what may be behind the token: nothing, or the rest of the line -/
theorem behind_rest {t : Tok} (T : List Tok) (hT : ∀ x ∈ T, mayP x = true) : Behind t (printF (some t) T) := by
  cases T with
  | nil => exact ⟨(fun _ c hc => by cases hc), (fun _ => by simp [printF])⟩
  | cons u T =>
    have hu := hT u (by simp)
    obtain ⟨g1, g2, g3⟩ := head_text hu
    have hl := text_len hu
    by_cases hp : partedP t u = true
    · have e : printF (some t) (u :: T) = 32 :: (textB u ++ printF (some u) T) := by simp [printF, gapB, hp]
      rw [e]
      exact ⟨(fun _ c hc => by cases hc; decide), (fun _ => by simp)⟩
    · have e : printF (some t) (u :: T) = textB u ++ printF (some u) T := by simp [printF, gapB, hp]
      have hh : (textB u ++ printF (some u) T).head? = (textB u).head? := by
        cases hx : textB u with
        | nil => rw [hx] at hl; simp at hl
        | cons c y => rfl
      rw [e]
      unfold Behind
      rw [hh]
      have hp2 : partedP t u = false := by simpa using hp
      unfold partedP at hp2
      rw [Bool.or_eq_false_iff] at hp2
      refine ⟨fun hw => g1 ?_, fun hs => g2 ?_⟩
      · have := hp2.1; rw [hw] at this; simpa using this
      · have := hp2.2; rw [hs] at this; simpa using this
theorem print_lex : ∀ (T : List Tok) (q : Option Tok) (at_ : Nat), (∀ x ∈ T, mayP x = true) → (lexS at_ (printF q T)).1.map plainT = T.map plainT ∧ (lexS at_ (printF q T)).2.2 = 0 ∧ (lexS at_ (printF q T)).2.1 = at_ + (printF q T).length
  | [], q, at_, _ => by
    have : printF q [] = [] := by cases q <;> rfl
    rw [this, lexS_end (by rfl)]
    exact ⟨rfl, rfl, rfl⟩
  | t :: T, q, at_, h => by
    have ht := h t (by simp)
    have hT : ∀ x ∈ T, mayP x = true := fun x hx => h x (by simp [hx])
    obtain ⟨h1, h2⟩ := one_text ht (behind_rest (t := t) T hT)
    have hl := text_len ht
    have hg : (gapB q t).all isBl = true := by
      cases q with
      | none => rfl
      | some a =>
        show (if partedP a t = true then [32] else ([] : Bs)).all isBl = true
        split <;> rfl
    have hnb : ∀ c, (textB t ++ printF (some t) T).head? = some c → isBl c = false := by
      intro c hc
      refine (head_text ht).2.2 c ?_
      cases hx : textB t with
      | nil => rw [hx] at hl; simp at hl
      | cons d y => rw [hx] at hc; exact hc
    have hsp := skip_pre hg hnb h2
    have e : printF q (t :: T) = gapB q t ++ (textB t ++ printF (some t) T) := by rw [printF, List.append_assoc]
    rw [e]
    have hne : (gapB q t ++ (textB t ++ printF (some t) T)).drop (skipB (gapB q t ++ (textB t ++ printF (some t) T))) ≠ [] := by
      rw [hsp.1, hsp.2]
      intro e
      have := congrArg List.length e
      rw [List.length_append, List.length_nil] at this
      omega
    have hst := lexS_step (at_ := at_) hne (by rw [hsp.1, hsp.2]; exact h1)
    rw [hst]
    have hd : ((gapB q t ++ (textB t ++ printF (some t) T)).drop (skipB (gapB q t ++ (textB t ++ printF (some t) T)))).drop (textB t).length = printF (some t) T := by
      rw [hsp.1, hsp.2]; simp
    rw [hd]
    have ih := print_lex T (some t) (at_ + skipB (gapB q t ++ (textB t ++ printF (some t) T)) + (textB t).length) hT
    refine ⟨by rw [List.map_cons, List.map_cons, ih.1]; rfl, ih.2.1, ?_⟩
    show (lexS _ _).2.1 = _
    rw [ih.2.2, hsp.1]
    simp only [List.length_append]
    omega
/-- what was printed is read as it was, but for places -/
theorem print_back (T : List Tok) (hT : ∀ x ∈ T, mayP x = true) (hl : (printF none T).length ≤ 512) : (lexB (printF none T)).1.map plainT = T.map plainT ∧ (lexB (printF none T)).2.2 = 0 ∧ (lexB (printF none T)).2.1 = (printF none T).length := by
  have h := print_lex T none 0 hT
  have e : lineB (printF none T) = lexS 0 (printF none T) := by unfold lineB; rw [if_neg (by omega)]
  have e2 : lexB (printF none T) = lexS 0 (printF none T) := by unfold lexB; rw [e, if_pos h.2.1]
  rw [e2]
  exact ⟨h.1, h.2.1, by rw [h.2.2]; omega⟩
end Go.Proofs.YtdkflmpdelfgoaaGreatDoor
