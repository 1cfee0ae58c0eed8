/-
  What each call of Lex returns. Conditions: what the variables of the library hold (Good), and the sizes that each lemma states.
-/
import Derived.Test.YtdkflmpdelfgoaaGreatDoorLexQ
import Derived.Laws.ResultCell
import Derived.RangeFuncBox
namespace Go.Proofs.YtdkflmpdelfgoaaGreatDoor
open Go.RowKit Go.Shelf
attribute [local go_sem] Oper.semAt_some

theorem boxed_any {X Y : World} {B : Nat} {t : TypeId} {v : Value} {row : Option Nat} (hv : Boxed X B t v) (hg : X.grownBy Y row) (hrow : ∀ r, row = some r → ∃ o : Obj, X.heap[r]? = some o ∧ o.isCells = false) : Boxed Y B t v :=
  hv.kept hg (fun e' => by
    obtain ⟨o, ho, hc⟩ := hrow B e'.symm
    rw [show X.heap[B]? = _ from hv] at ho; cases ho; cases hc)
theorem boxed_set {X : World} {B C : Nat} {t : TypeId} {v u : Value} (h : Boxed X B t v) (hne : B ≠ C) : Boxed (X.setCell ⟨C, 0, none⟩ u) B t v :=
  (Below.heap_setCell _ _ _ _ hne).trans h
theorem boxed_same {X : World} {B : Nat} {t : TypeId} {v : Value} (h : Boxed X B t v) (u : Value) : Boxed (X.setCell ⟨B, 0, none⟩ u) B t u := by
  unfold Boxed at *
  simp only [World.setCell, Array.getElem?_modify, if_true, h, Option.map_some]
  rfl
theorem boxed_below {X Y : World} {B : Nat} {t : TypeId} {v : Value} (h : Boxed X B t v) (hb : Below X.heap.size X Y) : Boxed Y B t v := (hb.block B (heap_lt h)).trans h
theorem tabs_grown {A B : World} {row : Option Nat} (h : A.grownBy B row) (hr : ∀ r, row = some r → ∃ c t z, A.heap[r]? = some (.cells c t z) ∧ isTab t = false) : KeepsTabs A B := by
  intro b c t z ht hb
  by_cases e : some b = row
  · obtain ⟨c', t', z', h1, h2⟩ := hr b e.symm
    rw [hb] at h1
    injection h1 with h1
    injection h1 with _ h3 _
    subst h3
    rw [ht] at h2; cases h2
  · exact (h.block b (Array.getElem?_eq_some_iff.1 hb).1 e).trans hb
theorem KeepsTabs.trans {A B C : World} (h : KeepsTabs A B) (k : KeepsTabs B C) : KeepsTabs A C := fun b c t z ht hb => k b c t z ht (h b c t z ht hb)
theorem own_tab {W : World} {base size N : Nat} {t : TypeId} {v : Value} {xs : List Value} (h : W.ownsRow base t size v N xs) (ht : isTab t = false) : ∀ r, v.ownBlock = some r → ∃ c t z, W.heap[r]? = some (.cells c t z) ∧ isTab t = false := by
  intro r hr
  rcases h.2 with ⟨h1, _⟩ | ⟨g, cap, cur, h1, h2, h3, _⟩
  · rw [h1] at hr; cases hr
  · rw [h1] at hr; cases hr; exact ⟨_, _, _, h3, ht⟩
theorem kt_put {n : Nat} {w0 : World} (hn : n ≤ w0.heap.size) (W : World) (l : Nat) (o o' : Obj) (hl : w0.heap.size ≤ l) (h : W.heap[l]? = some o) (ho : o.isCells = false) : Kt n W (W.putObj l o') :=
  ⟨{ os := rfl, tape := rfl, output := rfl, size := by rw [World.putObj_size]; exact Nat.le_refl _, block := fun j hj => World.putObj_heap_other (by omega) }, tabs_put h ho⟩
theorem cells_kept {X Y : World} {b : Nat} {c : Array Value} {t : TypeId} {z : Nat × Nat} {row : Option Nat} (h : X.heap[b]? = some (.cells c t z)) (hg : X.grownBy Y row) (hr : ∀ r, row = some r → ∃ o : Obj, X.heap[r]? = some o ∧ o.isCells = false) : Y.heap[b]? = some (.cells c t z) :=
  (hg.block b (heap_lt h) (fun e => by
    obtain ⟨o, ho, hc⟩ := hr b e.symm
    rw [h] at ho; cases ho; cases hc)).trans h
theorem own_ne {W : World} {base size N : Nat} {B : Nat} {t t' : TypeId} {v u : Value} {xs : List Value} (h : W.ownsRow base t size v N xs) (hb : Boxed W B t' u) (hne : t' ≠ t) : some B ≠ v.ownBlock := by
  intro e
  rcases h.2 with ⟨h1, _⟩ | ⟨g, cap, cur, h1, h2, h3, _⟩
  · rw [h1] at e; cases e
  · have e' : B = g := by rw [h1] at e; exact Option.some.inj e
    rw [← e', show W.heap[B]? = _ from hb] at h3
    cases h3; exact hne rfl
theorem own_slice {W : World} {base size N : Nat} {t : TypeId} {v : Value} {xs : List Value} (h : W.ownsRow base t size v N xs) : ∃ b l c, v = .slice b l c := by
  rcases h.2 with ⟨h1, _⟩ | ⟨g, cap, cur, h1, _⟩
  · exact ⟨_, _, _, h1⟩
  · exact ⟨_, _, _, h1⟩
theorem enters_pieces : ∀ args w, (callFunc 31 args).run Tryz.prog w = .ok (.enter 31 args) w := enters_of Tryz.func31 (by kernel_rfl) rfl
/-- the tokens ahead of what is wrong -/
def toksOf (l : List Pc) : List Tok := (l.filter fun x => x.e == 0).map tokOf
/-- where a line ends, or is wrong -/
def endOf (len : Nat) : List Pc → Nat × Int
  | [] => (len, 0)
  | x :: r => if x.e = 0 then endOf len r else (x.p.toNat, x.e)
theorem lex_pieces : ∀ (f at_ : Nat) (s : Bs), s.length < f → lexF f at_ s = (toksOf (piecesF f at_ s), endOf (at_ + s.length) (piecesF f at_ s))
  | 0, _, _, h => by omega
  | f + 1, at_, s, h => by
    rw [lexF, piecesF]
    by_cases h0 : s.drop (skipB s) = []
    · rw [if_pos h0, if_pos h0]; rfl
    · rw [if_neg h0, if_neg h0]
      cases ho : one (s.drop (skipB s)) with
      | none =>
        simp only
        have := errO_ne (s.drop (skipB s))
        simp [toksOf, endOf, this]; omega
      | some x =>
        obtain ⟨k, t, n, z⟩ := x
        have hz := one_le ho
        have hsk := skip_le s
        rw [List.length_drop] at hz
        simp only
        rw [lex_pieces f _ _ (by rw [List.length_drop, List.length_drop]; omega), List.length_drop, List.length_drop]
        rw [show at_ + skipB s + z + (s.length - skipB s - z) = at_ + s.length by omega]
        simp [toksOf, endOf, tokOf]
theorem pieces_len : ∀ (f at_ : Nat) (s : Bs), (piecesF f at_ s).length ≤ s.length
  | 0, _, _ => by rw [piecesF]; exact Nat.zero_le _
  | f + 1, at_, s => by
    rw [piecesF]
    by_cases h0 : s.drop (skipB s) = []
    · rw [if_pos h0]; exact Nat.zero_le _
    · have hl : 1 ≤ s.length := by
        rcases Nat.eq_zero_or_pos s.length with h | h
        · rw [List.length_eq_zero_iff.1 h] at h0; exact absurd (by simp) h0
        · exact h
      rw [if_neg h0]
      cases ho : one (s.drop (skipB s)) with
      | none => exact hl
      | some x =>
        obtain ⟨k, t, n, z⟩ := x
        have hz := one_le ho
        have := pieces_len f (at_ + skipB s + z) ((s.drop (skipB s)).drop z)
        rw [List.length_drop, List.length_drop] at this
        simp only [List.length_cons]
        omega
theorem lexS_pieces (s : Bs) : lexS 0 s = (toksOf (piecesS 0 s), endOf s.length (piecesS 0 s)) := by
  unfold lexS piecesS
  rw [lex_pieces _ _ _ (Nat.lt_succ_self _), Nat.zero_add]
theorem lexB_of {s : Bs} (h : s.length ≤ 512) : lexB s = if (endOf s.length (piecesS 0 s)).2 = 0 then (toksOf (piecesS 0 s), endOf s.length (piecesS 0 s)) else ([], endOf s.length (piecesS 0 s)) := by
  have h1 : lineB s = (toksOf (piecesS 0 s), endOf s.length (piecesS 0 s)) := by unfold lineB; rw [if_neg (by omega), lexS_pieces]
  unfold lexB; rw [h1]
theorem endOf_ok (len : Nat) : ∀ l : List Pc, (∀ x ∈ l, x.e = 0) → endOf len l = (len, 0) ∧ toksOf l = l.map tokOf
  | [], _ => ⟨rfl, rfl⟩
  | x :: r, h => by
    have hx := h x (by simp)
    obtain ⟨h1, h2⟩ := endOf_ok len r (fun y hy => h y (by simp [hy]))
    refine ⟨by rw [endOf, if_pos hx, h1], ?_⟩
    unfold toksOf at h2 ⊢
    rw [List.filter_cons, if_pos (by simp [hx]), List.map_cons, h2, List.map_cons]
theorem endOf_bad (len : Nat) : ∀ (l : List Pc) (x : Pc) (r : List Pc), (∀ y ∈ l, y.e = 0) → x.e ≠ 0 → endOf len (l ++ x :: r) = (x.p.toNat, x.e)
  | [], x, r, _, hx => by rw [List.nil_append, endOf, if_neg hx]
  | y :: l, x, r, h, hx => by rw [List.cons_append, endOf, if_pos (h y (by simp)), endOf_bad len l x r (fun z hz => h z (by simp [hz])) hx]

theorem pieces_pos : ∀ (f at_ : Nat) (s : Bs) (y : Pc), y ∈ piecesF f at_ s → 0 ≤ y.p
  | 0, _, _, y, h => by rw [piecesF] at h; cases h
  | f + 1, at_, s, y, h => by
    rw [piecesF] at h
    by_cases h0 : s.drop (skipB s) = []
    · rw [if_pos h0] at h; cases h
    · rw [if_neg h0] at h
      cases ho : one (s.drop (skipB s)) with
      | none =>
        rw [ho] at h
        simp only [List.mem_singleton] at h
        rw [h]; simp; omega
      | some x =>
        obtain ⟨k, t, n, z⟩ := x
        rw [ho] at h
        simp only [List.mem_cons] at h
        rcases h with h | h
        · rw [h]; simp; omega
        · exact pieces_pos f _ _ y h

theorem cell_four_new (w : World) (x y z u : Value) (t : TypeId) : ∀ j v, [x, y, z, u][j]? = some v → (w.alloc (.cells #[x, y, z, u] t)).cell? ((⟨w.heap.size, 0, none⟩ : Addr).add j) = some v := by
  intro j v h
  simp only [World.cell?, World.alloc, Addr.add, Nat.zero_add]
  match j, h with
  | 0, h => simpa using h
  | 1, h => simpa using h
  | 2, h => simpa using h
  | 3, h => simpa using h
/-- the cells of tokens -/
def tokC (T : List Tok) : List Value := T.flatMap fun x => [.int .i64 x.k, .string ⟨x.t.toArray⟩, .int .u64 (x.n : Int), .int .i64 x.p]
theorem tokC_snoc (T : List Tok) (x : Tok) : tokC (T ++ [x]) = tokC T ++ [.int .i64 x.k, .string ⟨x.t.toArray⟩, .int .u64 (x.n : Int), .int .i64 x.p] := by simp [tokC]
theorem pieces_any (line : ByteArray) (w : World) :
    Calls Tryz.prog 19 #[.string line] w fun e w' => e = .returned (.func (.func 31) #[] #[.pointer (some ⟨w.heap.size, 0, none⟩)]) ∧ w' = w.alloc (.cells #[.string line] 9) := by
  go_enter Tryz.func19, Tryz.ntmps19
  go_wp2
  go_ret
  exact ⟨rfl, rfl⟩
theorem infoTok : (Tryz.prog.info? 62).map (fun i => (i.zero, i.size, i.bytes)) = some (some (.agg #[.int .i64 0, .string ⟨#[]⟩, .int .u64 0, .int .i64 0]), 4, 40) := by kernel_rfl

/-- what Lex answers -/
def LexOut (n₀ : Nat) (s : Bs) (e : Ending) (w' : World) : Prop := ∃ v, e = .returned (.tuple #[v, .int .i64 ((lexB s).2.1 : Int), .int .i64 (lexB s).2.2]) ∧ w'.ownsRow n₀ 62 4 v (lexB s).1.length (tokC (lexB s).1)
set_option maxRecDepth 100000 in
set_option maxHeartbeats 2000000 in
theorem lex_long (line : ByteArray) (w : World) (hs : 512 < line.size) (hm : line.size ≤ maxLen) :
    Calls Tryz.prog 9 #[.string line] w fun e w' => LexOut w.heap.size line.data.toList e w' ∧ Below w.heap.size w w' := by
  unfold maxLen at hm
  have hs' : 512 < (line.size : Int) := by omega
  have E : lexB line.data.toList = ([], 0, 3) := by
    have h1 : lineB line.data.toList = ([], 0, 3) := by unfold lineB; rw [if_pos (by rw [← size_list]; exact hs)]
    unfold lexB; rw [h1]; rfl
  unfold LexOut
  rw [E]
  clear E hs
  go_enter Tryz.func9, Tryz.ntmps9
  go_wp2_with fail
  exact bodyPost_ret (v := .tuple #[.slice none 0 0, .int .i64 0, .int .i64 3]) (by simp [results, Tryz.results9, go_sem]) rfl ⟨⟨_, rfl, World.ownsRow_nil _ _ _ _⟩, ((below1 w _).alloc (by simp) _).alloc (by simp; omega) _⟩

set_option maxRecDepth 100000 in
set_option maxHeartbeats 8000000 in
theorem lex_short (line : ByteArray) (w : World) (hG : Good w) (hs : line.size ≤ 512) :
    Calls Tryz.prog 9 #[.string line] w fun e w' => LexOut w.heap.size line.data.toList e w' ∧ Below w.heap.size w w' := by
  obtain ⟨i0, hi, hz0', hz1, hz2⟩ := info_parts infoTok
  have E := lexB_of (s := line.data.toList) (by rw [← size_list]; exact hs)
  rw [← size_list] at E
  have HE := Lib.hid E
  have PA := Lib.hid (fun w => pieces_any line w)
  have PT := Lib.hid (fun (bl n : Nat) (W : World) (hb : Below w.heap.size w W) (hbl : W.heap[bl]? = some (.cells #[.string line] 9 (0, 0))) => pieces_tells line bl n w.heap.size W (hG.thn hb) hG.size hb.size hs hbl)
  clear E
  refine (callsIn_wide (n := 7)).1 ?_
  refine callsIn_of_wp_marks Tryz.func9 rfl trivial ?_ rfl
  simp only [Tryz.ntmps9, List.size_toArray, List.length_cons, List.length_nil, Nat.reduceAdd, Nat.reduceSub, Array.replicate_succ, Array.replicate_zero, List.push_toArray, List.append_toArray, List.nil_append, List.cons_append]
  gi_wp2_with fail
  refine ⟨trivial, ?_⟩
  refine (callsIn_wide.2 (PA.out _)).mono ?_
  rintro e w1 ⟨rfl, rfl⟩
  gi_wp2_with fail
  have b0 := ((((Boxed.new w 29 (.slice none 0 0)).alloc (.cells #[.int .i64 0] 3)).alloc (.cells #[.int .i64 0] 25)).alloc (.cells #[.slice none 0 0] 29)).alloc (.cells #[.string line] 9)
  have b1 := (((Boxed.new (w.alloc (.cells #[.slice none 0 0] 29)) 3 (.int .i64 0)).alloc (.cells #[.int .i64 0] 25)).alloc (.cells #[.slice none 0 0] 29)).alloc (.cells #[.string line] 9)
  have b2 := ((Boxed.new ((w.alloc (.cells #[.slice none 0 0] 29)).alloc (.cells #[.int .i64 0] 3)) 25 (.int .i64 0)).alloc (.cells #[.slice none 0 0] 29)).alloc (.cells #[.string line] 9)
  have b3 := (Boxed.new (((w.alloc (.cells #[.slice none 0 0] 29)).alloc (.cells #[.int .i64 0] 3)).alloc (.cells #[.int .i64 0] 25)) 29 (.slice none 0 0)).alloc (.cells #[.string line] 9)
  have b4 := Boxed.new ((((w.alloc (.cells #[.slice none 0 0] 29)).alloc (.cells #[.int .i64 0] 3)).alloc (.cells #[.int .i64 0] 25)).alloc (.cells #[.slice none 0 0] 29)) 9 (.string line)
  have hB0 : Below w.heap.size w (((((w.alloc (.cells #[.slice none 0 0] 29)).alloc (.cells #[.int .i64 0] 3)).alloc (.cells #[.int .i64 0] 25)).alloc (.cells #[.slice none 0 0] 29)).alloc (.cells #[.string line] 9)) :=
    (((((Below.refl _ w).alloc (Nat.le_refl _) _).alloc (by simp) _).alloc (by simp; omega) _).alloc (by simp; omega) _).alloc (by simp; omega) _
  have hz0 : (((((w.alloc (.cells #[.slice none 0 0] 29)).alloc (.cells #[.int .i64 0] 3)).alloc (.cells #[.int .i64 0] 25)).alloc (.cells #[.slice none 0 0] 29)).alloc (.cells #[.string line] 9)).heap.size = w.heap.size + 5 := by simp
  simp only [World.size_alloc] at b1 b2 b3 b4
  generalize ((((w.alloc (.cells #[.slice none 0 0] 29)).alloc (.cells #[.int .i64 0] 3)).alloc (.cells #[.int .i64 0] 25)).alloc (.cells #[.slice none 0 0] 29)).alloc (.cells #[.string line] 9) = W0 at *
  have hn0 : w.heap.size ≤ W0.heap.size := by omega
  have hN : (piecesS 0 line.data.toList).length ≤ 512 := Nat.le_trans (pieces_len _ _ _) (by rw [← size_list]; exact hs)
  have hown : Own (fun (s : List Pc) V => ∃ v, Boxed V (w.heap.size + 1 + 1 + 1) 29 v ∧ V.ownsRow w.heap.size 62 4 v s.length (tokC (s.map tokOf)) ∧ ∀ y ∈ s, y.e = 0) :=
    holdsRow_own w.heap.size (w.heap.size + 1 + 1 + 1) 29 62 4 (fun s : List Pc => s.length) (fun s => tokC (s.map tokOf)) (fun s _ => ∀ y ∈ s, y.e = 0)
  generalize hT : piecesS 0 line.data.toList = T at *
  refine' range_tellsS (Fr := Kt w.heap.size) Kt.trans (fun W l o o' hl h ho _ => kt_put hn0 W l o o' hl h ho) (gf := 31) (lb := #[.pointer (some ⟨w.heap.size + 1 + 1 + 1 + 1, 0, none⟩)]) rfl enters_pieces
    (PT.out (w.heap.size + 1 + 1 + 1 + 1) _ _ hB0 b4) (Below.refl _ _) (fun _ => rfl)
    (fun pre V => ((Boxed V w.heap.size 29 (.slice none 0 0) ∧ Boxed V (w.heap.size + 1) 3 (.int .i64 0) ∧ Boxed V (w.heap.size + 1 + 1) 25 (.int .i64 0)) ∧
      (∃ v, Boxed V (w.heap.size + 1 + 1 + 1) 29 v ∧ V.ownsRow w.heap.size 62 4 v pre.length (tokC (pre.map tokOf)) ∧ ∀ y ∈ pre, y.e = 0)) ∧ Below w.heap.size w V)
    (fun c pre V => (c = .ret ∧ ∃ l x, pre = l ++ [x] ∧ (Boxed V w.heap.size 29 (.slice none 0 0) ∧ Boxed V (w.heap.size + 1) 3 (.int .i64 x.p) ∧ Boxed V (w.heap.size + 1 + 1) 25 (.int .i64 x.e)) ∧ x.e ≠ 0 ∧ ∀ y ∈ l, y.e = 0) ∧ Below w.heap.size w V)
    (OwnFrom.and (Own.from (fun s A C row hs hg hr => ⟨⟨boxed_any hs.1.1 hg hr, boxed_any hs.1.2.1 hg hr, boxed_any hs.1.2.2 hg hr⟩, hown s A C row hs.2 hg hr⟩) _) (ownFrom_below (Nat.le_refl _) hn0))
    (fun c => OwnFrom.and (Own.from (fun _ A C row hs hg hr => by
      obtain ⟨rfl, l, x, rfl, a3, a4⟩ := hs
      exact ⟨rfl, l, x, rfl, ⟨boxed_any a3.1 hg hr, boxed_any a3.2.1 hg hr, boxed_any a3.2.2 hg hr⟩, a4⟩) _) (ownFrom_below (Nat.le_refl _) hn0))
    ⟨⟨⟨b0, b1, b2⟩, _, b3, World.ownsRow_nil _ _ _ _, fun y hy => by cases hy⟩, hB0⟩
    (fun A B hA hAB => kt_below (by omega) hAB)
    (fun x a₁ V => ∃ b, w.heap.size + 5 ≤ b ∧ a₁ = { tmps := #[.string line, undef, .pointer (some ⟨w.heap.size, 0, none⟩), .pointer (some ⟨w.heap.size + 1, 0, none⟩), .pointer (some ⟨w.heap.size + 1 + 1, 0, none⟩), .pointer (some ⟨w.heap.size + 1 + 1 + 1, 0, none⟩), .pointer (some ⟨b, 0, none⟩), .string line, .int .i64 (line.size : Int), .bool (decide (512 < (line.size : Int))), .string line, .func (.func 31) #[] #[.pointer (some ⟨w.heap.size + 1 + 1 + 1 + 1, 0, none⟩)], pcV x.k x.t x.n x.p x.z x.e, undef, undef, undef, undef, undef, undef, undef, undef, undef, undef, undef, undef, undef, undef, undef, undef], defers := [] } ∧ V.heap[b]? = some (.cells (pcC x.k x.t x.n x.p x.z x.e) 64 (0, 0)))
    ?hAs ?hassign ?hbody ?hdone ?hstop
  case hAs =>
    refine Own.from ?_ _
    rintro s A C row ⟨b, hb, hs, hc⟩ hg hr
    exact ⟨b, hb, hs, cells_kept hc hg hr⟩
  case hassign =>
    intro m l x V K hV hK
    simp only [encP]
    unfold pcV
    gi_wp2
    refine hK _ _ (below1 V _) ⟨V.heap.size, by omega, rfl, heap_alloc_new V _⟩
  case hbody =>
    rintro m l pre x a1 V hl ⟨⟨⟨c0, c1, c2⟩, v, hv, hrow, hall⟩, hbel⟩ ⟨b, hb, rfl, hbx⟩ hlt
    have hc := hv.cell
    have hz : w.heap.size ≤ V.heap.size := hbel.size
    have hcap : pre.length + 1 ≤ 512 := by omega
    have HTB := Lib.hid (own_tab hrow rfl)
    have HV := Lib.hid hv
    have hbl := heap_lt hbx
    have p0 : V.cell? ⟨b, 0, none⟩ = some (.int .i64 x.k) := by rw [Lib.cell_of_heap hbx]; rfl
    have p1 : V.cell? ⟨b, 1, none⟩ = some (.string ⟨x.t.toArray⟩) := by rw [Lib.cell_of_heap hbx]; rfl
    have p2 : V.cell? ⟨b, 2, none⟩ = some (.int .u64 (x.n : Int)) := by rw [Lib.cell_of_heap hbx]; rfl
    have p3 : V.cell? ⟨b, 3, none⟩ = some (.int .i64 x.p) := by rw [Lib.cell_of_heap hbx]; rfl
    have p5 : V.cell? ⟨b, 5, none⟩ = some (.int .i64 x.e) := by rw [Lib.cell_of_heap hbx]; rfl
    obtain ⟨D, hD⟩ : ∃ D, (⟨x.t.toArray⟩ : ByteArray) = D := ⟨_, rfl⟩
    by_cases he : x.e = 0
    · have he' : (x.e != 0) = false := by simp [he]
      rw [hD] at p1
      unfold pcV
      rw [hD]
      have HB := Lib.hid hbx
      have HE0 := Lib.hid he
      clear hbx hv he
      gi_wp2_with (gi_at_builtin; refine wpListIn_append_own _ rfl _ _ 29 rfl w.heap.size 62 i0 (.agg #[.int .i64 0, .string ⟨#[]⟩, .int .u64 0, .int .i64 0]) 4 40 Tryz.underlying29 hi hz0' hz1 hz2 rfl (by decide) _ _ _ rfl (hrow.alloc _) ⟨V.heap.size, 0, none⟩ 1 1 [.int .i64 x.k, .string D, .int .u64 (x.n : Int), .int .i64 x.p] rfl rfl (cell_four_new _ _ _ _ _ _) (by simp [Value.oneCell']) (by unfold maxLen; omega) (by omega) (by simp; omega) ?_; intro v' w1 hown' hgrow _; obtain ⟨g', cap', rfl⟩ := ownsRow_succ hown'; obtain ⟨hv1, hv2, hr2, hk2, hb2⟩ := HV.out.appended (by decide) hrow hz (by omega) hown' hgrow; have hc1 := hv1.cell; have hf1 := hv1.frozen)
      have k1 : KeepsTabs V w1 := (tabs_below (below1 V _)).trans (tabs_grown hgrow (fun r hr => by
        obtain ⟨c, t, z, h1, h2⟩ := HTB.out r hr
        exact ⟨c, t, z, (Below.heap_alloc _ _ _ (Array.getElem?_eq_some_iff.1 h1).1).trans h1, h2⟩))
      have k2 := k1.trans (tabs_set (o := 0) hv1 rfl (.slice (some ⟨g', 0, none⟩) (pre.length + 1) cap'))
      have hrA := hrow.alloc (.cells #[.int .i64 x.k, .string D, .int .u64 (x.n : Int), .int .i64 x.p] 62)
      have keep : ∀ {C : Nat} {t : TypeId} {u : Value}, Boxed V C t u → t ≠ 62 → C ≠ w.heap.size + 1 + 1 + 1 → Boxed (w1.setCell ⟨w.heap.size + 1 + 1 + 1, 0, none⟩ (.slice (some ⟨g', 0, none⟩) (pre.length + 1) cap')) C t u :=
        fun h ht hC => boxed_set ((h.alloc _).kept hgrow (own_ne hrA (h.alloc _) ht)) hC
      refine ⟨hk2.from _, ⟨hb2, k2⟩, ⟨⟨keep c0 (by decide) (by omega), keep c1 (by decide) (by omega), keep c2 (by decide) (by omega)⟩, _, hv2, ?_, ?_⟩, hbel.trans hb2⟩
      · rw [List.length_append, List.map_append, List.map_cons, List.map_nil, tokC_snoc]
        simp only [tokOf]
        rw [hD]
        exact hr2
      · intro y hy
        rcases List.mem_append.1 hy with h | h
        · exact hall y h
        · rw [List.mem_singleton.1 h]; exact HE0.out
    · have he' : (x.e != 0) = true := by simp [he]
      rw [hD] at p1
      unfold pcV
      rw [hD]
      have HB := Lib.hid hbx
      have HE0 := Lib.hid he
      have d0 := c0.cell
      have d1 := c1.cell
      have d2 := c2.cell
      have f0 := c0.frozen
      have f1 := c1.frozen
      have f2 := c2.frozen
      have hmix : Tryz.prog.follows .mixedOrders = true := by kernel_rfl
      have n0 : (b == w.heap.size) = false := by simp; omega
      clear hbx hv he
      have m0 := (c0.frozen)
      have e0 := boxed_set (C := w.heap.size + 1 + 1) (u := .int .i64 x.e) (boxed_set (C := w.heap.size + 1) (u := .int .i64 x.p) (boxed_same c0 (.slice none 0 0)) (by omega)) (by omega)
      have e1 := boxed_set (C := w.heap.size + 1 + 1) (u := .int .i64 x.e) (boxed_same (boxed_set (C := w.heap.size) (u := .slice none 0 0) c1 (by omega)) (.int .i64 x.p)) (by omega)
      have e2 := boxed_same (boxed_set (C := w.heap.size + 1) (u := .int .i64 x.p) (boxed_set (C := w.heap.size) (u := .slice none 0 0) c2 (by omega)) (by omega)) (.int .i64 x.e)
      have eb := ((hbel.setCell (p := ⟨w.heap.size, 0, none⟩) (by show w.heap.size ≤ w.heap.size; omega) (.slice none 0 0)).setCell (p := ⟨w.heap.size + 1, 0, none⟩) (by show w.heap.size ≤ w.heap.size + 1; omega) (.int .i64 x.p)).setCell (p := ⟨w.heap.size + 1 + 1, 0, none⟩) (by show w.heap.size ≤ w.heap.size + 1 + 1; omega) (.int .i64 x.e)
      have ek := (((KeepsOthers.setCell V ⟨w.heap.size, 0, none⟩ (.slice none 0 0)).trans (KeepsOthers.setCell _ ⟨w.heap.size + 1, 0, none⟩ (.int .i64 x.p))).trans (KeepsOthers.setCell _ ⟨w.heap.size + 1 + 1, 0, none⟩ (.int .i64 x.e))).from W0.heap.size
      have E0 := Lib.hid e0
      have E1 := Lib.hid e1
      have E2 := Lib.hid e2
      have EB := Lib.hid eb
      have EK := Lib.hid ek
      have HA := Lib.hid hall
      clear e0 e1 e2 eb ek hall m0
      gi_wp2_with fail
      gi_region_with_o (fail)
      all_goals gi_wp2_with fail
      all_goals refine ⟨⟨EK.out.size, EK.out.same⟩, ⟨rfl, pre, x, rfl, ⟨E0.out, E1.out, E2.out⟩, HE0.out, HA.out⟩, ?_⟩
      all_goals (repeat (first | exact EB.out | refine Below.drew ?_))
  case hdone =>
    rintro D ys V hD rfl ⟨⟨⟨c0, c1, c2⟩, v, hv, hrow, hall⟩, hbel⟩ hK
    obtain ⟨vb, vl, vc, rfl⟩ := own_slice hrow
    have hL : lexB line.data.toList = (ys.map tokOf, (line.size, 0)) := by
      obtain ⟨h1, h2⟩ := endOf_ok line.size ys hall
      rw [HE.out, h1, h2]; rfl
    have HL := Lib.hid hL
    have d0 := c0.cell
    have d1 := c1.cell
    have d2 := c2.cell
    have d3 := hv.cell
    have f0 := c0.frozen
    have f1 := c1.frozen
    have f2 := c2.frozen
    have e0 := boxed_set (C := w.heap.size + 1 + 1) (u := .int .i64 0) (boxed_set (C := w.heap.size + 1) (u := .int .i64 (line.size : Int)) (boxed_same c0 (.slice vb vl vc)) (by omega)) (by omega)
    have e1 := boxed_set (C := w.heap.size + 1 + 1) (u := .int .i64 0) (boxed_same (boxed_set (C := w.heap.size) (u := .slice vb vl vc) c1 (by omega)) (.int .i64 (line.size : Int))) (by omega)
    have e2 := boxed_same (boxed_set (C := w.heap.size + 1) (u := .int .i64 (line.size : Int)) (boxed_set (C := w.heap.size) (u := .slice vb vl vc) c2 (by omega)) (by omega)) (.int .i64 0)
    have eb := ((hbel.setCell (p := ⟨w.heap.size, 0, none⟩) (by show w.heap.size ≤ w.heap.size; omega) (.slice vb vl vc)).setCell (p := ⟨w.heap.size + 1, 0, none⟩) (by show w.heap.size ≤ w.heap.size + 1; omega) (.int .i64 (line.size : Int))).setCell (p := ⟨w.heap.size + 1 + 1, 0, none⟩) (by show w.heap.size ≤ w.heap.size + 1 + 1; omega) (.int .i64 0)
    have ek := (((KeepsOthers.setCell V ⟨w.heap.size, 0, none⟩ (.slice vb vl vc)).trans (KeepsOthers.setCell _ ⟨w.heap.size + 1, 0, none⟩ (.int .i64 (line.size : Int)))).trans (KeepsOthers.setCell _ ⟨w.heap.size + 1 + 1, 0, none⟩ (.int .i64 0))).same D _ hK rfl
    have er : (((V.setCell ⟨w.heap.size, 0, none⟩ (.slice vb vl vc)).setCell ⟨w.heap.size + 1, 0, none⟩ (.int .i64 (line.size : Int))).setCell ⟨w.heap.size + 1 + 1, 0, none⟩ (.int .i64 0)).ownsRow w.heap.size 62 4 (.slice vb vl vc) ys.length (tokC (ys.map tokOf)) :=
      ((hrow.kept (grownBy_setCell' _ _ _) (.inr (own_ne hrow c0 (by decide)).symm)).kept (grownBy_setCell' _ _ _) (.inr (own_ne hrow c1 (by decide)).symm)).kept (grownBy_setCell' _ _ _) (.inr (own_ne hrow c2 (by decide)).symm)
    have E0 := Lib.hid e0
    have E1 := Lib.hid e1
    have E2 := Lib.hid e2
    have EB := Lib.hid eb
    have EK := Lib.hid ek
    have ER := Lib.hid er
    clear e0 e1 e2 eb ek er hL hrow hall
    gi_wp2_with fail
    refine ⟨by simp, .inl ⟨_, _, rfl, run_takeDeferred EK.out, ?_⟩⟩
    have kp : ∀ {p : Addr} {v : Value}, World.cell? _ p = some v → (World.putObj _ D (.deferred none)).cell? p = some v := fun h => cell_kept h (grownBy_putObj' _ D (.deferred none)) (fun r e => by cases e; exact ⟨_, EK.out, rfl⟩)
    have q0 := kp E0.out.cell
    have q1 := kp E1.out.cell
    have q2 := kp E2.out.cell
    refine ⟨.tuple #[.slice vb vl vc, .int .i64 (line.size : Int), .int .i64 0], ?_, ⟨_, by rw [HL.out], ?_⟩, EB.out.trans (kt_put hn0 _ D _ _ hD EK.out rfl).1⟩
    · simp [results, Tryz.f9, go_sem, q0, q1, q2]
    · rw [HL.out]
      have := ownsRow_putObj ER.out (.deferred none) EK.out rfl
      rw [List.length_map]
      exact this
  case hstop =>
    rintro D c ys V hD hS ⟨⟨rfl, l, x, rfl, ⟨n1, n2, n3⟩, hx, hall⟩, hbel⟩ hK
    obtain ⟨r, hr⟩ := hS
    have hxp : 0 ≤ x.p := pieces_pos _ _ _ x (by unfold piecesS at hT; rw [hT, ← hr]; simp)
    have hL : lexB line.data.toList = ([], (x.p.toNat, x.e)) := by
      have h1 := endOf_bad line.size l x r hall hx
      rw [HE.out, ← hr, List.append_assoc, List.singleton_append, h1, if_neg hx]
    have HL := Lib.hid hL
    clear hL hr
    gi_wp2
    refine ⟨by simp, .inl ⟨_, _, rfl, run_takeDeferred hK, ?_⟩⟩
    have kp : ∀ {p : Addr} {v : Value}, World.cell? _ p = some v → (World.putObj _ D (.deferred none)).cell? p = some v := fun h => cell_kept h (grownBy_putObj' _ D (.deferred none)) (fun r e => by cases e; exact ⟨_, hK, rfl⟩)
    have q0 := kp n1.cell
    have q1 := kp n2.cell
    have q2 := kp n3.cell
    refine ⟨.tuple #[.slice none 0 0, .int .i64 x.p, .int .i64 x.e], ?_, ⟨_, by rw [HL.out, Int.toNat_of_nonneg hxp], ?_⟩, hbel.trans (kt_put hn0 _ D _ _ hD hK rfl).1⟩
    · simp [results, Tryz.f9, go_sem, q0, q1, q2]
    · rw [HL.out]; exact World.ownsRow_nil _ _ _ _

/-- LEX, AT ANY LINE -/
theorem lex_any (line : ByteArray) (w : World) (hG : Good w) (hm : line.size ≤ maxLen) :
    Calls Tryz.prog 9 #[.string line] w fun e w' => LexOut w.heap.size line.data.toList e w' ∧ Below w.heap.size w w' := by
  by_cases h : line.size ≤ 512
  · exact lex_short line w hG h
  · exact lex_long line w (by omega) hm
end Go.Proofs.YtdkflmpdelfgoaaGreatDoor
