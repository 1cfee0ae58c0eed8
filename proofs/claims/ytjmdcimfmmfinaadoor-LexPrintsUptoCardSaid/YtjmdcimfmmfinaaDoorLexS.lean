/-
  The iterator over a line's tokens: what it does for any body of a loop that leaves boxes of strings, pieces, kinds and yields alone. Conditions: what the variables of the library hold (Good), and the sizes that each lemma states.
-/
import Derived.Test.YtjmdcimfmmfinaaDoorLexR
namespace Go.Proofs.YtjmdcimfmmfinaaDoor
open Go.RowKit Go.Shelf
attribute [local go_sem] Oper.semAt_some

/-- a token as the one argument of a yield -/
def encT (x : Tok) : Array Value := #[.agg #[.int .i64 x.k, .string ⟨x.t.toArray⟩, .int .u64 (x.n : Int), .int .i64 x.p]]
theorem enters_tokens : ∀ args w, (callFunc 32 args).run Tryd.prog w = .ok (.enter 32 args) w := enters_of Tryd.func32 (by kernel_rfl) rfl
theorem line_long {s : Bs} (h : 512 < s.length) : lineB s = ([], 0, 3) := by unfold lineB; rw [if_pos h]
theorem line_short {s : Bs} (h : s.length ≤ 512) : lineB s = (toksOf (piecesS 0 s), endOf s.length (piecesS 0 s)) := by unfold lineB; rw [if_neg (by omega), lexS_pieces]
theorem toks_good (l : List Pc) (h : ∀ y ∈ l, y.e = 0) : toksOf l = l.map tokOf := (endOf_ok 0 l h).2
theorem toks_bad (l : List Pc) (x : Pc) (r : List Pc) (h : ∀ y ∈ l, y.e = 0) (hx : x.e ≠ 0) : toksOf (l ++ x :: r) = l.map tokOf ++ toksOf r := by
  have := toks_good l h
  unfold toksOf at *
  rw [List.filter_append, List.map_append, this, List.filter_cons, if_neg (by simp [hx])]
theorem toks_app (l r : List Pc) (h : ∀ y ∈ l, y.e = 0) : toksOf (l ++ r) = l.map tokOf ++ toksOf r := by
  have := toks_good l h
  unfold toksOf at *
  rw [List.filter_append, List.map_append, this]
theorem OwnFrom.more {β : Type} {B B' : Nat} {I : β → World → Prop} (h : OwnFrom B I) (hB : B ≤ B') : OwnFrom B' I := fun s A C row hs hg hr => h s A C row hs hg (fun r e => ⟨Nat.le_trans hB (hr r e).1, (hr r e).2⟩)
/-- behind a piece that is wrong there is none -/
theorem bad_last : ∀ (f at_ : Nat) (s : Bs) (l : List Pc) (x : Pc) (r : List Pc), piecesF f at_ s = l ++ x :: r → x.e ≠ 0 → r = []
  | 0, _, _, l, x, r, h, _ => by rw [piecesF] at h; simp at h
  | f + 1, at_, s, l, x, r, h, hx => by
    rw [piecesF] at h
    by_cases h0 : s.drop (skipB s) = []
    · rw [if_pos h0] at h; simp at h
    · rw [if_neg h0] at h
      cases ho : one (s.drop (skipB s)) with
      | none =>
        rw [ho] at h
        simp only at h
        cases l with
        | nil => rw [List.nil_append] at h; injection h with _ h; exact h.symm
        | cons y l => rw [List.cons_append] at h; injection h with _ h; simp at h
      | some q =>
        obtain ⟨k, t, n, z⟩ := q
        rw [ho] at h
        simp only at h
        cases l with
        | nil => rw [List.nil_append] at h; injection h with h1 h; rw [← h1] at hx; exact absurd rfl hx
        | cons y l => rw [List.cons_append] at h; injection h with _ h; exact bad_last f _ _ l x r h hx

set_option maxRecDepth 100000 in
set_option maxHeartbeats 8000000 in
theorem tokens_tells (line : ByteArray) (bl n n₀ : Nat) (w : World) (hG : Good w) (h6 : 6 ≤ n₀) (hn : n₀ ≤ w.heap.size) (hm : line.size ≤ maxLen) (hbl : w.heap[bl]? = some (.cells #[.string line] 9 (0, 0))) :
    TellsS (Kt n₀) n Tryd.prog 32 #[.pointer (some ⟨bl, 0, none⟩)] encT (fun xs => xs = (lineB line.data.toList).1) (fun pre => pre <+: (lineB line.data.toList).1) 512 w := by
  intro l J Jx V hV hJ hJx hY h0
  unfold maxLen at hm
  have hGV : Good V := hG.thn hV
  have hblV : V.heap[bl]? = some (.cells #[.string line] 9 (0, 0)) := (hV.block bl (heap_lt hbl)).trans hbl
  have hnV : n₀ ≤ V.heap.size := Nat.le_trans hn hV.size
  have clr : (V.alloc (.cells #[.func (.yield l) #[] #[]] 57)).cell? ⟨bl, 0, none⟩ = some (.string line) := by
    rw [Lib.cell_of_heap ((Below.heap_alloc _ _ _ (heap_lt hblV)).trans hblV)]; rfl
  by_cases hs : line.size ≤ 512
  · have hs' : (line.size : Int) ≤ 512 := by omega
    have HL := Lib.hid (line_short (s := line.data.toList) (by rw [← size_list]; exact hs))
    have hN : (piecesS 0 line.data.toList).length ≤ 512 := Nat.le_trans (pieces_len _ _ _) (by rw [← size_list]; exact hs)
    have PA := Lib.hid (fun w => pieces_any line w)
    have PT := Lib.hid (fun (bl n : Nat) (W : World) (hb : Below V.heap.size V W) (hbl : W.heap[bl]? = some (.cells #[.string line] 9 (0, 0))) => pieces_tells line bl n n₀ W (hGV.thn hb) h6 (Nat.le_trans hnV hb.size) hs hbl)
    have YH := Lib.hid hY
    have hJ0 := hJ.alloc (.cells #[.string line] 9) (hJ.alloc (.cells #[.func (.yield l) #[] #[]] 57) h0)
    have hB0 : Below V.heap.size V ((V.alloc (.cells #[.func (.yield l) #[] #[]] 57)).alloc (.cells #[.string line] 9)) := ((Below.refl _ V).alloc (Nat.le_refl _) _).alloc (by simp) _
    have hy0 := (Boxed.new V 57 (.func (.yield l) #[] #[])).alloc (.cells #[.string line] 9)
    have hl0 := Boxed.new (V.alloc (.cells #[.func (.yield l) #[] #[]] 57)) 9 (.string line)
    have hz0 : ((V.alloc (.cells #[.func (.yield l) #[] #[]] 57)).alloc (.cells #[.string line] 9)).heap.size = V.heap.size + 2 := by simp
    simp only [World.size_alloc] at hl0
    refine callsIn_of_wp_marks Tryd.func32 rfl trivial ?_ rfl
    simp only [Tryd.ntmps32, List.size_toArray, List.length_cons, List.length_nil, Nat.reduceAdd, Nat.reduceSub, Array.replicate_succ, Array.replicate_zero, List.push_toArray, List.append_toArray, List.nil_append, List.cons_append]
    have BL := Lib.hid hbl
    clear hY hG hV hbl hGV
    gi_wp2_with fail
    refine ⟨trivial, (fun h => absurd h (by decide)), ?_⟩
    refine (callsIn_wide.2 (PA.out _)).mono ?_
    rintro e w1 ⟨rfl, rfl⟩
    gi_wp2_with fail
    generalize (V.alloc (.cells #[.func (.yield l) #[] #[]] 57)).alloc (.cells #[.string line] 9) = W0 at *
    have hn0 : n₀ ≤ W0.heap.size := by omega
    generalize hT : piecesS 0 line.data.toList = T at *
    refine' range_tellsS (Fr := Kt n₀) Kt.trans (fun W l o o' hl h ho _ => kt_put hn0 W l o o' hl h ho) (gf := 54) (lb := #[.pointer (some ⟨V.heap.size + 1, 0, none⟩)]) rfl enters_pieces
      (PT.out (V.heap.size + 1) _ _ hB0 hl0) (Below.refl _ _) (fun _ => rfl)
      (fun pre X => (Boxed X V.heap.size 57 (.func (.yield l) #[] #[]) ∧ ∀ y ∈ pre, y.e = 0) ∧ J (pre.map tokOf) X)
      (fun c pre X => c = .ret ∧ ((∃ l x, pre = l ++ [x] ∧ x.e ≠ 0 ∧ (∀ y ∈ l, y.e = 0) ∧ J (l.map tokOf) X) ∨ ((∀ y ∈ pre, y.e = 0) ∧ Jx (pre.map tokOf) X)))
      (OwnFrom.and (Own.from (fun s A C row hs hg hr => ⟨boxed_any hs.1 hg hr, hs.2⟩) _) (fun (s : List Pc) A B row hs hg hr => OwnFrom.more (B' := W0.heap.size) hJ (by omega) (s.map tokOf) A B row hs hg hr))
      (fun c s A B row hs hg hr => ⟨hs.1, hs.2.elim (fun ⟨l, x, h1, h2, h3, h4⟩ => .inl ⟨l, x, h1, h2, h3, OwnFrom.more (B' := W0.heap.size) hJ (by omega) (l.map tokOf) A B row h4 hg hr⟩) (fun ⟨h1, h2⟩ => .inr ⟨h1, OwnFrom.more (B' := W0.heap.size) hJx (by omega) (s.map tokOf) A B row h2 hg hr⟩)⟩)
      ⟨⟨hy0, fun y hy => by cases hy⟩, hJ0⟩
      (fun A B hA hAB => kt_below (by omega) hAB)
      (fun x a₁ X => ∃ b, V.heap.size + 2 ≤ b ∧ a₁ = { tmps := #[.func (.yield l) #[] #[], .pointer (some ⟨bl, 0, none⟩), .pointer (some ⟨V.heap.size, 0, none⟩), .pointer (some ⟨b, 0, none⟩), .string line, .int .i64 (line.size : Int), .bool (decide (512 < (line.size : Int))), .string line, .func (.func 54) #[] #[.pointer (some ⟨V.heap.size + 1, 0, none⟩)], pcV x.k x.t x.n x.p x.z x.e, undef, undef, undef, undef, undef, undef, undef, undef, undef, undef], defers := [] } ∧ X.heap[b]? = some (.cells (pcC x.k x.t x.n x.p x.z x.e) 54 (0, 0)))
      ?hAs ?hassign ?hbody ?hdone ?hstop
    case hAs =>
      refine Own.from ?_ _
      rintro s A C row ⟨b, hb, hs, hc⟩ hg hr
      exact ⟨b, hb, hs, cells_kept hc hg hr⟩
    case hassign =>
      intro m l x V K hV hK
      simp only [encP]
      unfold pcV
      gi_wp2
      exact hK _ _ (below1 V _) ⟨V.heap.size, by omega, rfl, heap_alloc_new V _⟩
    case hbody =>
      rintro m l2 pre x a1 X hl ⟨⟨hy, hall⟩, hj⟩ ⟨b, hb, rfl, hbx⟩ hlt
      have p0 : X.cell? ⟨b, 0, none⟩ = some (.int .i64 x.k) := by rw [Lib.cell_of_heap hbx]; rfl
      have p1 : X.cell? ⟨b, 1, none⟩ = some (.string ⟨x.t.toArray⟩) := by rw [Lib.cell_of_heap hbx]; rfl
      have p2 : X.cell? ⟨b, 2, none⟩ = some (.int .u64 (x.n : Int)) := by rw [Lib.cell_of_heap hbx]; rfl
      have p3 : X.cell? ⟨b, 3, none⟩ = some (.int .i64 x.p) := by rw [Lib.cell_of_heap hbx]; rfl
      have p5 : X.cell? ⟨b, 5, none⟩ = some (.int .i64 x.e) := by rw [Lib.cell_of_heap hbx]; rfl
      have hbl := heap_lt hbx
      have py := hy.cell
      obtain ⟨D, hD⟩ : ∃ D, (⟨x.t.toArray⟩ : ByteArray) = D := ⟨_, rfl⟩
      rw [hD] at p1
      unfold pcV
      rw [hD]
      have HB := Lib.hid hbx
      have HA := Lib.hid hall
      have HJ := Lib.hid hj
      have HYB := Lib.hid hy
      by_cases he : x.e = 0
      · have he' : (x.e != 0) = false := by simp [he]
        obtain ⟨fn, tmps, assign, body, hy1, hRd⟩ := YH.out (m - 1) (pre.map tokOf) (tokOf x) X hj (by rw [List.length_map]; omega)
        dsimp only [encT, tokOf] at hy1
        rw [hD] at hy1
        have RD1 : RoundIn (Fence.wide.inRound l2) (m - 1) Tryd.prog l fn tmps assign body X _ := hRd
        have RD := Lib.hid RD1
        have HE0 := Lib.hid he
        have hcap : pre.length < 512 := by omega
        clear RD1 hRd hbx hy hall hj he hD
        gi_wp2_with fail
        refine ⟨fun h => absurd h (by decide), RD.out.mono ?_⟩
        rintro e W3 (⟨rfl, hJ3, hk3, ho3⟩ | ⟨rfl, hJ3, hk3⟩)
        · have J3 := Lib.hid hJ3
          have K3 := Lib.hid hk3
          have O3 := Lib.hid ho3
          clear hJ3 hk3 ho3 RD hy1
          gi_wp2_with fail
          refine ⟨keeps_more K3.out (by omega), O3.out, ⟨O3.out.2 _ _ _ _ (by decide) HYB.out, ?_⟩, ?_⟩
          · intro y hy
            rcases List.mem_append.1 hy with h | h
            · exact HA.out y h
            · rw [List.mem_singleton.1 h]; exact HE0.out
          · rw [List.map_append]; exact J3.out
        · have J3 := Lib.hid hJ3
          have K3 := Lib.hid hk3
          clear hJ3 hk3 RD hy1
          gi_wp2_with fail
          refine ⟨keeps_more K3.out (by omega), rfl, .inr ⟨?_, ?_⟩⟩
          · intro y hy
            rcases List.mem_append.1 hy with h | h
            · exact HA.out y h
            · rw [List.mem_singleton.1 h]; exact HE0.out
          · rw [List.map_append]; exact J3.out
      · have he' : (x.e != 0) = true := by simp [he]
        have HE0 := Lib.hid he
        clear hbx hy hall hj he hD
        gi_wp2_with fail
        refine ⟨fun f hf => (by cases hf), ?_⟩
        gi_wp2_with fail
        exact ⟨KeepsFrom.refl _ _, rfl, .inl ⟨pre, x, rfl, HE0.out, HA.out, HJ.out⟩⟩
    case hdone =>
      rintro D ys X hD rfl ⟨⟨hy, hall⟩, hj⟩ hK
      have HX := Lib.hid (show (lineB line.data.toList).1 = ys.map tokOf by rw [HL.out]; exact toks_good _ hall)
      gi_wp2
      refine ⟨by simp, .inl ⟨_, _, rfl, run_takeDeferred hK, ?_⟩⟩
      exact ⟨_, results_none rfl _ _ _, ⟨_, rfl⟩, .inl ⟨_, rfl, by rw [HX.out]; exact OwnFrom.putObj hJ _ hj (by omega) hK rfl⟩⟩
    case hstop =>
      rintro D c ys X hD hS ⟨rfl, hs⟩ hK
      gi_wp2
      refine ⟨by simp, .inl ⟨_, _, rfl, run_takeDeferred hK, ?_⟩⟩
      refine ⟨_, results_none rfl _ _ _, ⟨_, rfl⟩, ?_⟩
      obtain ⟨r, hr⟩ := hS
      rcases hs with ⟨l, x, rfl, hx, hall, hj⟩ | ⟨hall, hj⟩
      · refine .inl ⟨l.map tokOf, ?_, OwnFrom.putObj hJ _ hj (by omega) hK rfl⟩
        rw [List.append_assoc, List.singleton_append] at hr
        have h0 : r = [] := by
          have := bad_last _ _ _ l x r (by unfold piecesS at hT; rw [hT, ← hr]) hx
          exact this
        rw [HL.out, ← hr, h0]
        show _ = toksOf _
        rw [toks_bad l x [] hall hx]; simp [toksOf]
      · refine .inr ⟨ys.map tokOf, ⟨toksOf r, ?_⟩, OwnFrom.putObj hJx _ hj (by omega) hK rfl⟩
        rw [HL.out, ← hr]
        show _ = toksOf _
        rw [toks_app _ _ hall]
  · have hs' : (512 : Int) < (line.size : Int) := by omega
    have HL := Lib.hid (line_long (s := line.data.toList) (by rw [← size_list]; omega))
    have hJ0 := hJ.alloc (.cells #[.func (.yield l) #[] #[]] 57) h0
    have HJ := Lib.hid hJ0
    clear hY hG hV hbl hGV h0 hJ0
    refine callsIn_of_wp_marks Tryd.func32 rfl trivial ?_ rfl
    simp only [Tryd.ntmps32, List.size_toArray, List.length_cons, List.length_nil, Nat.reduceAdd, Nat.reduceSub, Array.replicate_succ, Array.replicate_zero, List.push_toArray, List.append_toArray, List.nil_append, List.cons_append]
    gi_wp2_with fail
    exact ⟨_, results_none rfl _ _ _, ⟨_, rfl⟩, .inl ⟨_, rfl, by rw [HL.out]; exact HJ.out⟩⟩
end Go.Proofs.YtjmdcimfmmfinaaDoor
