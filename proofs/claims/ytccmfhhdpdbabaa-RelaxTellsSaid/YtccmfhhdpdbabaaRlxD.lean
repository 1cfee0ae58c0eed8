/-
  What each call of the document's one, and of both Checks, returns. Condition: how the items lie.
-/
import Derived.Test.YtccmfhhdpdbabaaRlxC
namespace Go.Proofs.Ytccmfhhdpdbabaa
open Go.RowKit
set_option linter.unusedVariables false
set_option linter.unusedSimpArgs false

set_option maxHeartbeats 8000000 in
theorem one_3 (s a t d lo hi m : Int) (w : World) :
    Calls Try.prog 34 #[itV ⟨3, s, a, t, d, lo, hi⟩, .int .i64 m] w (OneP ⟨3, s, a, t, d, lo, hi⟩ m w) := by
  unfold itV
  simp only
  have E : okIt ⟨3, s, a, t, d, lo, hi⟩ m = (decide (s = 0 ∧ a = 0) && (decide (0 ≤ t) && (decide (t ≤ m) && (farB d && (farB lo && farB hi))))) := rfl
  by_cases hs : s = 0
  · subst hs
    by_cases ha : a = 0
    · subst ha
      by_cases ht : 0 ≤ t
      · by_cases hm : t ≤ m
        · rw [decide_eq_true ht, decide_eq_true hm] at E
          generalize hd : farB d = D at *
          generalize hl : farB lo = L at *
          generalize hh : farB hi = R at *
          have Fd := fun W => hd ▸ rwithin_any d W
          have Fl := fun W => hl ▸ rwithin_any lo W
          have Fh := fun W => hh ▸ rwithin_any hi W
          have HF := Lib.hid (And.intro Fd (And.intro Fl Fh))
          have HE := Lib.hid E
          clear Fd Fl Fh hd hl hh E
          cases D <;> cases L
          all_goals
            go_enter Try.func34, Try.ntmps34
            go_wp2_with fail
            refine (HF.out.1 _).mono ?_
            rintro e1 w1 ⟨rfl, rfl⟩
            go_wp2_with fail
            try (refine (HF.out.2.1 _).mono ?_; rintro e1 w1 ⟨rfl, rfl⟩; go_wp2_with fail)
            try (refine (HF.out.2.2 _).mono ?_; rintro e1 w1 ⟨rfl, rfl⟩; go_wp2_with fail)
            go_ret2
            exact oneP (by rw [HE.out]; simp) (fun _ => rfl) (below1 w _)
        · have HE := Lib.hid (show false = okIt ⟨3, 0, 0, t, d, lo, hi⟩ m by rw [E]; simp [hm])
          clear E
          go_enter Try.func34, Try.ntmps34
          go_wp2_with fail
          go_ret2
          exact oneP HE.out (fun _ => rfl) (below1 w _)
      · have HE := Lib.hid (show false = okIt ⟨3, 0, 0, t, d, lo, hi⟩ m by rw [E]; simp [ht])
        clear E
        go_enter Try.func34, Try.ntmps34
        go_wp2_with fail
        go_ret2
        exact oneP HE.out (fun _ => rfl) (below1 w _)
    · have HE := Lib.hid (show false = okIt ⟨3, 0, a, t, d, lo, hi⟩ m by rw [E]; simp [ha])
      have b := not_beq ha
      clear E
      go_enter Try.func34, Try.ntmps34
      go_wp2_with fail
      go_ret2
      exact oneP HE.out (fun _ => rfl) (below1 w _)
  · have HE := Lib.hid (show false = okIt ⟨3, s, a, t, d, lo, hi⟩ m by rw [E]; simp [hs])
    have b := not_beq hs
    clear E
    go_enter Try.func34, Try.ntmps34
    go_wp2_with fail
    go_ret2
    exact oneP HE.out (fun _ => rfl) (below1 w _)
theorem one_any (x : It) (m : Int) (w : World) :
    Calls Try.prog 34 #[itV x, .int .i64 m] w (OneP x m w) := by
  obtain ⟨k, s, a, t, d, lo, hi⟩ := x
  by_cases k1 : k = 1
  · subst k1; exact one_1 s a t d lo hi m w
  by_cases k2 : k = 2
  · subst k2; exact one_2 s a t d lo hi m w
  by_cases k3 : k = 3
  · subst k3; exact one_3 s a t d lo hi m w
  have b1 := not_beq k1
  have b2 := not_beq k2
  have b3 := not_beq k3
  have HE := Lib.hid (show false = okIt ⟨k, s, a, t, d, lo, hi⟩ m by unfold okIt; simp only; rw [if_neg k1, if_neg k2, if_neg k3])
  clear k1 k2 k3
  unfold itV
  simp only
  go_enter Try.func34, Try.ntmps34
  go_wp2_with fail
  go_ret2
  exact oneP HE.out (fun h => by rw [← HE.out] at h; cases h) (below1 w _)

/-- what is wrong with items from one on -/
def chkGo (m : Int) : Int → List It → Int
  | n, [] => if 67108864 < n then 161 else 0
  | n, x :: L => if okIt x m = true then chkGo m (n + mostB x) L else 160
def chkB (L : List It) : Int := if 65536 < (L.length : Int) then 3 else chkGo L.length 0 L
theorem ok_align {x : It} {m : Int} (h : okIt x m = true) : x.k = 2 → 0 ≤ x.a ∧ x.a ≤ 12 := by
  intro hk
  unfold okIt at h
  rw [if_neg (by omega), if_pos hk] at h
  simp at h
  exact h.2
theorem most_le {x : It} {m : Int} (h : okIt x m = true) : 0 ≤ mostB x ∧ mostB x ≤ 67108864 := by
  have ha := ok_align h
  unfold mostB
  by_cases h2 : x.k = 2
  · rw [if_pos h2]
    have := pow_le (ha h2).1 (ha h2).2
    omega
  rw [if_neg h2]
  by_cases h3 : x.k = 3
  · rw [if_pos h3]; omega
  rw [if_neg h3]
  unfold okIt at h
  by_cases h1 : x.k = 1
  · rw [if_pos h1] at h
    simp at h
    omega
  · rw [if_neg h1, if_neg h2, if_neg h3] at h; cases h
theorem drop_cons {α : Type} {L : List α} {k : Nat} {x : α} (h : L[k]? = some x) : L.drop k = x :: L.drop (k + 1) := by
  obtain ⟨hk, e⟩ := List.getElem?_eq_some_iff.1 h
  rw [List.drop_eq_getElem_cons hk, e]
set_option maxHeartbeats 4000000 in
theorem check_any (v : Value) (L : List It) (w : World) (hL : ItsO w v L) :
    Calls Try.prog 13 #[v] w fun e w' => e = .returned (.int .i64 (chkB L)) ∧ Below w.heap.size w w' := by
  obtain ⟨aa, ca, rfl⟩ := hL.slice
  have hlen := hL.len
  unfold maxLen at hlen
  have HL := Lib.hid hL
  clear hL
  by_cases a1 : (65536 : Int) < (L.length : Int)
  · have HE := Lib.hid (show chkB L = 3 by unfold chkB; rw [if_pos a1])
    go_enter Try.func13, Try.ntmps13
    go_wp2_with fail
    go_ret
    exact ⟨ret1 HE.out.symm, Below.refl _ _⟩
  have HE := Lib.hid (show chkB L = chkGo L.length 0 L by unfold chkB; rw [if_neg a1])
  generalize chkB L = R at *
  have hl6 : L.length ≤ 65536 := by omega
  go_enter Try.func13, Try.ntmps13
  go_wp2_with fail
  go_loopw [11, 3] (fun iv nv wr => ∃ (k : Nat) (n : Int), k ≤ L.length ∧ iv = .int .i64 (k : Int) ∧ nv = .int .i64 n ∧ Hid (R = chkGo L.length n (L.drop k) ∧ 0 ≤ n ∧ n ≤ k * 67108864) ∧ Hid (Below w.heap.size w wr)) (fun iv nv _ => L.length - (intOf iv).toNat)
  case atStart => exact ⟨0, 0, Nat.zero_le _, rfl, rfl, Lib.hid ⟨HE.out, by decide, by decide⟩, Lib.hid (Below.refl _ _)⟩
  case round =>
    obtain ⟨k, n, hk, rfl, rfl, hst, hbr⟩ := hrel
    by_cases hlt : (k : Int) < (L.length : Int)
    · have hlt' : k < L.length := by omega
      obtain ⟨g, off, cap, x, hx, hv, hg, x0, x1, x2, x3, x4, x5, x6⟩ := (HL.out.keep hbr.out).at hlt'
      have hdr := drop_cons hx
      clear hx
      cases hv
      have w9 : IntKind.i64.wrap ((k : Int) + 1) = ((k + 1 : Nat) : Int) := by rw [IntWalk.i64_in _ (by omega)]; omega
      obtain ⟨V, hV⟩ : ∃ V : Value, V = .agg #[.int .i64 x.k, .int .i64 x.s, .int .i64 x.a, .int .i64 x.t, .int .i64 x.d, .int .i64 x.lo, .int .i64 x.hi] := ⟨_, rfl⟩
      have MB := Lib.hid (fun W => mayBe_any x (L.length : Int) W)
      have GR := Lib.hid (fun h W => greatest_any x W h)
      unfold itV at MB GR
      obtain ⟨W1, hW1⟩ : ∃ W1, wr.alloc (.cells #[.int .i64 x.k, .int .i64 x.s, .int .i64 x.a, .int .i64 x.t, .int .i64 x.d, .int .i64 x.lo, .int .i64 x.hi] 44) = W1 := ⟨_, rfl⟩
      have HB1 := Lib.hid (show Below w.heap.size w W1 by rw [← hW1]; exact hbr.out.alloc hbr.out.size _)
      have hz1 : wr.heap.size < W1.heap.size := by rw [← hW1]; simp
      have c0 : W1.cell? ⟨wr.heap.size, 0, none⟩ = some (.int .i64 x.k) := by rw [← hW1]; exact cells_new wr _ _ 0 _ rfl
      have c1 : W1.cell? ⟨wr.heap.size, 1, none⟩ = some (.int .i64 x.s) := by rw [← hW1]; exact cells_new wr _ _ 1 _ rfl
      have c2 : W1.cell? ⟨wr.heap.size, 2, none⟩ = some (.int .i64 x.a) := by rw [← hW1]; exact cells_new wr _ _ 2 _ rfl
      have c3 : W1.cell? ⟨wr.heap.size, 3, none⟩ = some (.int .i64 x.t) := by rw [← hW1]; exact cells_new wr _ _ 3 _ rfl
      have c4 : W1.cell? ⟨wr.heap.size, 4, none⟩ = some (.int .i64 x.d) := by rw [← hW1]; exact cells_new wr _ _ 4 _ rfl
      have c5 : W1.cell? ⟨wr.heap.size, 5, none⟩ = some (.int .i64 x.lo) := by rw [← hW1]; exact cells_new wr _ _ 5 _ rfl
      have c6 : W1.cell? ⟨wr.heap.size, 6, none⟩ = some (.int .i64 x.hi) := by rw [← hW1]; exact cells_new wr _ _ 6 _ rfl
      cases hok : okIt x (L.length : Int) with
      | false =>
        have HN := Lib.hid (show R = 160 by rw [hst.out.1, hdr]; unfold chkGo; rw [hok, if_neg (by decide)])
        rw [hok] at MB
        clear hst hdr hok
        go_wp2_with fail
        refine (MB.out _).mono ?_
        rintro e w1 ⟨rfl, hb⟩
        have HB2 := Lib.hid (Below.thn HB1.out HB1.out.size hb)
        clear hb
        go_wp2_with fail
        go_ret
        exact ⟨ret1 HN.out.symm, HB2.out⟩
      | true =>
        have hm := most_le hok
        have hb2 := hst.out.2
        have HN := Lib.hid (show R = chkGo L.length (n + mostB x) (L.drop (k + 1)) ∧ 0 ≤ n + mostB x ∧ n + mostB x ≤ ((k + 1 : Nat) : Int) * 67108864 from ⟨by rw [hst.out.1, hdr]; unfold chkGo; rw [hok, if_pos rfl]; cases hdd : L.drop (k + 1) <;> rfl, by omega, by omega⟩)
        have w6 : IntKind.i64.wrap (n + mostB x) = n + mostB x := IntWalk.i64_in _ (by omega)
        have HA := Lib.hid (ok_align hok)
        rw [hok] at MB
        clear hst hdr hok hb2 hm
        generalize mostB x = M at *
        go_wp2_with fail
        refine (MB.out _).mono ?_
        rintro e w1 ⟨rfl, hb⟩
        have HB2 := Lib.hid (Below.thn HB1.out HB1.out.size hb)
        have c0 := (bcell hb).1 wr.heap.size 0 hz1 |>.trans c0
        have c1 := (bcell hb).1 wr.heap.size 1 hz1 |>.trans c1
        have c2 := (bcell hb).1 wr.heap.size 2 hz1 |>.trans c2
        have c3 := (bcell hb).1 wr.heap.size 3 hz1 |>.trans c3
        have c4 := (bcell hb).1 wr.heap.size 4 hz1 |>.trans c4
        have c5 := (bcell hb).1 wr.heap.size 5 hz1 |>.trans c5
        have c6 := (bcell hb).1 wr.heap.size 6 hz1 |>.trans c6
        clear hb
        go_wp2_with fail
        refine (GR.out HA.out _).mono ?_
        rintro e w2 ⟨rfl, hb⟩
        have HB3 := Lib.hid (Below.thn HB2.out HB2.out.size hb)
        clear hb
        go_wp2_with fail
        go_roundw
        case rel => exact ⟨k + 1, n + M, by omega, by first | rfl | rw [← w9], by first | rfl | rw [← w6], HN, HB3⟩
        case measure => simp [intOf]; omega
    · have HN := Lib.hid (show R = if 67108864 < n then 161 else 0 by rw [hst.out.1, List.drop_eq_nil_of_le (by omega)]; rfl)
      clear hst
      by_cases hn : 67108864 < n
      · rw [if_pos hn] at HN
        go_wp2_with fail
        go_ret
        exact ⟨ret1 HN.out.symm, hbr.out⟩
      · rw [if_neg hn] at HN
        go_wp2_with fail
        go_ret
        exact ⟨ret1 HN.out.symm, hbr.out⟩
set_option maxHeartbeats 4000000 in
theorem rcheck_any (v : Value) (L : List It) (w : World) (hL : ItsO w v L) :
    Calls Try.prog 14 #[v] w fun e w' => e = .returned (.int .i64 (chkB L)) ∧ Below w.heap.size w w' := by
  obtain ⟨aa, ca, rfl⟩ := hL.slice
  have hlen := hL.len
  unfold maxLen at hlen
  have HL := Lib.hid hL
  clear hL
  by_cases a1 : (65536 : Int) < (L.length : Int)
  · have HE := Lib.hid (show chkB L = 3 by unfold chkB; rw [if_pos a1])
    go_enter Try.func14, Try.ntmps14
    go_wp2_with fail
    go_ret
    exact ⟨ret1 HE.out.symm, Below.refl _ _⟩
  have HE := Lib.hid (show chkB L = chkGo L.length 0 L by unfold chkB; rw [if_neg a1])
  generalize chkB L = R at *
  have hl6 : L.length ≤ 65536 := by omega
  go_enter Try.func14, Try.ntmps14
  go_wp2_with fail
  go_loopw [4, 3] (fun iv nv wr => ∃ (k : Nat) (n : Int), k ≤ L.length ∧ iv = .int .i64 (k : Int) ∧ nv = .int .i64 n ∧ Hid (R = chkGo L.length n (L.drop k) ∧ 0 ≤ n ∧ n ≤ k * 67108864) ∧ Hid (Below w.heap.size w wr)) (fun iv nv _ => L.length - (intOf iv).toNat)
  case atStart => exact ⟨0, 0, Nat.zero_le _, rfl, rfl, Lib.hid ⟨HE.out, by decide, by decide⟩, Lib.hid (Below.refl _ _)⟩
  case round =>
    obtain ⟨k, n, hk, rfl, rfl, hst, hbr⟩ := hrel
    by_cases hlt : (k : Int) < (L.length : Int)
    · have hlt' : k < L.length := by omega
      obtain ⟨g, off, cap, x, hx, hv, hg, x0, x1, x2, x3, x4, x5, x6⟩ := (HL.out.keep hbr.out).at hlt'
      have hdr := drop_cons hx
      clear hx
      cases hv
      have w9 : IntKind.i64.wrap ((k : Int) + 1) = ((k + 1 : Nat) : Int) := by rw [IntWalk.i64_in _ (by omega)]; omega
      have ON := Lib.hid (fun W => one_any x (L.length : Int) W)
      unfold itV OneP at ON
      cases hok : okIt x (L.length : Int) with
      | false =>
        have HN := Lib.hid (show R = 160 by rw [hst.out.1, hdr]; unfold chkGo; rw [hok, if_neg (by decide)])
        rw [hok] at ON
        clear hst hdr hok
        go_wp2_with fail
        refine (ON.out _).mono ?_
        rintro e w1 ⟨⟨v, rfl, _⟩, hb⟩
        have HB2 := Lib.hid (Below.thn hbr.out hbr.out.size hb)
        clear hb
        go_wp2_with fail
        go_ret
        exact ⟨ret1 HN.out.symm, HB2.out⟩
      | true =>
        have hm := most_le hok
        have hb2 := hst.out.2
        have HN := Lib.hid (show R = chkGo L.length (n + mostB x) (L.drop (k + 1)) ∧ 0 ≤ n + mostB x ∧ n + mostB x ≤ ((k + 1 : Nat) : Int) * 67108864 from ⟨by rw [hst.out.1, hdr]; unfold chkGo; rw [hok, if_pos rfl]; cases hdd : L.drop (k + 1) <;> rfl, by omega, by omega⟩)
        have w6 : IntKind.i64.wrap (n + mostB x) = n + mostB x := IntWalk.i64_in _ (by omega)
        rw [hok] at ON
        clear hst hdr hok hb2 hm
        generalize mostB x = M at *
        go_wp2_with fail
        refine (ON.out _).mono ?_
        rintro e w1 ⟨⟨v, rfl, hv⟩, hb⟩
        obtain rfl := hv trivial
        clear hv
        have HB2 := Lib.hid (Below.thn hbr.out hbr.out.size hb)
        clear hb
        go_wp2_with fail
        go_roundw
        case rel => exact ⟨k + 1, n + v, by omega, by first | rfl | rw [← w9], by first | rfl | rw [← w6], HN, HB2⟩
        case measure => simp [intOf]; omega
    · have HN := Lib.hid (show R = if 67108864 < n then 161 else 0 by rw [hst.out.1, List.drop_eq_nil_of_le (by omega)]; rfl)
      clear hst
      by_cases hn : 67108864 < n
      · rw [if_pos hn] at HN
        go_wp2_with fail
        go_ret
        exact ⟨ret1 HN.out.symm, hbr.out⟩
      · rw [if_neg hn] at HN
        go_wp2_with fail
        go_ret
        exact ⟨ret1 HN.out.symm, hbr.out⟩
end Go.Proofs.Ytccmfhhdpdbabaa
