/-
  What each call of the program's Resolve returns. Conditions: what the start left in the two tables (Gd), how the symbols lie, that a hole's number is within 64 bits.
-/
import Derived.Test.YtjkhgljlipljdaaDoorFixJ
namespace Go.Proofs.YtjkhgljlipljdaaDoor
open Go.RowKit
set_option linter.unusedVariables false
set_option linter.unusedSimpArgs false

def fixO (sec off : Int) (h : Sh) : Option Sm → Fx × Int
  | some v => fixR sec off h v
  | none => (fx0, 4)
/-- what becomes of a hole -/
def resO (h : Hl) (sec off : Int) (L : List Sy) : Fx × Int :=
  if holeOk h.k h.s = true then fixO sec off (shR h.k h.s) (sumO h.a (findP sec off L h.p) (findP sec off L h.m)) else (fx0, 1)
def in64 (n : Int) : Prop := -9223372036854775808 ≤ n ∧ n ≤ 9223372036854775807
theorem wrap_in (n : Int) : in64 (wrap64 n) := by unfold in64 wrap64; omega
theorem reck_in {s : Sm} (h : in64 s.n) : in64 (reck s).n := by
  unfold reck rk3
  have h1 : in64 (rk1 s).n := by unfold rk1; split; exact wrap_in _; exact h
  have h2 : in64 (rk2 (rk1 s)).n := by
    unfold rk2; split
    · exact wrap_in _
    · exact h1
  split
  · exact wrap_in _
  · exact h2
theorem sumO_in {a : Int} (h : in64 a) {x y : Option Pt} {v : Sm} (e : sumO a x y = some v) : in64 v.n := by
  cases x with
  | none => cases y <;> cases e
  | some P =>
    cases y with
    | none => cases e
    | some M => cases e; exact reck_in (s := ⟨a, P, M⟩) h
set_option maxHeartbeats 4000000 in
theorem res_no (k s a : Int) (p m : BA) (sec off : Int) (sa : Option Addr) (sn sc : Nat) (w : World)
    (SO : Hid (∀ W, Below w.heap.size w W → Calls Tryd.prog 32 #[hlV ⟨k, s, a, p, m⟩] W fun e w' => e = .returned (.tuple #[shV sh0, .int .i64 1]) ∧ Below W.heap.size W w')) :
    Calls Tryd.prog 22 #[hlV ⟨k, s, a, p, m⟩, .int .i64 sec, .int .i64 off, .slice sa sn sc] w fun e w' => e = .returned (.tuple #[fxV fx0, .int .i64 1]) ∧ Below w.heap.size w w' := by
  unfold hlV fxV fx0 shV sh0 at *
  simp only at *
  have HB0 := Lib.hid (below2 w (.cells #[.int .i64 k, .int .i64 s, .int .i64 a, .string p, .string m] 25) (.cells #[.bool false, .int .i64 0, .bool false, .int .i64 0, .int .i64 0, .int .i64 0, .int .i64 0] 48))
  go_enter Tryd.func22, Tryd.ntmps22
  go_wp2_with fail
  refine (SO.out _ HB0.out).mono ?_
  rintro e w1 ⟨rfl, hb1⟩
  obtain ⟨g1, g2, hbw, hz⟩ := kept2 hb1
  have k1 := below1 w1 (.cells #[.int .i64 0, .int .i64 0, .int .i64 0, .int .i64 0, .int .i64 0, .int .i64 0, .int .i64 0] 71)
  have G2 := Lib.hid ((k1.block _ (heap_lt g2)).trans g2)
  have HB := Lib.hid (Below.thn hbw hbw.size k1)
  go_upto_region 2 with fail
  generalize (w1.alloc (.cells #[.int .i64 0, .int .i64 0, .int .i64 0, .int .i64 0, .int .i64 0, .int .i64 0, .int .i64 0] 71)) = V1 at *
  obtain ⟨f0, d0, d1, d2, d3, d4, d5, d6⟩ := seven G2.out
  clear hb1 g1 g2 hbw hz k1
  go_wp2_with fail
  try simp only [Exit.inBlock, Exit.then]
  refine bodyPost_ret (by simp [results, Tryd.results22, go_sem, d0, d1, d2, d3, d4, d5, d6]; try rfl) rfl ?_
  refine ⟨rfl, ?_⟩
  have hw := HB.out
  iterate 7 (refine Below.setCell ?_ (by dsimp only; omega) _)
  exact hw
set_option maxHeartbeats 4000000 in
theorem res_yes (k s a : Int) (p m : BA) (sec off : Int) (sa : Option Addr) (sn sc : Nat) (h : Sh) (S : Option Sm) (w : World)
    (SO : Hid (∀ W, Below w.heap.size w W → Calls Tryd.prog 32 #[hlV ⟨k, s, a, p, m⟩] W fun e w' => e = .returned (.tuple #[shV h, .int .i64 0]) ∧ Below W.heap.size W w'))
    (SU : Hid (∀ W, Below w.heap.size w W → Calls Tryd.prog 38 #[.agg #[.int .i64 a, .string p, .string m], .func (.func 39) #[spV sec off (.slice sa sn sc)] #[]] W fun e w' => e = .returned (.tuple #[smV (sumF S), .int .i64 (sumE S)]) ∧ Below W.heap.size W w'))
    (FX : Hid (∀ v, S = some v → ∀ W, Calls Tryd.prog 40 #[spV sec off (.slice sa sn sc), shV h, smV v] W fun e w' => e = .returned (.tuple #[fxV (fixR sec off h v).1, .int .i64 (fixR sec off h v).2]) ∧ Below W.heap.size W w')) :
    Calls Tryd.prog 22 #[hlV ⟨k, s, a, p, m⟩, .int .i64 sec, .int .i64 off, .slice sa sn sc] w fun e w' => e = .returned (.tuple #[fxV (fixO sec off h S).1, .int .i64 (fixO sec off h S).2]) ∧ Below w.heap.size w w' := by
  obtain ⟨x0, x1, x2, x3, x4, x5, x6⟩ := h
  have HB0 := Lib.hid (below2 w (.cells #[.int .i64 k, .int .i64 s, .int .i64 a, .string p, .string m] 25) (.cells #[.bool false, .int .i64 0, .bool false, .int .i64 0, .int .i64 0, .int .i64 0, .int .i64 0] 48))
  cases S with
  | none =>
    unfold sumF sumE smV sm0 pt0 at SU
    simp only [Option.getD_none, Option.isSome_none, Bool.false_eq_true, if_false] at SU
    unfold fixO fxV fx0
    unfold hlV shV spV at *
    simp only at *
    clear FX
    go_enter Tryd.func22, Tryd.ntmps22
    go_wp2_with fail
    refine (SO.out _ HB0.out).mono ?_
    rintro e w1 ⟨rfl, hb1⟩
    obtain ⟨g1, g2, hbw, hz⟩ := kept2 hb1
    have k2 := below2 w1 (.cells #[.int .i64 x0, .int .i64 x1, .int .i64 x2, .int .i64 x3, .int .i64 x4, .int .i64 x5, .int .i64 x6] 71) (.cells #[.int .i64 sec, .int .i64 off, .slice sa sn sc] 78)
    have G1 := Lib.hid ((k2.block _ (heap_lt g1)).trans g1)
    have G2 := Lib.hid ((k2.block _ (heap_lt g2)).trans g2)
    have G3 := Lib.hid (heap_new21 w1 (.cells #[.int .i64 x0, .int .i64 x1, .int .i64 x2, .int .i64 x3, .int .i64 x4, .int .i64 x5, .int .i64 x6] 71) (.cells #[.int .i64 sec, .int .i64 off, .slice sa sn sc] 78))
    have G4 := Lib.hid (heap_new2 w1 (.cells #[.int .i64 x0, .int .i64 x1, .int .i64 x2, .int .i64 x3, .int .i64 x4, .int .i64 x5, .int .i64 x6] 71) (.cells #[.int .i64 sec, .int .i64 off, .slice sa sn sc] 78))
    have HB := Lib.hid (Below.thn hbw hbw.size k2)
    go_upto_region 5 with fail
    generalize ((w1.alloc (.cells #[.int .i64 x0, .int .i64 x1, .int .i64 x2, .int .i64 x3, .int .i64 x4, .int .i64 x5, .int .i64 x6] 71)).alloc (.cells #[.int .i64 sec, .int .i64 off, .slice sa sn sc] 78)) = V1 at *
    obtain ⟨c0, c1, c2, c3, c4⟩ := five G1.out
    obtain ⟨_, s0, s1, s2⟩ := three G4.out
    clear hb1 g1 g2 hbw hz k2
    go_wp2_with fail
    refine (SU.out _ HB.out).mono ?_
    rintro e w2 ⟨rfl, hb2⟩
    have g2 := kept_v hb2 G2.out
    have g3 := kept_v hb2 G3.out
    have g4 := kept_v hb2 G4.out
    have hbw := Below.thn HB.out HB.out.size hb2
    have k1 := below1 w2 (.cells #[.int .i64 0, .bool false, .int .i64 0, .int .i64 0, .int .i64 0, .bool false, .int .i64 0, .int .i64 0, .int .i64 0] 82)
    have G2 := Lib.hid ((k1.block _ (heap_lt g2)).trans g2)
    have G3 := Lib.hid ((k1.block _ (heap_lt g3)).trans g3)
    have G4 := Lib.hid ((k1.block _ (heap_lt g4)).trans g4)
    have G5 := Lib.hid (heap_alloc_new w2 (.cells #[.int .i64 0, .bool false, .int .i64 0, .int .i64 0, .int .i64 0, .bool false, .int .i64 0, .int .i64 0, .int .i64 0] 82))
    have HB := Lib.hid (Below.thn hbw hbw.size k1)
    clear c0 c1 c2 c3 c4 s0 s1 s2
    go_upto_region 6 with fail
    generalize (w2.alloc (.cells #[.int .i64 0, .bool false, .int .i64 0, .int .i64 0, .int .i64 0, .bool false, .int .i64 0, .int .i64 0, .int .i64 0] 82)) = V2 at *
    clear hb2 g2 g3 g4 hbw k1
    obtain ⟨f0, d0, d1, d2, d3, d4, d5, d6⟩ := seven G2.out
    go_wp2_with fail
    try simp only [Exit.inBlock, Exit.then]
    refine bodyPost_ret (by simp [results, Tryd.results22, go_sem, d0, d1, d2, d3, d4, d5, d6]; try rfl) rfl ?_
    refine ⟨rfl, ?_⟩
    have hw := HB.out
    iterate 7 (refine Below.setCell ?_ (by dsimp only; omega) _)
    exact hw
  | some v =>
    have FX := Lib.hid (fun W => FX.out v rfl W)
    unfold sumF sumE at SU
    simp only [Option.getD_some, Option.isSome_some, if_true] at SU
    unfold fixO
    simp only at *
    generalize fixR sec off _ v = R at *
    obtain ⟨n, ⟨pi, ps, pv, pn⟩, ⟨mi, ms, mv, mn⟩⟩ := v
    unfold fxV at *
    unfold hlV shV spV smV at *
    simp only at *
    go_enter Tryd.func22, Tryd.ntmps22
    go_wp2_with fail
    refine (SO.out _ HB0.out).mono ?_
    rintro e w1 ⟨rfl, hb1⟩
    obtain ⟨g1, g2, hbw, hz⟩ := kept2 hb1
    have k2 := below2 w1 (.cells #[.int .i64 x0, .int .i64 x1, .int .i64 x2, .int .i64 x3, .int .i64 x4, .int .i64 x5, .int .i64 x6] 71) (.cells #[.int .i64 sec, .int .i64 off, .slice sa sn sc] 78)
    have G1 := Lib.hid ((k2.block _ (heap_lt g1)).trans g1)
    have G2 := Lib.hid ((k2.block _ (heap_lt g2)).trans g2)
    have G3 := Lib.hid (heap_new21 w1 (.cells #[.int .i64 x0, .int .i64 x1, .int .i64 x2, .int .i64 x3, .int .i64 x4, .int .i64 x5, .int .i64 x6] 71) (.cells #[.int .i64 sec, .int .i64 off, .slice sa sn sc] 78))
    have G4 := Lib.hid (heap_new2 w1 (.cells #[.int .i64 x0, .int .i64 x1, .int .i64 x2, .int .i64 x3, .int .i64 x4, .int .i64 x5, .int .i64 x6] 71) (.cells #[.int .i64 sec, .int .i64 off, .slice sa sn sc] 78))
    have HB := Lib.hid (Below.thn hbw hbw.size k2)
    go_upto_region 5 with fail
    generalize ((w1.alloc (.cells #[.int .i64 x0, .int .i64 x1, .int .i64 x2, .int .i64 x3, .int .i64 x4, .int .i64 x5, .int .i64 x6] 71)).alloc (.cells #[.int .i64 sec, .int .i64 off, .slice sa sn sc] 78)) = V1 at *
    obtain ⟨c0, c1, c2, c3, c4⟩ := five G1.out
    obtain ⟨_, s0, s1, s2⟩ := three G4.out
    clear hb1 g1 g2 hbw hz k2
    go_wp2_with fail
    refine (SU.out _ HB.out).mono ?_
    rintro e w2 ⟨rfl, hb2⟩
    have g2 := kept_v hb2 G2.out
    have g3 := kept_v hb2 G3.out
    have g4 := kept_v hb2 G4.out
    have hbw := Below.thn HB.out HB.out.size hb2
    have k1 := below1 w2 (.cells #[.int .i64 n, .bool pi, .int .i64 ps, .int .i64 pv, .int .i64 pn, .bool mi, .int .i64 ms, .int .i64 mv, .int .i64 mn] 82)
    have G2 := Lib.hid ((k1.block _ (heap_lt g2)).trans g2)
    have G3 := Lib.hid ((k1.block _ (heap_lt g3)).trans g3)
    have G4 := Lib.hid ((k1.block _ (heap_lt g4)).trans g4)
    have G5 := Lib.hid (heap_alloc_new w2 (.cells #[.int .i64 n, .bool pi, .int .i64 ps, .int .i64 pv, .int .i64 pn, .bool mi, .int .i64 ms, .int .i64 mv, .int .i64 mn] 82))
    have HB := Lib.hid (Below.thn hbw hbw.size k1)
    clear c0 c1 c2 c3 c4 s0 s1 s2
    go_upto_region 6 with fail
    generalize (w2.alloc (.cells #[.int .i64 n, .bool pi, .int .i64 ps, .int .i64 pv, .int .i64 pn, .bool mi, .int .i64 ms, .int .i64 mv, .int .i64 mn] 82)) = V2 at *
    clear hb2 g2 g3 g4 hbw k1
    obtain ⟨_, b0, b1, b2, b3, b4, b5, b6⟩ := seven G3.out
    obtain ⟨_, s0, s1, s2⟩ := three G4.out
    obtain ⟨_, c0, c1, c2, c3, c4, c5, c6, c7, c8⟩ := nine G5.out
    go_wp2_with fail
    refine (FX.out _).mono ?_
    rintro e w3 ⟨rfl, hb3⟩
    obtain ⟨f0, d0, d1, d2, d3, d4, d5, d6⟩ := seven (kept_v hb3 G2.out)
    have HB := Lib.hid (Below.thn HB.out HB.out.size hb3)
    clear b0 b1 b2 b3 b4 b5 b6 s0 s1 s2 c0 c1 c2 c3 c4 c5 c6 c7 c8 hb3
    go_wp2_with fail
    try simp only [Exit.inBlock, Exit.then]
    refine bodyPost_ret (by simp [results, Tryd.results22, go_sem, d0, d1, d2, d3, d4, d5, d6]; try rfl) rfl ?_
    refine ⟨rfl, ?_⟩
    have hw := HB.out
    iterate 7 (refine Below.setCell ?_ (by dsimp only; omega) _)
    exact hw
theorem resolve_any (h : Hl) (sec off : Int) (sv : Value) (L : List Sy) (w : World) (hG : Gd w) (hS : SymsO w sv L) (ha : in64 h.a) :
    Calls Tryd.prog 22 #[hlV h, .int .i64 sec, .int .i64 off, sv] w fun e w' => e = .returned (.tuple #[fxV (resO h sec off L).1, .int .i64 (resO h sec off L).2]) ∧ Below w.heap.size w w' := by
  have SO := Lib.hid (fun W (hb : Below w.heap.size w W) => shapeOf_any h W (hG.keep hb))
  have SU := Lib.hid (fun W (hb : Below w.heap.size w W) => summed_any sec off sv L h.a h.p h.m W (hS.keep hb))
  obtain ⟨sa, sc, rfl⟩ := hS.slice
  unfold resO
  cases hok : holeOk h.k h.s with
  | false =>
    have e1 : chkI h.k h.s = 1 := by simp [chkI, hok]
    have e2 : shR h.k h.s = sh0 := by simp [shR, hok]
    rw [e1, e2] at SO
    rw [if_neg (by simp)]
    exact res_no h.k h.s h.a h.p h.m sec off sa L.length sc w SO
  | true =>
    have e1 : chkI h.k h.s = 0 := by simp [chkI, hok]
    rw [e1] at SO
    rw [if_pos rfl]
    exact res_yes h.k h.s h.a h.p h.m sec off sa L.length sc (shR h.k h.s) _ w SO SU (Lib.hid fun v hv W => fix_any sec off sa L.length sc (shR h.k h.s) v W (shR_t _ _) (sumO_in ha hv))
end Go.Proofs.YtjkhgljlipljdaaDoor
