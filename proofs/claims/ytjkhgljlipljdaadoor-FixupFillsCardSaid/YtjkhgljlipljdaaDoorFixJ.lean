/-
  What each call of the program's relocated and fix returns. Conditions: that sums are within 64 bits, that a step is 1 or 4 where a number is filled in.
-/
import Derived.Test.YtjkhgljlipljdaaDoorFixI
namespace Go.Proofs.YtjkhgljlipljdaaDoor
open Go.RowKit
set_option linter.unusedVariables false
set_option linter.unusedSimpArgs false

/-- a relocation by a sum's symbol -/
def relR (h : Sh) (far : Bool) (off : Int) (v : Sm) : Fx × Int :=
  if v.p.is = false then (fx0, 180) else if v.p.num = -1 then (fx0, 180) else if relI h far = 0 then (fx0, 180) else (⟨false, 0, true, off, relI h far, v.p.num, v.n⟩, 0)
def fillR (h : Sh) (n : Int) : Fx × Int := (fillF h n, fillE h n)
def fixR (sec off : Int) (h : Sh) (v : Sm) : Fx × Int :=
  if v.m.is = true then (if inB v.m sec = true then relR h true off ⟨wrap64 (v.n + wrap64 (off - v.m.val)), v.p, v.m⟩ else (fx0, 180))
  else if v.p.is = true then (if (nearB h && inB v.p sec) = true then fillR h (wrap64 (wrap64 (v.p.val + v.n) - off)) else relR h false off v)
  else if nearB h = true then (fx0, 180) else fillR h v.n
theorem kept4 {w w1 : World} {X Y Z U : Obj} (hb : Below ((((w.alloc X).alloc Y).alloc Z).alloc U).heap.size ((((w.alloc X).alloc Y).alloc Z).alloc U) w1) :
    w1.heap[w.heap.size]? = some X ∧ w1.heap[w.heap.size + 1]? = some Y ∧ w1.heap[w.heap.size + 2]? = some Z ∧ w1.heap[w.heap.size + 3]? = some U ∧ Below w.heap.size w w1 ∧ w.heap.size + 4 ≤ w1.heap.size := by
  have k := below1 (((w.alloc X).alloc Y).alloc Z) U
  have hz : (((w.alloc X).alloc Y).alloc Z).heap.size = w.heap.size + 3 := by simp
  have hz4 : ((((w.alloc X).alloc Y).alloc Z).alloc U).heap.size = w.heap.size + 4 := by simp
  obtain ⟨a, b, c, d, e⟩ := kept3 (w := w) (X := X) (Y := Y) (Z := Z) k
  refine ⟨(hb.block _ (by omega)).trans a, (hb.block _ (by omega)).trans b, (hb.block _ (by omega)).trans c, (hb.block _ (by omega)).trans ?_, Below.thn d (by omega) hb, by have := hb.size; omega⟩
  have := heap_alloc_new (((w.alloc X).alloc Y).alloc Z) U
  rwa [hz] at this
theorem own4 (w : World) (X Y Z U : Obj) : ((((w.alloc X).alloc Y).alloc Z).alloc U).heap[w.heap.size]? = some X ∧ ((((w.alloc X).alloc Y).alloc Z).alloc U).heap[w.heap.size + 1]? = some Y ∧ ((((w.alloc X).alloc Y).alloc Z).alloc U).heap[w.heap.size + 2]? = some Z ∧ ((((w.alloc X).alloc Y).alloc Z).alloc U).heap[w.heap.size + 3]? = some U ∧ Below w.heap.size w ((((w.alloc X).alloc Y).alloc Z).alloc U) ∧ w.heap.size + 4 ≤ ((((w.alloc X).alloc Y).alloc Z).alloc U).heap.size := kept4 (Below.refl _ _)
set_option maxHeartbeats 4000000 in
theorem reloc_no (sec off : Int) (sa : Option Addr) (sn sc : Nat) (h : Sh) (far : Bool) (v : Sm) (w : World) (hp : v.p.is = false) :
    Calls Tryd.prog 64 #[spV sec off (.slice sa sn sc), shV h, .bool far, smV v] w fun e w' => e = .returned (.tuple #[fxV (relR h far off v).1, .int .i64 (relR h far off v).2]) ∧ Below w.heap.size w w' := by
  have RL := Lib.hid (fun W => relocation_any h far W)
  obtain ⟨n, ⟨pi, ps, pv, pn⟩, ⟨mi, ms, mv, mn⟩⟩ := v
  simp only at *
  have e : relR h far off ⟨n, ⟨pi, ps, pv, pn⟩, ⟨mi, ms, mv, mn⟩⟩ = (fx0, 180) := by unfold relR; rw [if_pos hp]
  rw [e]
  subst hp
  clear e
  unfold relE at RL
  generalize relI h far = K at *
  obtain ⟨x0, x1, x2, x3, x4, x5, x6⟩ := h
  unfold spV shV smV fxV at *
  try unfold fx0
  simp only at *
  go_enter Tryd.func64, Tryd.ntmps64
  go_wp2_with fail
  go_returns
  exact ⟨rfl, (own4 w _ _ _ _).2.2.2.2.1⟩
set_option maxHeartbeats 4000000 in
theorem reloc_here (sec off : Int) (sa : Option Addr) (sn sc : Nat) (h : Sh) (far : Bool) (v : Sm) (w : World) (hp : v.p.is = true) (hn : v.p.num = -1) :
    Calls Tryd.prog 64 #[spV sec off (.slice sa sn sc), shV h, .bool far, smV v] w fun e w' => e = .returned (.tuple #[fxV (relR h far off v).1, .int .i64 (relR h far off v).2]) ∧ Below w.heap.size w w' := by
  have RL := Lib.hid (fun W => relocation_any h far W)
  obtain ⟨n, ⟨pi, ps, pv, pn⟩, ⟨mi, ms, mv, mn⟩⟩ := v
  simp only at *
  have e : relR h far off ⟨n, ⟨pi, ps, pv, pn⟩, ⟨mi, ms, mv, mn⟩⟩ = (fx0, 180) := by unfold relR; rw [if_neg (by simp [hp]), if_pos hn]
  rw [e]
  subst hp hn
  clear e
  unfold relE at RL
  generalize relI h far = K at *
  obtain ⟨x0, x1, x2, x3, x4, x5, x6⟩ := h
  unfold spV shV smV fxV at *
  try unfold fx0
  simp only at *
  go_enter Tryd.func64, Tryd.ntmps64
  go_wp2_with fail
  go_returns
  exact ⟨rfl, (own4 w _ _ _ _).2.2.2.2.1⟩
set_option maxHeartbeats 4000000 in
theorem reloc_zero (sec off : Int) (sa : Option Addr) (sn sc : Nat) (h : Sh) (far : Bool) (v : Sm) (w : World) (hp : v.p.is = true) (hn : v.p.num ≠ -1) (hK : relI h far = 0) :
    Calls Tryd.prog 64 #[spV sec off (.slice sa sn sc), shV h, .bool far, smV v] w fun e w' => e = .returned (.tuple #[fxV (relR h far off v).1, .int .i64 (relR h far off v).2]) ∧ Below w.heap.size w w' := by
  have RL := Lib.hid (fun W => relocation_any h far W)
  obtain ⟨n, ⟨pi, ps, pv, pn⟩, ⟨mi, ms, mv, mn⟩⟩ := v
  simp only at *
  have e : relR h far off ⟨n, ⟨pi, ps, pv, pn⟩, ⟨mi, ms, mv, mn⟩⟩ = (fx0, 180) := by unfold relR; rw [if_neg (by simp [hp]), if_neg hn, if_pos hK]
  rw [e]
  subst hp
  have bn := not_beq hn
  clear e hn
  unfold relE at RL
  generalize relI h far = K at *
  obtain ⟨x0, x1, x2, x3, x4, x5, x6⟩ := h
  unfold spV shV smV fxV at *
  try unfold fx0
  simp only at *
  subst hK
  simp only [if_true] at RL
  go_enter Tryd.func64, Tryd.ntmps64
  go_wp2_with fail
  refine (RL.out _).mono ?_
  rintro e w1 ⟨rfl, hb1⟩
  obtain ⟨g1, g2, g3, g4, hbw, hz⟩ := kept4 hb1
  obtain ⟨_, s0, s1, s2⟩ := three g1
  obtain ⟨_, c0, c1, c2, c3, c4, c5, c6, c7, c8⟩ := nine g3
  obtain ⟨f0, d0, d1, d2, d3, d4, d5, d6⟩ := seven g4
  have HB1 := Lib.hid hbw
  clear hb1 g1 g2 g3 g4 hbw hz
  go_wp2_with fail
  try simp only [Exit.inBlock, Exit.then]
  refine bodyPost_ret (by simp [results, Tryd.results64, go_sem, d0, d1, d2, d3, d4, d5, d6]; try rfl) rfl ?_
  refine ⟨rfl, ?_⟩
  have hw := HB1.out
  iterate 7 (refine Below.setCell ?_ (by dsimp only; omega) _)
  exact hw
set_option maxHeartbeats 4000000 in
theorem reloc_yes (sec off : Int) (sa : Option Addr) (sn sc : Nat) (h : Sh) (far : Bool) (v : Sm) (w : World) (hp : v.p.is = true) (hn : v.p.num ≠ -1) (hK : relI h far ≠ 0) :
    Calls Tryd.prog 64 #[spV sec off (.slice sa sn sc), shV h, .bool far, smV v] w fun e w' => e = .returned (.tuple #[fxV (relR h far off v).1, .int .i64 (relR h far off v).2]) ∧ Below w.heap.size w w' := by
  have RL := Lib.hid (fun W => relocation_any h far W)
  obtain ⟨n, ⟨pi, ps, pv, pn⟩, ⟨mi, ms, mv, mn⟩⟩ := v
  simp only at *
  have e : relR h far off ⟨n, ⟨pi, ps, pv, pn⟩, ⟨mi, ms, mv, mn⟩⟩ = (⟨false, 0, true, off, relI h far, pn, n⟩, 0) := by unfold relR; rw [if_neg (by simp [hp]), if_neg hn, if_neg hK]
  rw [e]
  subst hp
  have bn := not_beq hn
  clear e hn
  unfold relE at RL
  generalize relI h far = K at *
  obtain ⟨x0, x1, x2, x3, x4, x5, x6⟩ := h
  unfold spV shV smV fxV at *
  try unfold fx0
  simp only at *
  simp only [if_neg hK] at RL
  clear hK
  go_enter Tryd.func64, Tryd.ntmps64
  go_wp2_with fail
  refine (RL.out _).mono ?_
  rintro e w1 ⟨rfl, hb1⟩
  obtain ⟨g1, g2, g3, g4, hbw, hz⟩ := kept4 hb1
  obtain ⟨_, s0, s1, s2⟩ := three g1
  obtain ⟨_, c0, c1, c2, c3, c4, c5, c6, c7, c8⟩ := nine g3
  obtain ⟨f0, d0, d1, d2, d3, d4, d5, d6⟩ := seven g4
  have HB1 := Lib.hid hbw
  clear hb1 g1 g2 g3 g4 hbw hz
  go_wp2_with fail
  try simp only [Exit.inBlock, Exit.then]
  refine bodyPost_ret (by simp [results, Tryd.results64, go_sem, d0, d1, d2, d3, d4, d5, d6]; try rfl) rfl ?_
  refine ⟨rfl, ?_⟩
  have hw := HB1.out
  iterate 7 (refine Below.setCell ?_ (by dsimp only; omega) _)
  exact hw
theorem relocated_any (sec off : Int) (sa : Option Addr) (sn sc : Nat) (h : Sh) (far : Bool) (v : Sm) (w : World) :
    Calls Tryd.prog 64 #[spV sec off (.slice sa sn sc), shV h, .bool far, smV v] w fun e w' => e = .returned (.tuple #[fxV (relR h far off v).1, .int .i64 (relR h far off v).2]) ∧ Below w.heap.size w w' := by
  cases hp : v.p.is with
  | false => exact reloc_no sec off sa sn sc h far v w hp
  | true =>
    by_cases hn : v.p.num = -1
    · exact reloc_here sec off sa sn sc h far v w hp hn
    · by_cases hK : relI h far = 0
      · exact reloc_zero sec off sa sn sc h far v w hp hn hK
      · exact reloc_yes sec off sa sn sc h far v w hp hn hK
set_option maxHeartbeats 4000000 in
theorem fix_m0 (sec off : Int) (sa : Option Addr) (sn sc : Nat) (h : Sh) (v : Sm) (w : World) (ht : h.t = 0 ∨ h.t = 1 ∨ h.t = 4) (hv : -9223372036854775808 ≤ v.n ∧ v.n ≤ 9223372036854775807) (hm : v.m.is = true) (hi : inB v.m sec = false) :
    Calls Tryd.prog 40 #[spV sec off (.slice sa sn sc), shV h, smV v] w fun e w' => e = .returned (.tuple #[fxV (fixR sec off h v).1, .int .i64 (fixR sec off h v).2]) ∧ Below w.heap.size w w' := by
  have I1 := Lib.hid (fun W => isIn_any v.m sec W)
  rw [hi] at I1
  have E : fixR sec off h v = (fx0, 180) := by unfold fixR; rw [if_pos hm, if_neg (by simp [hi])]
  rw [E]
  clear E
  clear hi ht hv
  obtain ⟨n, ⟨pi, ps, pv, pn⟩, ⟨mi, ms, mv, mn⟩⟩ := v
  obtain ⟨x0, x1, x2, x3, x4, x5, x6⟩ := h
  unfold spV shV smV fxV at *
  try unfold ptV at *
  try unfold fx0
  simp only at *
  subst hm
  go_enter Tryd.func40, Tryd.ntmps40
  go_wp2_with fail
  refine (I1.out _).mono ?_
  rintro e w1 ⟨rfl, hb1⟩
  obtain ⟨g1, g2, g3, g4, hbw, hz⟩ := kept4 hb1
  obtain ⟨_, s0, s1, s2⟩ := three g1
  obtain ⟨_, t0, t1, t2, t3, t4, t5, t6⟩ := seven g2
  obtain ⟨f3, c0, c1, c2, c3, c4, c5, c6, c7, c8⟩ := nine g3
  obtain ⟨f0, d0, d1, d2, d3, d4, d5, d6⟩ := seven g4
  have HB1 := Lib.hid hbw
  have G1 := Lib.hid g1
  have G2 := Lib.hid g2
  have G3 := Lib.hid g3
  have G4 := Lib.hid g4
  clear hb1 g1 g2 g3 g4 hbw hz
  go_wp2_with fail
  try simp only [Exit.inBlock, Exit.then]
  refine bodyPost_ret (by simp [results, Tryd.results40, go_sem, d0, d1, d2, d3, d4, d5, d6]; try rfl) rfl ?_
  refine ⟨rfl, ?_⟩
  have hw := HB1.out
  iterate 7 (refine Below.setCell ?_ (by dsimp only; omega) _)
  exact hw
set_option maxHeartbeats 4000000 in
theorem fix_m1 (sec off : Int) (sa : Option Addr) (sn sc : Nat) (h : Sh) (v : Sm) (w : World) (ht : h.t = 0 ∨ h.t = 1 ∨ h.t = 4) (hv : -9223372036854775808 ≤ v.n ∧ v.n ≤ 9223372036854775807) (hm : v.m.is = true) (hi : inB v.m sec = true) :
    Calls Tryd.prog 40 #[spV sec off (.slice sa sn sc), shV h, smV v] w fun e w' => e = .returned (.tuple #[fxV (fixR sec off h v).1, .int .i64 (fixR sec off h v).2]) ∧ Below w.heap.size w w' := by
  have I1 := Lib.hid (fun W => isIn_any v.m sec W)
  rw [hi] at I1
  have RQ := Lib.hid (fun W => relocated_any sec off sa sn sc h true ⟨wrap64 (v.n + wrap64 (off - v.m.val)), v.p, v.m⟩ W)
  have E : fixR sec off h v = relR h true off ⟨wrap64 (v.n + wrap64 (off - v.m.val)), v.p, v.m⟩ := by unfold fixR; rw [if_pos hm, if_pos hi]
  rw [E]
  clear E
  generalize (relR h true off ⟨wrap64 (v.n + wrap64 (off - v.m.val)), v.p, v.m⟩) = R at *
  clear hi ht hv
  obtain ⟨n, ⟨pi, ps, pv, pn⟩, ⟨mi, ms, mv, mn⟩⟩ := v
  obtain ⟨x0, x1, x2, x3, x4, x5, x6⟩ := h
  unfold spV shV smV fxV at *
  try unfold ptV at *
  try unfold fx0
  simp only at *
  subst hm
  go_enter Tryd.func40, Tryd.ntmps40
  go_wp2_with fail
  refine (I1.out _).mono ?_
  rintro e w1 ⟨rfl, hb1⟩
  obtain ⟨g1, g2, g3, g4, hbw, hz⟩ := kept4 hb1
  obtain ⟨_, s0, s1, s2⟩ := three g1
  obtain ⟨_, t0, t1, t2, t3, t4, t5, t6⟩ := seven g2
  obtain ⟨f3, c0, c1, c2, c3, c4, c5, c6, c7, c8⟩ := nine g3
  obtain ⟨f0, d0, d1, d2, d3, d4, d5, d6⟩ := seven g4
  have HB1 := Lib.hid hbw
  have G1 := Lib.hid g1
  have G2 := Lib.hid g2
  have G3 := Lib.hid g3
  have G4 := Lib.hid g4
  clear hb1 g1 g2 g3 g4 hbw hz
  go_upto_region 5 with fail
  have k3 := heap_setCell_same w1 (w.heap.size + 2) 0 _ _ (.int .i64 (wrap64 (n + wrap64 (off - mv)))) G3.out
  have k1 := (heap_setCell_other w1 ⟨w.heap.size + 2, 0, none⟩ w.heap.size (.int .i64 (wrap64 (n + wrap64 (off - mv)))) (by show w.heap.size ≠ w.heap.size + 2; omega)).trans G1.out
  have k2 := (heap_setCell_other w1 ⟨w.heap.size + 2, 0, none⟩ (w.heap.size + 1) (.int .i64 (wrap64 (n + wrap64 (off - mv)))) (by show w.heap.size + 1 ≠ w.heap.size + 2; omega)).trans G2.out
  have k4 := (heap_setCell_other w1 ⟨w.heap.size + 2, 0, none⟩ (w.heap.size + 3) (.int .i64 (wrap64 (n + wrap64 (off - mv)))) (by show w.heap.size + 3 ≠ w.heap.size + 2; omega)).trans G4.out
  have HB3 := Lib.hid (HB1.out.setCell (p := ⟨w.heap.size + 2, 0, none⟩) (by show w.heap.size ≤ w.heap.size + 2; omega) (.int .i64 (wrap64 (n + wrap64 (off - mv)))))
  generalize (w1.setCell ⟨w.heap.size + 2, 0, none⟩ (.int .i64 (wrap64 (n + wrap64 (off - mv))))) = W3 at *
  clear f3 c0 c1 c2 c3 c4 c5 c6 c7 c8 f0 d0 d1 d2 d3 d4 d5 d6 s0 s1 s2 t0 t1 t2 t3 t4 t5 t6 G1 G2 G3 G4 HB1
  obtain ⟨_, s0, s1, s2⟩ := three k1
  obtain ⟨_, t0, t1, t2, t3, t4, t5, t6⟩ := seven k2
  obtain ⟨_, c0, c1, c2, c3, c4, c5, c6, c7, c8⟩ := nine k3
  have G4 := Lib.hid k4
  clear k1 k2 k3 k4
  go_wp2_with fail
  refine (RQ.out _).mono ?_
  rintro e w2 ⟨rfl, hb1⟩
  have g4 := kept_v hb1 G4.out
  have HB2 := Lib.hid (Below.thn HB3.out HB3.out.size hb1)
  obtain ⟨f0, d0, d1, d2, d3, d4, d5, d6⟩ := seven g4
  clear hb1 g4
  go_wp2_with fail
  try simp only [Exit.inBlock, Exit.then]
  refine bodyPost_ret (by simp [results, Tryd.results40, go_sem, d0, d1, d2, d3, d4, d5, d6]; try rfl) rfl ?_
  refine ⟨rfl, ?_⟩
  have hw := HB2.out
  iterate 7 (refine Below.setCell ?_ (by dsimp only; omega) _)
  exact hw
set_option maxHeartbeats 4000000 in
theorem fix_p1 (sec off : Int) (sa : Option Addr) (sn sc : Nat) (h : Sh) (v : Sm) (w : World) (ht : h.t = 0 ∨ h.t = 1 ∨ h.t = 4) (hv : -9223372036854775808 ≤ v.n ∧ v.n ≤ 9223372036854775807) (hm : v.m.is = false) (hp : v.p.is = true) (hn : nearB h = true) (hi : inB v.p sec = true) :
    Calls Tryd.prog 40 #[spV sec off (.slice sa sn sc), shV h, smV v] w fun e w' => e = .returned (.tuple #[fxV (fixR sec off h v).1, .int .i64 (fixR sec off h v).2]) ∧ Below w.heap.size w w' := by
  have NR := Lib.hid (fun W => isNear_any h W)
  rw [hn] at NR
  have I1 := Lib.hid (fun W => isIn_any v.p sec W)
  rw [hi] at I1
  have FL := Lib.hid (fun W => filled_any h (wrap64 (wrap64 (v.p.val + v.n) - off)) W ht (by simp only [wrap64]; omega))
  have E : fixR sec off h v = fillR h (wrap64 (wrap64 (v.p.val + v.n) - off)) := by unfold fixR; rw [if_neg (by simp [hm]), if_pos hp, if_pos (by simp [hn, hi])]
  rw [E]
  clear E
  unfold fillR
  simp only
  generalize fillF h (wrap64 (wrap64 (v.p.val + v.n) - off)) = R1 at *
  generalize fillE h (wrap64 (wrap64 (v.p.val + v.n) - off)) = R2 at *
  clear hi hn ht hv
  obtain ⟨n, ⟨pi, ps, pv, pn⟩, ⟨mi, ms, mv, mn⟩⟩ := v
  obtain ⟨x0, x1, x2, x3, x4, x5, x6⟩ := h
  unfold spV shV smV fxV at *
  try unfold ptV at *
  try unfold fx0
  simp only at *
  subst hm hp
  go_enter Tryd.func40, Tryd.ntmps40
  go_wp2_with fail
  refine (NR.out _).mono ?_
  rintro e w1 ⟨rfl, hb1⟩
  obtain ⟨g1, g2, g3, g4, hbw, hz⟩ := kept4 hb1
  obtain ⟨_, s0, s1, s2⟩ := three g1
  obtain ⟨_, t0, t1, t2, t3, t4, t5, t6⟩ := seven g2
  obtain ⟨f3, c0, c1, c2, c3, c4, c5, c6, c7, c8⟩ := nine g3
  obtain ⟨f0, d0, d1, d2, d3, d4, d5, d6⟩ := seven g4
  have HB1 := Lib.hid hbw
  have G1 := Lib.hid g1
  have G2 := Lib.hid g2
  have G3 := Lib.hid g3
  have G4 := Lib.hid g4
  clear hb1 g1 g2 g3 g4 hbw hz
  go_wp2_with fail
  refine (I1.out _).mono ?_
  rintro e w2 ⟨rfl, hb1⟩
  have g1 := kept_v hb1 G1.out
  have g2 := kept_v hb1 G2.out
  have g3 := kept_v hb1 G3.out
  have g4 := kept_v hb1 G4.out
  have hbw := Below.thn HB1.out HB1.out.size hb1
  clear s0 s1 s2 t0 t1 t2 t3 t4 t5 t6 f3 c0 c1 c2 c3 c4 c5 c6 c7 c8 f0 d0 d1 d2 d3 d4 d5 d6 G1 G2 G3 G4 HB1
  obtain ⟨_, s0, s1, s2⟩ := three g1
  obtain ⟨_, t0, t1, t2, t3, t4, t5, t6⟩ := seven g2
  obtain ⟨f3, c0, c1, c2, c3, c4, c5, c6, c7, c8⟩ := nine g3
  obtain ⟨f0, d0, d1, d2, d3, d4, d5, d6⟩ := seven g4
  have HB1 := Lib.hid hbw
  have G1 := Lib.hid g1
  have G2 := Lib.hid g2
  have G3 := Lib.hid g3
  have G4 := Lib.hid g4
  clear hb1 g1 g2 g3 g4 hbw
  go_wp2_with fail
  refine (FL.out _).mono ?_
  rintro e w3 ⟨rfl, hb1⟩
  have g4 := kept_v hb1 G4.out
  have HB2 := Lib.hid (Below.thn HB1.out HB1.out.size hb1)
  clear f0 d0 d1 d2 d3 d4 d5 d6
  obtain ⟨f0, d0, d1, d2, d3, d4, d5, d6⟩ := seven g4
  clear hb1 g4
  go_wp2_with fail
  try simp only [Exit.inBlock, Exit.then]
  refine bodyPost_ret (by simp [results, Tryd.results40, go_sem, d0, d1, d2, d3, d4, d5, d6]; try rfl) rfl ?_
  refine ⟨rfl, ?_⟩
  have hw := HB2.out
  iterate 7 (refine Below.setCell ?_ (by dsimp only; omega) _)
  exact hw
set_option maxHeartbeats 4000000 in
theorem fix_p2 (sec off : Int) (sa : Option Addr) (sn sc : Nat) (h : Sh) (v : Sm) (w : World) (ht : h.t = 0 ∨ h.t = 1 ∨ h.t = 4) (hv : -9223372036854775808 ≤ v.n ∧ v.n ≤ 9223372036854775807) (hm : v.m.is = false) (hp : v.p.is = true) (hn : nearB h = true) (hi : inB v.p sec = false) :
    Calls Tryd.prog 40 #[spV sec off (.slice sa sn sc), shV h, smV v] w fun e w' => e = .returned (.tuple #[fxV (fixR sec off h v).1, .int .i64 (fixR sec off h v).2]) ∧ Below w.heap.size w w' := by
  have NR := Lib.hid (fun W => isNear_any h W)
  rw [hn] at NR
  have I1 := Lib.hid (fun W => isIn_any v.p sec W)
  rw [hi] at I1
  have RQ := Lib.hid (fun W => relocated_any sec off sa sn sc h false v W)
  have E : fixR sec off h v = relR h false off v := by unfold fixR; rw [if_neg (by simp [hm]), if_pos hp, if_neg (by simp [hn, hi])]
  rw [E]
  clear E
  generalize relR h false off v = R at *
  clear hn ht hv hi
  obtain ⟨n, ⟨pi, ps, pv, pn⟩, ⟨mi, ms, mv, mn⟩⟩ := v
  obtain ⟨x0, x1, x2, x3, x4, x5, x6⟩ := h
  unfold spV shV smV fxV at *
  try unfold ptV at *
  try unfold fx0
  simp only at *
  subst hm hp
  go_enter Tryd.func40, Tryd.ntmps40
  go_wp2_with fail
  refine (NR.out _).mono ?_
  rintro e w1 ⟨rfl, hb1⟩
  obtain ⟨g1, g2, g3, g4, hbw, hz⟩ := kept4 hb1
  obtain ⟨_, s0, s1, s2⟩ := three g1
  obtain ⟨_, t0, t1, t2, t3, t4, t5, t6⟩ := seven g2
  obtain ⟨f3, c0, c1, c2, c3, c4, c5, c6, c7, c8⟩ := nine g3
  obtain ⟨f0, d0, d1, d2, d3, d4, d5, d6⟩ := seven g4
  have HB1 := Lib.hid hbw
  have G1 := Lib.hid g1
  have G2 := Lib.hid g2
  have G3 := Lib.hid g3
  have G4 := Lib.hid g4
  clear hb1 g1 g2 g3 g4 hbw hz
  go_wp2_with fail
  refine (I1.out _).mono ?_
  rintro e w2 ⟨rfl, hb1⟩
  have g1 := kept_v hb1 G1.out
  have g2 := kept_v hb1 G2.out
  have g3 := kept_v hb1 G3.out
  have g4 := kept_v hb1 G4.out
  have hbw := Below.thn HB1.out HB1.out.size hb1
  clear s0 s1 s2 t0 t1 t2 t3 t4 t5 t6 f3 c0 c1 c2 c3 c4 c5 c6 c7 c8 f0 d0 d1 d2 d3 d4 d5 d6 G1 G2 G3 G4 HB1
  obtain ⟨_, s0, s1, s2⟩ := three g1
  obtain ⟨_, t0, t1, t2, t3, t4, t5, t6⟩ := seven g2
  obtain ⟨f3, c0, c1, c2, c3, c4, c5, c6, c7, c8⟩ := nine g3
  obtain ⟨f0, d0, d1, d2, d3, d4, d5, d6⟩ := seven g4
  have HB1 := Lib.hid hbw
  have G1 := Lib.hid g1
  have G2 := Lib.hid g2
  have G3 := Lib.hid g3
  have G4 := Lib.hid g4
  clear hb1 g1 g2 g3 g4 hbw
  go_wp2_with fail
  refine (RQ.out _).mono ?_
  rintro e w3 ⟨rfl, hb1⟩
  have g4 := kept_v hb1 G4.out
  have HB2 := Lib.hid (Below.thn HB1.out HB1.out.size hb1)
  clear f0 d0 d1 d2 d3 d4 d5 d6
  obtain ⟨f0, d0, d1, d2, d3, d4, d5, d6⟩ := seven g4
  clear hb1 g4
  go_wp2_with fail
  try simp only [Exit.inBlock, Exit.then]
  refine bodyPost_ret (by simp [results, Tryd.results40, go_sem, d0, d1, d2, d3, d4, d5, d6]; try rfl) rfl ?_
  refine ⟨rfl, ?_⟩
  have hw := HB2.out
  iterate 7 (refine Below.setCell ?_ (by dsimp only; omega) _)
  exact hw
set_option maxHeartbeats 4000000 in
theorem fix_p3 (sec off : Int) (sa : Option Addr) (sn sc : Nat) (h : Sh) (v : Sm) (w : World) (ht : h.t = 0 ∨ h.t = 1 ∨ h.t = 4) (hv : -9223372036854775808 ≤ v.n ∧ v.n ≤ 9223372036854775807) (hm : v.m.is = false) (hp : v.p.is = true) (hn : nearB h = false) :
    Calls Tryd.prog 40 #[spV sec off (.slice sa sn sc), shV h, smV v] w fun e w' => e = .returned (.tuple #[fxV (fixR sec off h v).1, .int .i64 (fixR sec off h v).2]) ∧ Below w.heap.size w w' := by
  have NR := Lib.hid (fun W => isNear_any h W)
  rw [hn] at NR
  have RQ := Lib.hid (fun W => relocated_any sec off sa sn sc h false v W)
  have E : fixR sec off h v = relR h false off v := by unfold fixR; rw [if_neg (by simp [hm]), if_pos hp, if_neg (by simp [hn])]
  rw [E]
  clear E
  generalize relR h false off v = R at *
  clear hn ht hv
  obtain ⟨n, ⟨pi, ps, pv, pn⟩, ⟨mi, ms, mv, mn⟩⟩ := v
  obtain ⟨x0, x1, x2, x3, x4, x5, x6⟩ := h
  unfold spV shV smV fxV at *
  try unfold ptV at *
  try unfold fx0
  simp only at *
  subst hm hp
  go_enter Tryd.func40, Tryd.ntmps40
  go_wp2_with fail
  refine (NR.out _).mono ?_
  rintro e w1 ⟨rfl, hb1⟩
  obtain ⟨g1, g2, g3, g4, hbw, hz⟩ := kept4 hb1
  obtain ⟨_, s0, s1, s2⟩ := three g1
  obtain ⟨_, t0, t1, t2, t3, t4, t5, t6⟩ := seven g2
  obtain ⟨f3, c0, c1, c2, c3, c4, c5, c6, c7, c8⟩ := nine g3
  obtain ⟨f0, d0, d1, d2, d3, d4, d5, d6⟩ := seven g4
  have HB1 := Lib.hid hbw
  have G1 := Lib.hid g1
  have G2 := Lib.hid g2
  have G3 := Lib.hid g3
  have G4 := Lib.hid g4
  clear hb1 g1 g2 g3 g4 hbw hz
  go_wp2_with fail
  refine (RQ.out _).mono ?_
  rintro e w3 ⟨rfl, hb1⟩
  have g4 := kept_v hb1 G4.out
  have HB2 := Lib.hid (Below.thn HB1.out HB1.out.size hb1)
  clear f0 d0 d1 d2 d3 d4 d5 d6
  obtain ⟨f0, d0, d1, d2, d3, d4, d5, d6⟩ := seven g4
  clear hb1 g4
  go_wp2_with fail
  try simp only [Exit.inBlock, Exit.then]
  refine bodyPost_ret (by simp [results, Tryd.results40, go_sem, d0, d1, d2, d3, d4, d5, d6]; try rfl) rfl ?_
  refine ⟨rfl, ?_⟩
  have hw := HB2.out
  iterate 7 (refine Below.setCell ?_ (by dsimp only; omega) _)
  exact hw
set_option maxHeartbeats 4000000 in
theorem fix_n1 (sec off : Int) (sa : Option Addr) (sn sc : Nat) (h : Sh) (v : Sm) (w : World) (ht : h.t = 0 ∨ h.t = 1 ∨ h.t = 4) (hv : -9223372036854775808 ≤ v.n ∧ v.n ≤ 9223372036854775807) (hm : v.m.is = false) (hp : v.p.is = false) (hn : nearB h = true) :
    Calls Tryd.prog 40 #[spV sec off (.slice sa sn sc), shV h, smV v] w fun e w' => e = .returned (.tuple #[fxV (fixR sec off h v).1, .int .i64 (fixR sec off h v).2]) ∧ Below w.heap.size w w' := by
  have NR := Lib.hid (fun W => isNear_any h W)
  rw [hn] at NR
  have E : fixR sec off h v = (fx0, 180) := by unfold fixR; rw [if_neg (by simp [hm]), if_neg (by simp [hp]), if_pos hn]
  rw [E]
  clear E
  clear hn ht hv
  obtain ⟨n, ⟨pi, ps, pv, pn⟩, ⟨mi, ms, mv, mn⟩⟩ := v
  obtain ⟨x0, x1, x2, x3, x4, x5, x6⟩ := h
  unfold spV shV smV fxV at *
  try unfold ptV at *
  try unfold fx0
  simp only at *
  subst hm hp
  go_enter Tryd.func40, Tryd.ntmps40
  go_wp2_with fail
  refine (NR.out _).mono ?_
  rintro e w1 ⟨rfl, hb1⟩
  obtain ⟨g1, g2, g3, g4, hbw, hz⟩ := kept4 hb1
  obtain ⟨_, s0, s1, s2⟩ := three g1
  obtain ⟨_, t0, t1, t2, t3, t4, t5, t6⟩ := seven g2
  obtain ⟨f3, c0, c1, c2, c3, c4, c5, c6, c7, c8⟩ := nine g3
  obtain ⟨f0, d0, d1, d2, d3, d4, d5, d6⟩ := seven g4
  have HB1 := Lib.hid hbw
  have G1 := Lib.hid g1
  have G2 := Lib.hid g2
  have G3 := Lib.hid g3
  have G4 := Lib.hid g4
  clear hb1 g1 g2 g3 g4 hbw hz
  go_wp2_with fail
  try simp only [Exit.inBlock, Exit.then]
  refine bodyPost_ret (by simp [results, Tryd.results40, go_sem, d0, d1, d2, d3, d4, d5, d6]; try rfl) rfl ?_
  refine ⟨rfl, ?_⟩
  have hw := HB1.out
  iterate 7 (refine Below.setCell ?_ (by dsimp only; omega) _)
  exact hw
set_option maxHeartbeats 4000000 in
theorem fix_n2 (sec off : Int) (sa : Option Addr) (sn sc : Nat) (h : Sh) (v : Sm) (w : World) (ht : h.t = 0 ∨ h.t = 1 ∨ h.t = 4) (hv : -9223372036854775808 ≤ v.n ∧ v.n ≤ 9223372036854775807) (hm : v.m.is = false) (hp : v.p.is = false) (hn : nearB h = false) :
    Calls Tryd.prog 40 #[spV sec off (.slice sa sn sc), shV h, smV v] w fun e w' => e = .returned (.tuple #[fxV (fixR sec off h v).1, .int .i64 (fixR sec off h v).2]) ∧ Below w.heap.size w w' := by
  have NR := Lib.hid (fun W => isNear_any h W)
  rw [hn] at NR
  have FL := Lib.hid (fun W => filled_any h v.n W ht hv)
  have E : fixR sec off h v = fillR h v.n := by unfold fixR; rw [if_neg (by simp [hm]), if_neg (by simp [hp]), if_neg (by simp [hn])]
  rw [E]
  clear E
  unfold fillR
  simp only
  generalize fillF h v.n = R1 at *
  generalize fillE h v.n = R2 at *
  clear hn ht hv
  obtain ⟨n, ⟨pi, ps, pv, pn⟩, ⟨mi, ms, mv, mn⟩⟩ := v
  obtain ⟨x0, x1, x2, x3, x4, x5, x6⟩ := h
  unfold spV shV smV fxV at *
  try unfold ptV at *
  try unfold fx0
  simp only at *
  subst hm hp
  go_enter Tryd.func40, Tryd.ntmps40
  go_wp2_with fail
  refine (NR.out _).mono ?_
  rintro e w1 ⟨rfl, hb1⟩
  obtain ⟨g1, g2, g3, g4, hbw, hz⟩ := kept4 hb1
  obtain ⟨_, s0, s1, s2⟩ := three g1
  obtain ⟨_, t0, t1, t2, t3, t4, t5, t6⟩ := seven g2
  obtain ⟨f3, c0, c1, c2, c3, c4, c5, c6, c7, c8⟩ := nine g3
  obtain ⟨f0, d0, d1, d2, d3, d4, d5, d6⟩ := seven g4
  have HB1 := Lib.hid hbw
  have G1 := Lib.hid g1
  have G2 := Lib.hid g2
  have G3 := Lib.hid g3
  have G4 := Lib.hid g4
  clear hb1 g1 g2 g3 g4 hbw hz
  go_wp2_with fail
  refine (FL.out _).mono ?_
  rintro e w3 ⟨rfl, hb1⟩
  have g4 := kept_v hb1 G4.out
  have HB2 := Lib.hid (Below.thn HB1.out HB1.out.size hb1)
  clear f0 d0 d1 d2 d3 d4 d5 d6
  obtain ⟨f0, d0, d1, d2, d3, d4, d5, d6⟩ := seven g4
  clear hb1 g4
  go_wp2_with fail
  try simp only [Exit.inBlock, Exit.then]
  refine bodyPost_ret (by simp [results, Tryd.results40, go_sem, d0, d1, d2, d3, d4, d5, d6]; try rfl) rfl ?_
  refine ⟨rfl, ?_⟩
  have hw := HB2.out
  iterate 7 (refine Below.setCell ?_ (by dsimp only; omega) _)
  exact hw
theorem fix_any (sec off : Int) (sa : Option Addr) (sn sc : Nat) (h : Sh) (v : Sm) (w : World) (ht : h.t = 0 ∨ h.t = 1 ∨ h.t = 4) (hv : -9223372036854775808 ≤ v.n ∧ v.n ≤ 9223372036854775807) :
    Calls Tryd.prog 40 #[spV sec off (.slice sa sn sc), shV h, smV v] w fun e w' => e = .returned (.tuple #[fxV (fixR sec off h v).1, .int .i64 (fixR sec off h v).2]) ∧ Below w.heap.size w w' := by
  cases hm : v.m.is with
  | true =>
    cases hi : inB v.m sec with
    | false => exact fix_m0 sec off sa sn sc h v w ht hv hm hi
    | true => exact fix_m1 sec off sa sn sc h v w ht hv hm hi
  | false =>
    cases hp : v.p.is with
    | true =>
      cases hn : nearB h with
      | true =>
        cases hi : inB v.p sec with
        | true => exact fix_p1 sec off sa sn sc h v w ht hv hm hp hn hi
        | false => exact fix_p2 sec off sa sn sc h v w ht hv hm hp hn hi
      | false => exact fix_p3 sec off sa sn sc h v w ht hv hm hp hn
    | false =>
      cases hn : nearB h with
      | true => exact fix_n1 sec off sa sn sc h v w ht hv hm hp hn
      | false => exact fix_n2 sec off sa sn sc h v w ht hv hm hp hn
end Go.Proofs.YtjkhgljlipljdaaDoor
