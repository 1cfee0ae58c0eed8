/-
  The law FixupLinked returns true, all its ways. Conditions: what the start left in the two tables (Gd), how the symbols and the rows of addresses lie, that a hole's number is within 64 bits.
-/
import Derived.Test.YtjkhgljlipljdaaDoorFixV
namespace Go.Proofs.YtjkhgljlipljdaaDoor
open Go.RowKit
set_option linter.unusedVariables false
set_option linter.unusedSimpArgs false

set_option maxRecDepth 100000 in
set_option maxHeartbeats 4000000 in
theorem linked_early (k s a : Int) (p m : BA) (sec off : Int) (sa : Option Addr) (sn sc : Nat) (u1 u2 : Value) (w : World) (hl : 200 < sn ∨ sec < 0)
    (LV : Hid (∀ W, Below w.heap.size w W → Calls Tryd.prog 9 #[] W fun e w' => e = .returned (.bool true) ∧ Below W.heap.size W w')) :
    Calls Tryd.prog 7 #[.agg #[.int .i64 k, .int .i64 s, .int .i64 a, .string p, .string m, .int .i64 sec, .int .i64 off, .slice sa sn sc], u1, u2] w fun e w' => e = .returned (.bool true) ∧ Below w.heap.size w w' := by
  have HB0 := Lib.hid (below1 w (.cells #[.int .i64 k, .int .i64 s, .int .i64 a, .string p, .string m, .int .i64 sec, .int .i64 off, .slice sa sn sc] 44))
  by_cases h1 : (200 : Int) < (sn : Int)
  · clear hl
    go_enter Tryd.func7, Tryd.ntmps7
    go_wp2_with fail
    refine (LV.out _ HB0.out).mono ?_
    rintro e w1 ⟨rfl, hb1⟩
    obtain ⟨g1, hbw, hz⟩ := kept1 hb1
    obtain ⟨c0, c1, c2, c3, c4, c5, c6, c7⟩ := eight g1
    have HB1 := Lib.hid hbw
    clear hb1 g1 hbw hz
    go_wp2_with fail
    go_ret
    exact ⟨rfl, HB1.out⟩
  · have h2 : sec < 0 := by omega
    clear hl
    go_enter Tryd.func7, Tryd.ntmps7
    go_wp2_with fail
    refine (LV.out _ HB0.out).mono ?_
    rintro e w1 ⟨rfl, hb1⟩
    obtain ⟨g1, hbw, hz⟩ := kept1 hb1
    obtain ⟨c0, c1, c2, c3, c4, c5, c6, c7⟩ := eight g1
    have HB1 := Lib.hid hbw
    clear hb1 g1 hbw hz
    go_wp2_with fail
    go_ret
    exact ⟨rfl, HB1.out⟩
set_option maxRecDepth 100000 in
set_option maxHeartbeats 4000000 in
theorem linked_bad (k s a : Int) (p m : BA) (sec off : Int) (sa : Option Addr) (sn sc : Nat) (u1 u2 : Value) (w : World) (ee : Int) (hl : sn ≤ 200) (hs : 0 ≤ sec) (hee : ee ≠ 0)
    (LV : Hid (∀ W, Below w.heap.size w W → Calls Tryd.prog 9 #[] W fun e w' => e = .returned (.bool true) ∧ Below W.heap.size W w'))
    (R1 : Hid (∀ W, Below w.heap.size w W → Calls Tryd.prog 22 #[.agg #[.int .i64 k, .int .i64 s, .int .i64 a, .string p, .string m], .int .i64 sec, .int .i64 off, .slice sa sn sc] W fun e w' => e = .returned (.tuple #[fxV fx0, .int .i64 ee]) ∧ Below W.heap.size W w')) :
    Calls Tryd.prog 7 #[.agg #[.int .i64 k, .int .i64 s, .int .i64 a, .string p, .string m, .int .i64 sec, .int .i64 off, .slice sa sn sc], u1, u2] w fun e w' => e = .returned (.bool true) ∧ Below w.heap.size w w' := by
  have HB0 := Lib.hid (below1 w (.cells #[.int .i64 k, .int .i64 s, .int .i64 a, .string p, .string m, .int .i64 sec, .int .i64 off, .slice sa sn sc] 44))
  have hl' : ¬ (200 : Int) < (sn : Int) := by omega
  have hs' : ¬ sec < 0 := by omega
  have he : (ee != 0) = true := by simp [hee]
  unfold fxV fx0 at R1
  clear hl hs hee
  go_enter Tryd.func7, Tryd.ntmps7
  go_wp2_with fail
  refine (LV.out _ HB0.out).mono ?_
  rintro e w1 ⟨rfl, hb1⟩
  obtain ⟨g1, hbw, hz⟩ := kept1 hb1
  obtain ⟨c0, c1, c2, c3, c4, c5, c6, c7⟩ := eight g1
  have G1 := Lib.hid g1
  have HB1 := Lib.hid hbw
  clear hb1 g1 hbw hz
  go_wp2_with fail
  refine (R1.out _ HB1.out).mono ?_
  rintro e w2 ⟨rfl, hb2⟩
  have k1 := below1 w2 (.cells #[.bool false, .int .i64 0, .bool false, .int .i64 0, .int .i64 0, .int .i64 0, .int .i64 0] 48)
  have HB2 := Lib.hid (Below.thn (Below.thn HB1.out HB1.out.size hb2) (Below.thn HB1.out HB1.out.size hb2).size k1)
  clear hb2 k1
  go_wp2_with fail
  go_ret
  exact ⟨rfl, HB2.out⟩
theorem linked_law (h : Hl) (sec off : Int) (sv u1 u2 : Value) (L : List Sy) (S E : List Int) (w : World) (hG : Gd w) (hS : SymsO w sv L) (h1 : NusO w u1 S) (h2 : NusO w u2 E) (ha : in64 h.a) :
    Calls Tryd.prog 7 #[csV h sec off sv, u1, u2] w fun e w' => e = .returned (.bool true) ∧ Below w.heap.size w w' := by
  have LV := Lib.hid (fun W (hb : Below w.heap.size w W) => live_any W (hG.keep hb))
  have R1 := fun W (hb : Below w.heap.size w W) => resolve_any h sec off sv L W (hG.keep hb) (hS.keep hb) ha
  have NE := Lib.hid (fun W => near_any h W)
  have AD := fun nm W (hb : Below w.heap.size w W) => address_any h sec off sv u1 u2 L S E nm W (hS.keep hb) (h1.keep hb) (h2.keep hb)
  obtain ⟨sa, sc, rfl⟩ := hS.slice
  by_cases hl : 200 < L.length ∨ sec < 0
  · exact linked_early _ _ _ _ _ _ _ _ _ _ _ _ _ hl LV
  have hl1 : L.length ≤ 200 := by omega
  have hs1 : 0 ≤ sec := by omega
  cases hR : resO h sec off L with
  | mk R e =>
    rw [hR] at R1
    by_cases he : e = 0
    · subst he
      obtain ⟨pA, mA, e1, e2, meant, hM, hd⟩ := link_math (S := S) (E := E) hs1 ha hR
      have AP := Lib.hid (fun W hb => e1 ▸ AD h.p W hb)
      have AM := Lib.hid (fun W hb => e2 ▸ AD h.m W hb)
      have e3 : adr S E sec off L dotB = (wrap64 (atI S sec + off), true) := by unfold adr; rw [if_neg (by decide), if_pos rfl]
      have AH := Lib.hid (fun W hb => e3 ▸ AD dotB W hb)
      obtain ⟨k, s, a, p, m⟩ := h
      obtain ⟨x0, x1, x2, x3, x4, x5, x6⟩ := R
      rcases hd with ⟨hp, hv⟩ | ⟨hp, ho, j, y, hj, hy, q, hq, hv⟩
      · exact linked_walk k s a p m sec off sa L.length sc u1 u2 w x0 x1 x2 x3 x4 x5 x6 0 pA mA _ default default default default default hl1 hs1 rfl LV (Lib.hid R1) NE AP AM AH meant hM hp hv
      · have hjl : j < L.length := (List.getElem?_eq_some_iff.1 hy).1
        have AY := Lib.hid (fun W hb => hq ▸ AD y.name W hb)
        obtain ⟨g, off2, cap, y', hy', hvv, hg, c0, _⟩ := hS.at hjl
        obtain rfl : y = y' := Option.some.inj (hy.symm.trans hy')
        cases hvv
        exact linked_reloc k s a p m sec off _ L.length sc u1 u2 w x0 x1 x2 x3 x4 x5 x6 0 pA mA _ y q g off2 j hl1 hs1 rfl LV (Lib.hid R1) NE AP AM AH meant hM hp ho.symm hj hjl
          (Lib.hid fun W hb => ⟨rfl, Nat.lt_of_lt_of_le hg hb.size, cell_kept hb c0⟩) AY hv
    · obtain rfl := res_bad hR he
      exact linked_bad _ _ _ _ _ _ _ _ _ _ _ _ _ e hl1 hs1 he LV (Lib.hid R1)
end Go.Proofs.YtjkhgljlipljdaaDoor
