/-
  What each call of enc's wordOf, distanceBits returns. Conditions: the classes of branches; only A is not zero.
-/
import Derived.Test.YtjkhgljlipljdaaDoorEncH
namespace Go.Proofs.YtjkhgljlipljdaaDoor
open Go.RowKit
set_option linter.unusedVariables false
set_option linter.unusedSimpArgs false
theorem okP_n {v n : Int} (h0 : 0 ≤ n) (h1 : n ≤ 32) : okP (numQ v n) := ⟨h0, h1⟩
theorem paL_one (ps : List Pa) : ∀ v ∈ shL ps, v.oneCell' = true := by
  intro v hv
  obtain ⟨p, _, hp⟩ := List.mem_flatMap.1 hv
  simp only [paL, List.mem_cons, List.not_mem_nil, or_false] at hp
  rcases hp with rfl | rfl | rfl <;> rfl
/-- the classes of near holes -/
def brOp (op : Int) : Prop := op = 8 ∨ op = 7 ∨ op = 10 ∨ op = 18 ∨ op = 1
/-- the word of a class where only A is not zero -/
def wdN (op a : Int) : Nat :=
  if op = 8 then 335544320 + (a % 67108864).toNat else if op = 7 then 1409286144 + (a % 524288).toNat * 32 else if op = 10 then 905969664 + (a % 16384).toNat * 32
  else if op = 18 then 402653184 + (a % 524288).toNat * 32 else 268435456 + (a % 4).toNat * 536870912 + (a / 4 % 524288).toNat * 32
theorem wB_any (a : Int) (w : World) :
    Calls Tryd.prog 70 #[inV 8 a] w fun e w' => e = .returned (.int .u32 ((335544320 + (a % 67108864).toNat : Nat) : Int)) ∧ Below w.heap.size w w' := by
  have h := word_ps 8 a (bitQ false) (digP [48, 48, 49, 48, 49]) (numQ a 26) zeP zeP zeP zeP zeP zeP zeP (show okP (numQ 0 1) from ⟨by decide, by decide⟩) ⟨by show (0 : Int) ≤ ((_ : Nat) : Int); omega, by show ((_ : Nat) : Int) ≤ 32; decide⟩ (okP_n (by decide) (by decide)) ⟨by decide, by decide⟩ ⟨by decide, by decide⟩ ⟨by decide, by decide⟩ ⟨by decide, by decide⟩ ⟨by decide, by decide⟩ ⟨by decide, by decide⟩ ⟨by decide, by decide⟩
    (fun W => shape_br 8 a (by decide) (by decide) (shL [(bitQ false), (digP [48, 48, 49, 48, 49]), (numQ a 26), zeP, zeP, zeP, zeP, zeP, zeP, zeP]) (by rfl) (paL_one _) (fun W => ofB_any a W) W) w
  rw [wB_val a] at h
  exact h
theorem wBCond_any (a : Int) (w : World) :
    Calls Tryd.prog 70 #[inV 7 a] w fun e w' => e = .returned (.int .u32 ((1409286144 + (a % 524288).toNat * 32 : Nat) : Int)) ∧ Below w.heap.size w w' := by
  have h := word_ps 7 a (digP [48, 49, 48, 49, 48, 49, 48, 48]) (numQ a 19) (digP [48]) (numQ 0 4) zeP zeP zeP zeP zeP zeP ⟨by show (0 : Int) ≤ ((_ : Nat) : Int); omega, by show ((_ : Nat) : Int) ≤ 32; decide⟩ (okP_n (by decide) (by decide)) ⟨by show (0 : Int) ≤ ((_ : Nat) : Int); omega, by show ((_ : Nat) : Int) ≤ 32; decide⟩ (okP_n (by decide) (by decide)) ⟨by decide, by decide⟩ ⟨by decide, by decide⟩ ⟨by decide, by decide⟩ ⟨by decide, by decide⟩ ⟨by decide, by decide⟩ ⟨by decide, by decide⟩
    (fun W => shape_br 7 a (by decide) (by decide) (shL [(digP [48, 49, 48, 49, 48, 49, 48, 48]), (numQ a 19), (digP [48]), (numQ 0 4), zeP, zeP, zeP, zeP, zeP, zeP]) (by rfl) (paL_one _) (fun W => ofBCond_any a W) W) w
  rw [wBCond_val a] at h
  exact h
theorem wTb_any (a : Int) (w : World) :
    Calls Tryd.prog 70 #[inV 10 a] w fun e w' => e = .returned (.int .u32 ((905969664 + (a % 16384).toNat * 32 : Nat) : Int)) ∧ Below w.heap.size w w' := by
  have h := word_ps 10 a (numQ 0 1) (digP [48, 49, 49, 48, 49, 49]) (numQ 0 1) (numQ 0 5) (numQ a 14) (numQ 0 5) zeP zeP zeP zeP (okP_n (by decide) (by decide)) ⟨by show (0 : Int) ≤ ((_ : Nat) : Int); omega, by show ((_ : Nat) : Int) ≤ 32; decide⟩ (okP_n (by decide) (by decide)) (okP_n (by decide) (by decide)) (okP_n (by decide) (by decide)) (okP_n (by decide) (by decide)) ⟨by decide, by decide⟩ ⟨by decide, by decide⟩ ⟨by decide, by decide⟩ ⟨by decide, by decide⟩
    (fun W => shape_br 10 a (by decide) (by decide) (shL [(numQ 0 1), (digP [48, 49, 49, 48, 49, 49]), (numQ 0 1), (numQ 0 5), (numQ a 14), (numQ 0 5), zeP, zeP, zeP, zeP]) (by rfl) (paL_one _) (fun W => ofTb_any a W) W) w
  rw [wTb_val a] at h
  exact h
theorem wLdLit_any (a : Int) (w : World) :
    Calls Tryd.prog 70 #[inV 18 a] w fun e w' => e = .returned (.int .u32 ((402653184 + (a % 524288).toNat * 32 : Nat) : Int)) ∧ Below w.heap.size w w' := by
  have h := word_ps 18 a (numQ 0 2) (digP [48, 49, 49, 48, 48, 48]) (numQ a 19) (numQ 0 5) zeP zeP zeP zeP zeP zeP (okP_n (by decide) (by decide)) ⟨by show (0 : Int) ≤ ((_ : Nat) : Int); omega, by show ((_ : Nat) : Int) ≤ 32; decide⟩ (okP_n (by decide) (by decide)) (okP_n (by decide) (by decide)) ⟨by decide, by decide⟩ ⟨by decide, by decide⟩ ⟨by decide, by decide⟩ ⟨by decide, by decide⟩ ⟨by decide, by decide⟩ ⟨by decide, by decide⟩
    (fun W => shape_ld 18 a (by decide) (by decide) (shL [(numQ 0 2), (digP [48, 49, 49, 48, 48, 48]), (numQ a 19), (numQ 0 5), zeP, zeP, zeP, zeP, zeP, zeP]) (by rfl) (paL_one _) (fun W => ofLdLit_any a W) W) w
  rw [wLdLit_val a] at h
  exact h
theorem wAdr_any (a : Int) (w : World) :
    Calls Tryd.prog 70 #[inV 1 a] w fun e w' => e = .returned (.int .u32 ((268435456 + (a % 4).toNat * 536870912 + (a / 4 % 524288).toNat * 32 : Nat) : Int)) ∧ Below w.heap.size w w' := by
  have h := word_ps 1 a (bitQ false) (numQ a 2) (digP [49, 48, 48, 48, 48]) (numQ (a / 4) 19) (numQ 0 5) zeP zeP zeP zeP zeP (show okP (numQ 0 1) from ⟨by decide, by decide⟩) (okP_n (by decide) (by decide)) ⟨by show (0 : Int) ≤ ((_ : Nat) : Int); omega, by show ((_ : Nat) : Int) ≤ 32; decide⟩ (okP_n (by decide) (by decide)) (okP_n (by decide) (by decide)) ⟨by decide, by decide⟩ ⟨by decide, by decide⟩ ⟨by decide, by decide⟩ ⟨by decide, by decide⟩ ⟨by decide, by decide⟩
    (fun W => shape_im 1 a (by decide) (shL [(bitQ false), (numQ a 2), (digP [49, 48, 48, 48, 48]), (numQ (a / 4) 19), (numQ 0 5), zeP, zeP, zeP, zeP, zeP]) (by rfl) (paL_one _) (fun W => ofAdr_any a W) W) w
  rw [wAdr_val a] at h
  exact h
theorem wordOf_any (op a : Int) (h : brOp op) (w : World) :
    Calls Tryd.prog 70 #[inV op a] w fun e w' => e = .returned (.int .u32 ((wdN op a : Nat) : Int)) ∧ Below w.heap.size w w' := by
  rcases h with rfl | rfl | rfl | rfl | rfl
  · exact wB_any a w
  · exact wBCond_any a w
  · exact wTb_any a w
  · exact wLdLit_any a w
  · exact wAdr_any a w
/-- the bits of a class's distance -/
def mkN (op : Int) : Int := if op = 8 then 67108863 else if op = 10 then 524256 else if op = 1 then 1627389920 else 16777184
set_option maxHeartbeats 400000 in
theorem distanceBits_any (op : Int) (h : brOp op) (w : World) :
    Calls Tryd.prog 67 #[.int .i64 op] w fun e w' => e = .returned (.int .u32 (mkN op)) ∧ Below w.heap.size w w' := by
  have W1 := Lib.hid (fun W => wordOf_any op (-1) h W)
  have W0 := Lib.hid (fun W => wordOf_any op 0 h W)
  have HX : Hid (bits .xor .u32 ((wdN op (-1) : Nat) : Int) ((wdN op 0 : Nat) : Int) = mkN op) := Lib.hid (by
    rcases h with rfl | rfl | rfl | rfl | rfl <;> decide)
  generalize ((wdN op (-1) : Nat) : Int) = x1 at *
  generalize ((wdN op 0 : Nat) : Int) = x0 at *
  generalize mkN op = m at *
  clear h
  unfold inV at *
  go_enter Tryd.func67, Tryd.ntmps67
  go_wp2_with fail
  refine (W1.out _).mono ?_
  rintro e w1 ⟨rfl, hb1⟩
  have HB1 := Lib.hid hb1
  clear hb1
  go_wp2_with fail
  refine (W0.out _).mono ?_
  rintro e w2 ⟨rfl, hb2⟩
  have HB2 := Lib.hid (HB1.out.trans (hb2.mono HB1.out.size))
  clear hb2
  go_wp2_with fail
  go_ret
  exact ⟨by rw [HX.out]; rfl, HB2.out⟩
end Go.Proofs.YtjkhgljlipljdaaDoor
