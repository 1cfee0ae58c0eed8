/-
  The document's takes, Check: what each call returns. Conditions: texts that are no longer than any.
-/
import Derived.Test.YtdkflmpdelfgoaaGreatDoorExprH
import Derived.Test.YtdkflmpdelfgoaaGreatDoorExprRefA
import Derived.Test.YtdkflmpdelfgoaaGreatDoorExprD
import Derived.Test.YtdkflmpdelfgoaaGreatDoorExprG
import Derived.Deep.RegionHeld3
import Derived.Test.YtdkflmpdelfgoaaGreatDoorExprC1
import Derived.Test.YtdkflmpdelfgoaaGreatDoorExprJ
import Derived.Test.YtdkflmpdelfgoaaGreatDoorExprI
import Derived.StillTailTactics
import Derived.Test.YtdkflmpdelfgoaaGreatDoorExprP
namespace Go.Proofs.YtdkflmpdelfgoaaGreatDoor
open Go.RowKit Go.Shelf
set_option linter.unusedVariables false
set_option linter.unusedSimpArgs false
attribute [local go_sem] Oper.semAt_some

def takesR (k : Int) : Int := if k = 1 ∨ k = 2 then 0 else if k = 3 ∨ k = 4 then 1 else if 5 ≤ k ∧ k ≤ 14 then 2 else -1
end Go.Proofs.YtdkflmpdelfgoaaGreatDoor
namespace Go.Proofs.YtdkflmpdelfgoaaGreatDoor
open Go.RowKit Go.Shelf
set_option linter.unusedVariables false
set_option linter.unusedSimpArgs false
attribute [local go_sem] Oper.semAt_some

theorem wrap64_mod (x : Int) : wrap64 (x % 18446744073709551616) = wrap64 x := by unfold wrap64; omega
theorem u64_of (a : Int) : IntKind.u64.wrap a = a % 18446744073709551616 := by rw [IntKind.wrap_u64]
theorem i64_of (n : Int) : IntKind.i64.wrap n = wrap64 n := by unfold wrap64; rw [IntKind.wrap_i64]
/-- the number behind i doublings -/
def dbl (a : Int) (i : Nat) : Nat := (a * 2 ^ i % 18446744073709551616).toNat
theorem dbl_eq (a : Int) (i : Nat) : (dbl a i : Int) = a * 2 ^ i % 18446744073709551616 := by unfold dbl; omega
theorem dbl_succ (a : Int) (i : Nat) : IntKind.u64.wrap ((dbl a i : Int) * 2) = (dbl a (i + 1) : Int) := by
  rw [u64_of, dbl_eq, dbl_eq, Int.pow_succ, ← Int.mul_assoc]
  generalize a * 2 ^ i = y
  omega
def hlv (a : Int) (i : Nat) : Nat := (a % 18446744073709551616).toNat / 2 ^ i
theorem hlv_succ (a : Int) (i : Nat) : hlv a i / 2 = hlv a (i + 1) := by
  unfold hlv; rw [Nat.div_div_eq_div_mul, Nat.pow_succ]
theorem hlv_lt (a : Int) (i : Nat) : hlv a i < 18446744073709551616 := by
  unfold hlv
  have h : (a % 18446744073709551616).toNat < 18446744073709551616 := by omega
  exact Nat.lt_of_le_of_lt (Nat.div_le_self _ _) h
theorem shl_end (a b : Int) (hb0 : 0 ≤ b) (hb1 : b ≤ 63) : wrap64 (dbl a b.toNat : Int) = wrap64 (a * 2 ^ b.toNat) := by
  rw [dbl_eq, wrap64_mod]
theorem shr_end (a b : Int) : wrap64 (hlv a b.toNat : Int) = wrap64 (IntKind.u64.wrap a / 2 ^ b.toNat) := by
  congr 1
  unfold hlv
  rw [u64_of]
  have h : ((a % 18446744073709551616).toNat : Int) = a % 18446744073709551616 := by omega
  rw [Int.natCast_ediv, h]
  simp
end Go.Proofs.YtdkflmpdelfgoaaGreatDoor
namespace Go.Proofs.YtdkflmpdelfgoaaGreatDoor
open Go.RowKit Go.Shelf
set_option linter.unusedVariables false
set_option linter.unusedSimpArgs false
attribute [local go_sem] Oper.semAt_some

theorem Box3.set2 {w W : World} {x y z : V3} (h : Box3 w x y z W) (u : V3) : Box3 w x y u (((W.setCell ⟨w.heap.size + 1 + 1, 0, none⟩ (.int .i64 u.1)).setCell ⟨w.heap.size + 1 + 1, 1, none⟩ (.string u.2.1)).setCell ⟨w.heap.size + 1 + 1, 2, none⟩ (.string u.2.2)) :=
  ⟨set_far (set_far (set_far h.1 (by omega)) (by omega)) (by omega), set_far (set_far (set_far h.2.1 (by omega)) (by omega)) (by omega), val_set h.2.2.1 _ _ _, below_val h.2.2.2 (by omega) _ _ _⟩
def twoT (k : Int) (x y : V3) : V3 × Int := reckonT ⟨k, 0, E0⟩ [x, y]
theorem two_end {w V : World} {x y : V3} {r : V3 × Int} {tm : Array Value} (h : Box3 w x y r.1 V) : V.cell? ⟨w.heap.size + 1 + 1, 0, none⟩ = some (.int .i64 r.1.1) ∧ V.cell? ⟨w.heap.size + 1 + 1, 1, none⟩ = some (.string r.1.2.1) ∧ V.cell? ⟨w.heap.size + 1 + 1, 2, none⟩ = some (.string r.1.2.2) := val_cells h.2.2.1
theorem six_keep {W W' : World} (hb : Below W.heap.size W W') {a b : Nat} {x0 x1 x2 r0 r1 r2 : Value}
    (h : (W.cell? ⟨a, 0, none⟩ = some x0 ∧ W.cell? ⟨a, 1, none⟩ = some x1 ∧ W.cell? ⟨a, 2, none⟩ = some x2) ∧ W.cell? ⟨b, 0, none⟩ = some r0 ∧ W.cell? ⟨b, 1, none⟩ = some r1 ∧ W.cell? ⟨b, 2, none⟩ = some r2) :
    (W'.cell? ⟨a, 0, none⟩ = some x0 ∧ W'.cell? ⟨a, 1, none⟩ = some x1 ∧ W'.cell? ⟨a, 2, none⟩ = some x2) ∧ W'.cell? ⟨b, 0, none⟩ = some r0 ∧ W'.cell? ⟨b, 1, none⟩ = some r1 ∧ W'.cell? ⟨b, 2, none⟩ = some r2 := ⟨keep3 hb h.1, keep3 hb h.2⟩
end Go.Proofs.YtdkflmpdelfgoaaGreatDoor
namespace Go.Proofs.YtdkflmpdelfgoaaGreatDoor
open Go.RowKit Go.Shelf
set_option linter.unusedVariables false
set_option linter.unusedSimpArgs false
attribute [local go_sem] Oper.semAt_some

/-- what a round of the loop begins with -/
structure EvI (w : World) (T : List Tm) (k : Nat) (st : List V3) (lv : Value) (wr : World) : Prop where
  le : k ≤ T.length
  row : wr.ownsRow (w.heap.size + 1) 36 3 lv st.length (valC st)
  fold : foldF [] (T.take k) = (st, 0)
  chk : checkF 0 (T.take k) = some st.length
  inb : ∀ x ∈ st, InB x.1
  box : wr.heap[w.heap.size]? = some (.cells #[.int .i64 0, .string ⟨#[]⟩, .string ⟨#[]⟩] 36 (0, 0))
  bel : Below w.heap.size w wr
/-- what is appended behind a round -/
theorem EvI.next {w : World} {T : List Tm} {k : Nat} {st : List V3} {lv : Value} {wr : World} (h : EvI w T k st lv wr) {x : Tm} (hx : T[k]? = some x) (hm : mayB x = true) (ht : takesN x.k ≤ st.length) (hi : InB x.n) {r : V3} (hr : reckonT x (st.drop (st.length - takesN x.k)) = (r, 0)) :
    foldF [] (T.take (k + 1)) = (st.take (st.length - takesN x.k) ++ [r], 0) ∧ checkF 0 (T.take (k + 1)) = some (st.length - takesN x.k + 1) ∧ (∀ y ∈ st.take (st.length - takesN x.k) ++ [r], InB y.1) := by
  have htk1 : T.take (k + 1) = T.take k ++ [x] := by rw [List.take_add_one, hx]; rfl
  refine ⟨?_, ?_, ?_⟩
  · rw [htk1, foldF_snoc _ _ _ x h.fold, hr, if_pos rfl]
  · rw [htk1, checkF_snoc, h.chk]
    simp only [Option.bind_some]
    rw [if_pos ⟨hm, ht⟩]
    congr 1; omega
  · intro y hy
    rcases List.mem_append.1 hy with hy | hy
    · exact h.inb y (List.mem_of_mem_take hy)
    · rw [List.mem_singleton.1 hy]
      have := inB_reckon (t := x) (T := st.drop (st.length - takesN x.k)) hi (fun z hz => h.inb z (List.mem_of_mem_drop hz))
      rw [hr] at this
      exact this
theorem EvI.bad {w : World} {T : List Tm} {k : Nat} {st : List V3} {lv : Value} {wr : World} (h : EvI w T k st lv wr) {x : Tm} (hx : T[k]? = some x) {r : V3} {e : Int} (hr : reckonT x (st.drop (st.length - takesN x.k)) = (r, e)) (he : e ≠ 0) : foldT T = (Z3, e) := by
  have htk1 : T.take (k + 1) = T.take k ++ [x] := by rw [List.take_add_one, hx]; rfl
  have e1 : foldF [] (T.take (k + 1)) = ([], e) := by rw [htk1, foldF_snoc _ _ _ x h.fold, hr, if_neg he]
  have e2 := foldF_err (T.take (k + 1)) (T.drop (k + 1)) [] (by rw [e1]; exact he)
  rw [List.take_append_drop, e1] at e2
  unfold foldT
  rw [e2, if_neg he]
theorem EvI.push {w V w3 : World} {T : List Tm} {k N : Nat} {L : List V3} {r : V3} {vb ub : Option Addr} {vc uc : Nat} {o : Obj} (hL : L.length = N)
    (hown : V.ownsRow (w.heap.size + 1) 36 3 (.slice vb N vc) N (valC L)) (hz : V.heap[w.heap.size]? = some (.cells #[.int .i64 0, .string ⟨#[]⟩, .string ⟨#[]⟩] 36 (0, 0))) (hb : Below w.heap.size w V)
    (h3 : w3.ownsRow (w.heap.size + 1) 36 3 (.slice ub (N + 1) uc) (N + 1) (valC L ++ [.int .i64 r.1, .string r.2.1, .string r.2.2])) (hg : (V.alloc o).grownBy w3 (Value.slice vb N vc).ownBlock)
    (hN : foldF [] (T.take (k + 1)) = (L ++ [r], 0) ∧ checkF 0 (T.take (k + 1)) = some (N + 1) ∧ ∀ y ∈ L ++ [r], InB y.1) (hk : k < T.length) : EvI w T (k + 1) (L ++ [r]) (.slice ub (N + 1) uc) w3 := by
  have hlen : (L ++ [r]).length = N + 1 := by simp [hL]
  have hws := heap_lt hz
  refine ⟨by omega, ?_, hN.1, by rw [hlen]; exact hN.2.1, hN.2.2, ?_, ?_⟩
  · rw [hlen, valC_snoc]; exact h3
  · rw [hg.block _ (by simp; omega) (fun e => by have := (hown.lt _ e.symm).1; omega)]
    exact (Below.heap_alloc V _ _ hws).trans hz
  · exact (hb.alloc (Nat.le_of_lt hws) o).grown hg (by simp; omega) (fun g hg => by have := (hown.lt g hg).1; omega)
theorem seven_kept {W W' : World} (hb : Below W.heap.size W W') {a0 b0 b1 b2 c0 c1 c2 : Addr} {x y0 y1 y2 z0 z1 z2 : Value}
    (h : W.cell? a0 = some x ∧ (W.cell? b0 = some y0 ∧ W.cell? b1 = some y1 ∧ W.cell? b2 = some y2) ∧ W.cell? c0 = some z0 ∧ W.cell? c1 = some z1 ∧ W.cell? c2 = some z2) :
    W'.cell? a0 = some x ∧ (W'.cell? b0 = some y0 ∧ W'.cell? b1 = some y1 ∧ W'.cell? b2 = some y2) ∧ W'.cell? c0 = some z0 ∧ W'.cell? c1 = some z1 ∧ W'.cell? c2 = some z2 :=
  ⟨cell_kept hb h.1, ⟨cell_kept hb h.2.1.1, cell_kept hb h.2.1.2.1, cell_kept hb h.2.1.2.2⟩, cell_kept hb h.2.2.1, cell_kept hb h.2.2.2.1, cell_kept hb h.2.2.2.2⟩
theorem seven_far {W : World} {B g gs i0 i1 i2 i3 i4 i5 i6 : Nat} (hg : B ≠ g) (hs : B ≠ gs) {x y0 y1 y2 z0 z1 z2 q0 q1 q2 : Value}
    (h : W.cell? ⟨g, i0, none⟩ = some x ∧ (W.cell? ⟨gs, i1, none⟩ = some y0 ∧ W.cell? ⟨gs, i2, none⟩ = some y1 ∧ W.cell? ⟨gs, i3, none⟩ = some y2) ∧ W.cell? ⟨gs, i4, none⟩ = some z0 ∧ W.cell? ⟨gs, i5, none⟩ = some z1 ∧ W.cell? ⟨gs, i6, none⟩ = some z2) :
    let V := ((W.setCell ⟨B, 0, none⟩ q0).setCell ⟨B, 1, none⟩ q1).setCell ⟨B, 2, none⟩ q2
    V.cell? ⟨g, i0, none⟩ = some x ∧ (V.cell? ⟨gs, i1, none⟩ = some y0 ∧ V.cell? ⟨gs, i2, none⟩ = some y1 ∧ V.cell? ⟨gs, i3, none⟩ = some y2) ∧ V.cell? ⟨gs, i4, none⟩ = some z0 ∧ V.cell? ⟨gs, i5, none⟩ = some z1 ∧ V.cell? ⟨gs, i6, none⟩ = some z2 := by
  have k1 : ∀ (V : World) (o j : Nat) (x : Value), (V.setCell ⟨B, o, none⟩ x).cell? ⟨g, j, none⟩ = V.cell? ⟨g, j, none⟩ := fun V o j x => World.cell?_setCell_far _ _ _ _ hg
  have k2 : ∀ (V : World) (o j : Nat) (x : Value), (V.setCell ⟨B, o, none⟩ x).cell? ⟨gs, j, none⟩ = V.cell? ⟨gs, j, none⟩ := fun V o j x => World.cell?_setCell_far _ _ _ _ hs
  simp only [k1, k2]
  exact h
theorem drop_two {α : Type} {l : List α} {m : Nat} {y z : α} (h : l.length = m + 2) (hy : l[m]? = some y) (hz : l[m + 1]? = some z) : l.drop m = [y, z] := by
  have h2 : (l.drop m).length = 2 := by rw [List.length_drop]; omega
  match hl : l.drop m, h2 with
  | [a, b], _ =>
    have e0 := congrArg (fun q => q[0]?) hl
    have e1 := congrArg (fun q => q[1]?) hl
    simp only [List.getElem?_drop, Nat.add_zero, List.getElem?_cons_zero, List.getElem?_cons_succ] at e0 e1
    rw [hy] at e0
    rw [hz] at e1
    cases e0; cases e1; rfl
theorem drop_last {α : Type} {l : List α} {m : Nat} {y : α} (h : l.length = m + 1) (hy : l[m]? = some y) : l.drop m = [y] := by
  have h2 : (l.drop m).length = 1 := by rw [List.length_drop]; omega
  obtain ⟨z, hz⟩ := List.length_eq_one_iff.1 h2
  rw [hz]
  have := congrArg (fun q => q[0]?) hz
  simp only [List.getElem?_drop, Nat.add_zero, List.getElem?_cons_zero] at this
  rw [hy] at this
  cases this; rfl
theorem toks_lt {W : World} {g off cap : Nat} {T : List Tm} (h : TriO tmF W (.slice (some ⟨g, off, none⟩) T.length cap) T) {k : Nat} (hk : k < T.length) : g < W.heap.size := by
  rcases h with ⟨_, h0⟩ | ⟨g', off', cap', h1, _, _, h2, _⟩
  · rw [h0] at hk; cases hk
  · cases h1; exact h2
theorem own_ne3 {W : World} {base size n gs vc B : Nat} {e : TypeId} {xs : List Value} (h : W.ownsRow base e size (.slice (some ⟨gs, 0, none⟩) n vc) n xs) (hB : B ≠ gs) (x0 x1 x2 : Value) : (((W.setCell ⟨B, 0, none⟩ x0).setCell ⟨B, 1, none⟩ x1).setCell ⟨B, 2, none⟩ x2).ownsRow base e size (.slice (some ⟨gs, 0, none⟩) n vc) n xs := by
  refine ⟨h.1, ?_⟩
  rcases h.2 with h1 | ⟨g, cap, cur, h1, h2, h3, h4⟩
  · exact .inl h1
  · cases h1
    exact .inr ⟨gs, vc, cur, rfl, h2, set_far (set_far (set_far h3 hB) hB) hB, h4⟩
theorem tri_cells3 {W : World} {g off cap : Nat} {T : List Tm} (h : TriO tmF W (.slice (some ⟨g, off, none⟩) T.length cap) T) {k : Nat} {x : Tm} (hx : T[k]? = some x) : W.cell? ⟨g, off + k * 3, none⟩ = some (.int .i64 x.k) ∧ W.cell? ⟨g, off + k * 3 + 1, none⟩ = some (.int .i64 x.n) ∧ W.cell? ⟨g, off + k * 3 + 2, none⟩ = some (.string x.s) := by
  rcases h with ⟨_, h0⟩ | ⟨g', off', cap', h1, _, _, _, hc⟩
  · rw [h0] at hx; simp at hx
  · cases h1; exact hc k x hx
end Go.Proofs.YtdkflmpdelfgoaaGreatDoor
namespace Go.Proofs.YtdkflmpdelfgoaaGreatDoor
open Go.RowKit Go.Shelf
set_option linter.unusedVariables false
set_option linter.unusedSimpArgs false
attribute [local go_sem] Oper.semAt_some

/-! ### number -/
def hexC (d : Nat) : UInt8 := UInt8.ofNat (if d < 10 then 48 + d else 87 + d)
def hexL (u : Nat) : Nat → List UInt8
  | 0 => []
  | i + 1 => hexC (u / 16 ^ i % 16) :: hexL u i
theorem hexL_len (u i : Nat) : (hexL u i).length = i := by
  induction i with
  | zero => rfl
  | succ i ih => simp [hexL, ih]
def hexN (u : Nat) : BA := ⟨(hexL u 16).toArray⟩
/-- a number as its text: decimal from 0, hexadecimal of 64 bits below -/
def saidB (n : Int) : BA := if 0 ≤ n then ⟨(Lib.decDigits n.toNat).toArray⟩ else ⟨#[48, 120]⟩ ++ hexN (n % 18446744073709551616).toNat
theorem digit_cut16 : ∀ k : _root_.Fin 16, (⟨#[48, 49, 50, 51, 52, 53, 54, 55, 56, 57, 97, 98, 99, 100, 101, 102]⟩ : ByteArray).extract k.val (k.val + 1) = ⟨#[hexC k.val]⟩ := by decide
def sxt (u i : Nat) : Nat := u / 16 ^ i
theorem sxt_succ (u i : Nat) : sxt u i / 16 = sxt u (i + 1) := by
  unfold sxt; rw [Nat.div_div_eq_div_mul, Nat.pow_succ]
theorem sxt_lt (u i : Nat) (h : u < 18446744073709551616) : sxt u i < 18446744073709551616 := Nat.lt_of_le_of_lt (Nat.div_le_self _ _) h
end Go.Proofs.YtdkflmpdelfgoaaGreatDoor
namespace Go.Proofs.YtdkflmpdelfgoaaGreatDoor
open Go.RowKit Go.Shelf
set_option linter.unusedVariables false
set_option linter.unusedSimpArgs false
attribute [local go_sem] Oper.semAt_some

theorem infoStr : (Tryz.prog.info? 9).map (fun i => (i.zero, i.size, i.bytes)) = some (some (.string ⟨#[]⟩), 1, 16) := by kernel_rfl
/-- the texts of the terms that name a symbol -/
def symsL (T : List Tm) : List BA := (T.filter fun t => decide (t.k = 2)).map fun t => t.s
def symsT (T : List Tm) : List BA := if checkT T = 0 then symsL T else []
theorem symsL_snoc (T : List Tm) (x : Tm) : symsL (T ++ [x]) = symsL T ++ (if x.k = 2 then [x.s] else []) := by
  unfold symsL
  rw [List.filter_append, List.map_append]
  congr 1
  by_cases h : x.k = 2
  · simp [h]
  · simp [h]
theorem symsL_len (T : List Tm) : (symsL T).length ≤ T.length := by
  unfold symsL
  rw [List.length_map]; exact List.length_filter_le _ _
structure SyI (w : World) (T : List Tm) (k : Nat) (lv : Value) (wr : World) : Prop where
  le : k ≤ T.length
  row : wr.ownsRow w.heap.size 9 1 lv (symsL (T.take k)).length ((symsL (T.take k)).map Value.string)
  bel : Below w.heap.size w wr
end Go.Proofs.YtdkflmpdelfgoaaGreatDoor
namespace Go.Proofs.YtdkflmpdelfgoaaGreatDoor
open Go.RowKit Go.Shelf
set_option linter.unusedVariables false
set_option linter.unusedSimpArgs false
attribute [local go_sem] Oper.semAt_some

/-! ### texts with their depths -/
abbrev PT := BA × Int
def ptC (l : List PT) : List Value := l.flatMap fun p => [.string p.1, .int .i64 p.2]
theorem ptC_length : ∀ l : List PT, (ptC l).length = l.length * 2
  | [] => rfl
  | x :: l => by
    have ih := ptC_length l
    unfold ptC at ih ⊢
    rw [List.flatMap_cons, List.length_append, ih, List.length_cons, List.length_cons, List.length_cons, List.length_nil]
    omega
theorem ptC_at : ∀ (T : List PT) (k : Nat) (x : PT), T[k]? = some x → (ptC T)[k * 2]? = some (.string x.1) ∧ (ptC T)[k * 2 + 1]? = some (.int .i64 x.2)
  | [], k, x, h => by simp at h
  | y :: T, 0, x, h => by simp at h; subst h; exact ⟨rfl, rfl⟩
  | y :: T, k + 1, x, h => by
    have := ptC_at T k x (by simpa using h)
    rw [show (k + 1) * 2 = k * 2 + 1 + 1 by omega]
    exact this
theorem ptC_take (T : List PT) (m : Nat) : (ptC T).take (m * 2) = ptC (T.take m) := by
  induction T generalizing m with
  | nil => simp [ptC]
  | cons x T ih =>
    cases m with
    | zero => simp [ptC]
    | succ m =>
      have h := ih m
      unfold ptC at h ⊢
      rw [show (m + 1) * 2 = m * 2 + 1 + 1 by omega, List.flatMap_cons, List.take_succ_cons, List.flatMap_cons]
      show _ :: (List.take (m * 2 + 1) (_ :: _)) = _
      rw [List.take_succ_cons]
      show _ :: _ :: List.take (m * 2) (ptC T) = _
      unfold ptC
      rw [h]; rfl
theorem ptC_snoc (l : List PT) (x : PT) : ptC (l ++ [x]) = ptC l ++ [.string x.1, .int .i64 x.2] := by
  unfold ptC; rw [List.flatMap_append]; rfl
theorem ptC_set (p : PT) : ∀ (l : List PT) (m : Nat), ((ptC l).set (m * 2) (.string p.1)).set (m * 2 + 1) (.int .i64 p.2) = ptC (l.set m p)
  | [], m => by simp [ptC]
  | y :: l, 0 => rfl
  | y :: l, m + 1 => by
    have := ptC_set p l m
    rw [show (m + 1) * 2 = m * 2 + 1 + 1 by omega]
    show _ :: _ :: ((ptC l).set (m * 2) _).set (m * 2 + 1) _ = _
    rw [this]; rfl
theorem set_end {α : Type} (l : List α) (m : Nat) (p : α) (h : m < l.length) : (l.set m p).take (m + 1) = l.take m ++ [p] := by
  rw [List.set_eq_take_append_cons_drop, if_pos h, List.take_append, List.length_take, Nat.min_eq_left (Nat.le_of_lt h), List.take_of_length_le (by rw [List.length_take]; omega), show m + 1 - m = 1 by omega]
  rfl
/-- a term's text and depth over those of what it takes -/
def nodeT (t : Tm) (a : List PT) : PT :=
  if t.k = 1 then (saidB t.n, 0) else if t.k = 2 then (t.s, 0) else match a with
  | [x] => (⟨#[40]⟩ ++ signB t.k.toNat ++ x.1 ++ ⟨#[41]⟩, x.2 + 1)
  | [x, y] => (⟨#[40]⟩ ++ x.1 ++ signB t.k.toNat ++ y.1 ++ ⟨#[41]⟩, max x.2 y.2 + 1)
  | _ => (E0, 0)
def textF : List PT → List Tm → List PT
  | st, [] => st
  | st, t :: r => textF (st.take (st.length - takesN t.k) ++ [nodeT t (st.drop (st.length - takesN t.k))]) r
theorem textF_snoc (st : List PT) (T : List Tm) (x : Tm) : textF st (T ++ [x]) = (textF st T).take ((textF st T).length - takesN x.k) ++ [nodeT x ((textF st T).drop ((textF st T).length - takesN x.k))] := by
  induction T generalizing st with
  | nil => rfl
  | cons t r ih => exact ih _
def docTextR (p : PT) : BA × Int := if 64 < p.2 then (E0, 93) else (p.1, 0)
def docText (T : List Tm) : BA × Int := if checkT T = 0 then docTextR ((textF [] T).getD 0 (E0, 0)) else (E0, checkT T)
def ptSum (l : List PT) : Nat := (l.map fun p => p.1.size).sum
theorem ptSum_app (a b : List PT) : ptSum (a ++ b) = ptSum a + ptSum b := by unfold ptSum; rw [List.map_append, List.sum_append]
theorem ptSum_cut (l : List PT) (m : Nat) : ptSum (l.take m) + ptSum (l.drop m) = ptSum l := by rw [← ptSum_app, List.take_append_drop]
theorem ptSum_mem {l : List PT} {p : PT} (h : p ∈ l) : p.1.size ≤ ptSum l := by
  unfold ptSum
  induction l with
  | nil => cases h
  | cons y l ih =>
    rw [List.map_cons, List.sum_cons]
    rcases List.mem_cons.1 h with rfl | h
    · omega
    · have := ih h; omega
theorem signB_size (k : Nat) : (signB k).size ≤ 2 := by
  unfold signB
  rw [size_list]
  repeat' split
  all_goals simp
theorem dec_len (n : Nat) (h : n < 18446744073709551616) : (Lib.decDigits n).length ≤ 20 := by
  rw [Lib.decDigits_length]
  rcases Nat.eq_zero_or_pos n with h0 | h0
  · rw [h0]; simp [Lib.nDigits_small]
  · have := Lib.numDigits_eq n h0 h; split at this <;> omega
theorem dec_len64 (n : Int) (h : n ≤ 9223372036854775807) : (Lib.decDigits n.toNat).length ≤ 20 := dec_len _ (by omega)
theorem saidB_size (n : Int) (h : n ≤ 9223372036854775807) : (saidB n).size ≤ 20 := by
  unfold saidB
  split
  · rw [size_list]; exact dec_len64 n h
  · rw [ByteArray.size_append, show (hexN (n % 18446744073709551616).toNat).size = 16 by rw [size_list]; exact hexL_len _ 16]
    exact show 2 + 16 ≤ 20 by omega
theorem sym_size {x : Tm} (hm : mayB x = true) (hk : x.k = 2) : x.s.size ≤ 512 := by
  unfold mayB at hm
  rw [if_neg (by omega), if_pos hk] at hm
  simp only [Bool.and_eq_true, decide_eq_true_eq] at hm
  have := hm.2
  unfold symB at this
  simp only [Bool.and_eq_true, decide_eq_true_eq] at this
  rw [size_list]; exact this.1
theorem node_size {x : Tm} {a : List PT} (hm : mayB x = true) (hn : x.n ≤ 9223372036854775807) : (nodeT x a).1.size ≤ ptSum a + 520 := by
  unfold nodeT
  split
  · have := saidB_size x.n hn; show (saidB x.n).size ≤ _; omega
  · split
    · have := sym_size hm (by assumption); show x.s.size ≤ _; omega
    · have hs := signB_size x.k.toNat
      split
      · rename_i p
        show (⟨#[40]⟩ ++ signB x.k.toNat ++ p.1 ++ ⟨#[41]⟩ : BA).size ≤ _
        rw [ByteArray.size_append, ByteArray.size_append, ByteArray.size_append]
        have : ptSum [p] = p.1.size := by simp [ptSum]
        have h1 : (⟨#[40]⟩ : BA).size = 1 := rfl
        have h2 : (⟨#[41]⟩ : BA).size = 1 := rfl
        omega
      · rename_i p q
        show (⟨#[40]⟩ ++ p.1 ++ signB x.k.toNat ++ q.1 ++ ⟨#[41]⟩ : BA).size ≤ _
        rw [ByteArray.size_append, ByteArray.size_append, ByteArray.size_append, ByteArray.size_append]
        have : ptSum [p, q] = p.1.size + q.1.size := by simp [ptSum]
        have h1 : (⟨#[40]⟩ : BA).size = 1 := rfl
        have h2 : (⟨#[41]⟩ : BA).size = 1 := rfl
        omega
      · show (E0 : BA).size ≤ _; exact Nat.zero_le _
theorem node_depth {x : Tm} {a : List PT} {k : Nat} (h : ∀ p ∈ a, 0 ≤ p.2 ∧ p.2 ≤ (k : Int)) : 0 ≤ (nodeT x a).2 ∧ (nodeT x a).2 ≤ ((k + 1 : Nat) : Int) := by
  unfold nodeT
  split
  · exact ⟨Int.le_refl _, by show (0 : Int) ≤ _; omega⟩
  · split
    · exact ⟨Int.le_refl _, by show (0 : Int) ≤ _; omega⟩
    · split
      · rename_i p
        have := h p (by simp)
        show 0 ≤ p.2 + 1 ∧ p.2 + 1 ≤ _
        omega
      · rename_i p q
        have h1 := h p (by simp)
        have h2 := h q (by simp)
        show 0 ≤ max p.2 q.2 + 1 ∧ max p.2 q.2 + 1 ≤ _
        omega
      · exact ⟨Int.le_refl _, by show (0 : Int) ≤ _; omega⟩
end Go.Proofs.YtdkflmpdelfgoaaGreatDoor
namespace Go.Proofs.YtdkflmpdelfgoaaGreatDoor
open Go.RowKit Go.Shelf
set_option linter.unusedVariables false
set_option linter.unusedSimpArgs false
attribute [local go_sem] Oper.semAt_some

def TV (p : BA × Int) : Value := .tuple #[.string p.1, .int .i64 p.2]
theorem still_of {P : Program} {f : FuncId} {args : Array Value} {w : World} {v : Value} (h : Calls P f args w fun e w' => e = .returned v ∧ w = w') : Calls P f args w fun e w' => e = .returned v ∧ w' = w := h.mono (fun _ _ hh => ⟨hh.1, hh.2.symm⟩)
end Go.Proofs.YtdkflmpdelfgoaaGreatDoor
namespace Go.Proofs.YtdkflmpdelfgoaaGreatDoor
open Go.RowKit Go.Shelf
set_option linter.unusedVariables false
set_option linter.unusedSimpArgs false
attribute [local go_sem] Oper.semAt_some

/-- the one cell of the table that base 16 reads -/
def BruAt (w : World) : Prop := w.cell? ⟨3, 15, none⟩ = some (.int .u8 4)
set_option maxRecDepth 100000 in
set_option maxHeartbeats 2000000 in
theorem pow2_16 (w : World) :
    Calls Tryz.prog 94 #[.int .i64 16] w fun e w' => e = .returned (.bool true) ∧ w = w' := by
  go_enter Tryz.func94, Tryz.ntmps94
  go_wp2_with fail
  go_ret
  exact ⟨rfl, rfl⟩
set_option maxRecDepth 100000 in
set_option maxHeartbeats 2000000 in
theorem tz64_16 (w : World) (h : BruAt w) :
    Calls Tryz.prog 101 #[.int .u64 16] w fun e w' => e = .returned (.int .i64 4) ∧ w = w' := by
  unfold BruAt at h
  have hb : bits BinOp.and IntKind.u64 16 (IntKind.u64.wrap (-16)) = 16 := by decide +kernel
  have hw : IntKind.u64.wrap (16 * 285870213051353865) = 4573923408821661840 := by decide +kernel
  have hw2 : IntKind.u64.wrap 4573923408821661840 = 4573923408821661840 := by decide +kernel
  go_enter Tryz.func101, Tryz.ntmps101
  go_wp2_with fail
  go_ret
  exact ⟨rfl, rfl⟩
set_option maxRecDepth 100000 in
set_option maxHeartbeats 2000000 in
theorem tz_16 (w : World) (h : BruAt w) :
    Calls Tryz.prog 95 #[.int .u64 16] w fun e w' => e = .returned (.int .i64 4) ∧ w = w' := by
  have TZ := Lib.hid (tz64_16 w h)
  go_enter Tryz.func95, Tryz.ntmps95
  go_wp2_with fail
  refine TZ.out.mono ?_
  rintro e w1 ⟨rfl, rfl⟩
  go_wp2_with fail
  go_ret
  exact ⟨rfl, rfl⟩
end Go.Proofs.YtdkflmpdelfgoaaGreatDoor
namespace Go.Proofs.YtdkflmpdelfgoaaGreatDoor
open Go.RowKit Go.Shelf
set_option linter.unusedVariables false
set_option linter.unusedSimpArgs false
attribute [local go_sem] Oper.semAt_some

def byV (b : UInt8) : Value := .int .u8 (b.toNat : Int)
def fbC (u i : Nat) : Array Value := ((List.replicate (65 - i) (0 : UInt8) ++ hexL u i).map byV).toArray
theorem fb_zero (u : Nat) : Tryz.zeroCells145 = fbC u 0 := by rfl
theorem fb_set (u i : Nat) (hi : i < 65) : (fbC u i).setIfInBounds (64 - i) (byV (hexC (u / 16 ^ i % 16))) = fbC u (i + 1) := by
  unfold fbC
  rw [List.setIfInBounds_toArray]
  congr 1
  rw [show 65 - i = (64 - i) + 1 by omega, show 65 - (i + 1) = 64 - i by omega, List.replicate_succ', List.append_assoc, List.map_append, List.map_append, List.set_append_right _ _ (by simp)]
  simp [hexL]
theorem and15 (m : Nat) (h : m < 18446744073709551616) : bits BinOp.and IntKind.u64 (m : Int) 15 = ((m % 16 : Nat) : Int) := by
  rw [show (15 : Int) = ((15 : Nat) : Int) from rfl, bits_and_u64_nat m 15 h (by decide)]
  congr 1
  exact Nat.and_two_pow_sub_one_eq_mod m 4
theorem sxt_ge (u i : Nat) (h : 1152921504606846976 ≤ u) (hi : i < 15) : 16 ≤ sxt u i := by
  unfold sxt
  rw [Nat.le_div_iff_mul_le (Nat.pow_pos (by decide)), Nat.mul_comm, ← Nat.pow_succ]
  exact Nat.le_trans (Nat.pow_le_pow_right (by decide) (show i + 1 ≤ 15 by omega)) h
theorem sxt_15 (u : Nat) (h : u < 18446744073709551616) : sxt u 15 < 16 := by
  unfold sxt
  rw [Nat.div_lt_iff_lt_mul (Nat.pow_pos (by decide))]
  exact h
theorem fb_cell {W : World} {B u i : Nat} (h : W.heap[B]? = some (.cells (fbC u i) 145 (0, 0))) (j : Nat) (hj : j < 65) (hi : i ≤ 65) : ∃ v, W.cell? ⟨B, j, none⟩ = some v := by
  rw [Lib.cell_of_heap h]
  have hs : (fbC u i).size = 65 := by unfold fbC; simp [hexL_len]; omega
  exact ⟨(fbC u i)[j]'(by omega), by simp [hs, hj]⟩
theorem digit36 : ∀ (r : _root_.Fin 16) (h : r.val < (⟨#[48, 49, 50, 51, 52, 53, 54, 55, 56, 57, 97, 98, 99, 100, 101, 102, 103, 104, 105, 106, 107, 108, 109, 110, 111, 112, 113, 114, 115, 116, 117, 118, 119, 120, 121, 122]⟩ : ByteArray).size), (⟨#[48, 49, 50, 51, 52, 53, 54, 55, 56, 57, 97, 98, 99, 100, 101, 102, 103, 104, 105, 106, 107, 108, 109, 110, 111, 112, 113, 114, 115, 116, 117, 118, 119, 120, 121, 122]⟩ : ByteArray)[r.val]'h = hexC r.val := by decide
set_option maxRecDepth 100000 in
set_option maxHeartbeats 4000000 in
theorem fb16_any (u : Nat) (h1 : 1152921504606846976 ≤ u) (h2 : u < 18446744073709551616) (w : World) (hb : BruAt w) :
    Calls Tryz.prog 82 #[.slice none 0 0, .int .u64 (u : Int), .int .i64 16, .bool false, .bool false] w fun e w' => e = .returned (.tuple #[.slice none 0 0, .string (hexN u)]) ∧ Below w.heap.size w w' := by
  have P2 := Lib.hid (fun V => pow2_16 V)
  have TZ := Lib.hid (fun V (h : Below w.heap.size w V) => tz_16 V (cell_kept h hb))
  have HU1 := Lib.hid h1
  have HU2 := Lib.hid h2
  have HC0 := Lib.hid (show (w.alloc (.cells Tryz.zeroCells145 145)).heap[w.heap.size]? = some (.cells (fbC u 0) 145 (0, 0)) by rw [heap_alloc_new, fb_zero u])
  have HB0 := Lib.hid (below1 w (.cells Tryz.zeroCells145 145))
  clear h1 h2 hb
  go_enter Tryz.func82, Tryz.ntmps82
  go_upto_region 4 with fail
  generalize w.alloc (.cells Tryz.zeroCells145 145) = W0 at *
  go_wp2_with fail
  refine (P2.out _).mono ?_
  rintro e w1 ⟨rfl, rfl⟩
  go_wp2_with fail
  refine (TZ.out _ HB0.out).mono ?_
  rintro e w1 ⟨rfl, rfl⟩
  go_wp2_with fail
  go_loopw [1, 13] (fun uv iv wr => ∃ i : Nat, i ≤ 15 ∧ uv = .int .u64 (sxt u i : Int) ∧ iv = .int .i64 ((65 - i : Nat) : Int) ∧ Hid (wr.heap[w.heap.size]? = some (.cells (fbC u i) 145 (0, 0))) ∧ Hid (Below w.heap.size w wr)) (fun uv iv _ => (intOf iv).toNat)
  case atStart => exact ⟨0, Nat.zero_le _, by first | rfl | (unfold sxt; simp), rfl, HC0, HB0⟩
  case round =>
    obtain ⟨i, hi, rfl, rfl, hc, hbl⟩ := hrel
    obtain ⟨p, hp⟩ : ∃ p, 65 - i = p + 1 := ⟨64 - i, by omega⟩
    obtain ⟨c0, hc0⟩ := fb_cell hc.out p (by omega) (by omega)
    have fz := fz_of hc.out
    have p0 : (0 : Int) ≤ (p : Int) := by omega
    have p1 : (p : Int) < 65 := by omega
    have wp : IntKind.i64.wrap (p : Int) = (p : Int) := by rw [IntWalk.i64_in _ (by omega)]
    have wp1 : IntKind.i64.wrap ((p : Int) + 1 - 1) = (p : Int) := by rw [IntWalk.i64_in _ (by omega)]; omega
    have HNX := Lib.hid (fb_set u i (by omega))
    rw [show 64 - i = p by omega, show u / 16 ^ i = sxt u i from rfl] at HNX
    have hlt := sxt_lt u i HU2.out
    have hq := sxt_succ u i
    obtain ⟨m, hm⟩ : ∃ m, sxt u i = m := ⟨_, rfl⟩
    have HM := Lib.hid hm
    obtain ⟨r, hr⟩ : ∃ r, m % 16 = r := ⟨_, rfl⟩
    rw [hm, hr] at HNX
    rw [hm] at hlt hq ⊢
    rw [hp]
    have ha := and15 m hlt
    rw [hr] at ha
    have hr16 : r < 16 := by omega
    by_cases h15 : i < 15
    · have hge : (16 : Int) ≤ (m : Int) := by have := sxt_ge u i HU1.out h15; omega
      obtain ⟨q, hqq⟩ : ∃ q, sxt u (i + 1) = q := ⟨_, rfl⟩
      rw [hqq] at hq
      have e3 : (m : Int) / 16 = (q : Int) := by omega
      have e4 : IntKind.u64.wrap (q : Int) = (q : Int) := by rw [IntKind.wrap_u64]; omega
      have HQ := Lib.hid hqq
      clear hq hqq hm
      have HDG := Lib.hid (fun h => digit36 ⟨r, hr16⟩ h)
      go_wp2_with fail
      go_roundw
      case rel =>
        refine ⟨i + 1, by omega, by rw [HQ.out], by (congr 1; omega), Lib.hid ?_, Lib.hid (hbl.out.setCell (p := ⟨w.heap.size, p, none⟩) (Nat.le_refl _) _)⟩
        have hh := heap_setCell_same wr w.heap.size p (fbC u i) 145 (byV (hexC r)) hc.out
        rw [HNX.out] at hh
        rw [HDG.out]
        exact hh
      case measure => simp [intOf]
    · obtain rfl : i = 15 := by omega
      have hm15 := sxt_15 u HU2.out
      rw [HM.out] at hm15
      obtain rfl : m = r := by omega
      have hge : ¬ ((16 : Int) ≤ (m : Int)) := by omega
      have HDG := Lib.hid (fun h => digit36 ⟨m, hr16⟩ h)
      obtain rfl : p = 49 := by omega
      have hm36 : (m : Int) < 36 := by omega
      have hm0 : (0 : Int) ≤ (m : Int) := by omega
      clear hr hlt hq ha HM hp hi h15 hm15 hm
      go_upto_region 30 with fail
      have hh := heap_setCell_same wr w.heap.size 49 (fbC u 15) 145 (byV (hexC m)) hc.out
      rw [HNX.out] at hh
      have HBL := Lib.hid (hbl.out.setCell (p := ⟨w.heap.size, 49, none⟩) (Nat.le_refl _) (byV (hexC m)))
      simp only [HDG.out]
      unfold byV at hh HBL
      generalize wr.setCell ⟨w.heap.size, 49, none⟩ (.int .u8 ((hexC m).toNat : Int)) = V at *
      have hcv : (convert 51 9 (.slice (some ⟨w.heap.size, 49, none⟩) 16 16)).run Tryz.prog V = .ok (.string (hexN u)) V := by
        have h := run_convert_bytes_back (P := Tryz.prog) V 51 9 5 ⟨w.heap.size, 49, none⟩ 16 (hexL u 16) Tryz.underlying51 Tryz.underlying5 Tryz.underlying9 (fun j hj => by
          rw [hexL_len] at hj
          rw [Lib.add_plain, Lib.cell_of_heap hh]
          unfold fbC
          rw [List.getElem?_toArray, List.getElem?_map, List.getElem?_append_right (by simp)]
          simp [List.length_replicate, byV, hexL_len, hj])
        rw [hexL_len] at h
        exact h
      clear hh
      go_wp2_with fail
      go_ret2
      exact ⟨rfl, HBL.out⟩
end Go.Proofs.YtdkflmpdelfgoaaGreatDoor
namespace Go.Proofs.YtdkflmpdelfgoaaGreatDoor
open Go.RowKit Go.Shelf
set_option linter.unusedVariables false
set_option linter.unusedSimpArgs false
attribute [local go_sem] Oper.semAt_some

set_option maxRecDepth 100000 in
set_option maxHeartbeats 2000000 in
theorem ifmt16_any (u : Nat) (h1 : 1152921504606846976 ≤ u) (h2 : u < 18446744073709551616) (w : World) (hb : BruAt w) :
    Calls Tryz.prog 66 #[.int .u64 (u : Int), .int .i64 16] w fun e w' => e = .returned (.string (hexN u)) ∧ Below w.heap.size w w' := by
  have FB := Lib.hid (fb16_any u h1 h2 w hb)
  clear h1 h2 hb
  go_enter Tryz.func66, Tryz.ntmps66
  go_wp2_with fail
  refine FB.out.mono ?_
  rintro e w1 ⟨rfl, hbw⟩
  have HB := Lib.hid hbw
  clear hbw
  go_wp2_with fail
  go_ret
  exact ⟨rfl, HB.out⟩
set_option maxRecDepth 100000 in
set_option maxHeartbeats 2000000 in
theorem fmt16_any (u : Nat) (h1 : 1152921504606846976 ≤ u) (h2 : u < 18446744073709551616) (w : World) (hb : BruAt w) :
    Calls Tryz.prog 47 #[.int .u64 (u : Int), .int .i64 16] w fun e w' => e = .returned (.string (hexN u)) ∧ Below w.heap.size w w' := by
  have FB := Lib.hid (ifmt16_any u h1 h2 w hb)
  clear h1 h2 hb
  go_enter Tryz.func47, Tryz.ntmps47
  go_wp2_with fail
  refine FB.out.mono ?_
  rintro e w1 ⟨rfl, hbw⟩
  have HB := Lib.hid hbw
  clear hbw
  go_wp2_with fail
  go_ret
  exact ⟨rfl, HB.out⟩
/-- a leaf's text -/
def leafB (x : Tm) : BA := if x.k = 2 then x.s else saidB x.n
set_option maxRecDepth 100000 in
set_option maxHeartbeats 4000000 in
theorem lftext_any (x : Tm) (w : World) (hG : GoodE w) (hb : BruAt w) (hn : -9223372036854775808 ≤ x.n ∧ x.n ≤ 9223372036854775807) :
    Calls Tryz.prog 30 #[tmV x] w fun e w' => e = .returned (.string (leafB x)) ∧ Below w.heap.size w w' := by
  obtain ⟨k, n, s⟩ := x
  unfold tmV leafB
  simp only at hn ⊢
  have HB0 := Lib.hid (below1 w (.cells #[.int .i64 k, .int .i64 n, .string s] 42))
  have GD := Lib.hid (fun V (h : Below w.heap.size w V) => hG.thn h)
  have BD := Lib.hid (fun V (h : Below w.heap.size w V) => (cell_kept h hb : BruAt V))
  clear hG hb
  by_cases h2 : k = 2
  · subst h2
    rw [if_pos rfl]
    go_enter Tryz.func30, Tryz.ntmps30
    go_wp2_with fail
    go_ret
    exact ⟨rfl, HB0.out⟩
  · rw [if_neg h2]
    have h2' : (k == 2) = false := by rw [beq_eq_false_iff_ne]; exact h2
    by_cases h0 : n < 0
    · obtain ⟨u, hu⟩ : ∃ u : Nat, n % 18446744073709551616 = (u : Int) := ⟨(n % 18446744073709551616).toNat, by omega⟩
      have FM := Lib.hid (fun V hV => fmt16_any u (by omega) (by omega) V (BD.out V hV))
      have HR := Lib.hid (show (⟨#[48, 120]⟩ ++ hexN u : BA) = saidB n by unfold saidB; rw [if_neg (by omega), hu]; rfl)
      have hcv : IntKind.u64.wrap n = (u : Int) := by rw [IntKind.wrap_u64]; omega
      have hsz : (hexN u).size = 16 := by rw [size_list]; exact hexL_len u 16
      clear hu
      go_enter Tryz.func30, Tryz.ntmps30
      go_wp2_with fail
      refine (FM.out _ HB0.out).mono ?_
      rintro e w1 ⟨rfl, hbw⟩
      have HB := Lib.hid (Below.thn HB0.out HB0.out.size hbw)
      clear hbw
      go_wp2_with fail
      go_ret
      exact ⟨ret1s HR.out, HB.out⟩
    · have FM := Lib.hid (fun V (hV : Below w.heap.size w V) => fmtI_any n (by omega) (by omega) V (GD.out V hV))
      have HR := Lib.hid (show (⟨(Lib.itoa n).toArray⟩ : BA) = saidB n by
        obtain ⟨m, rfl⟩ : ∃ m : Nat, n = (m : Int) := ⟨n.toNat, by omega⟩
        unfold saidB; rw [if_pos (by omega)]; rfl)
      go_enter Tryz.func30, Tryz.ntmps30
      go_wp2_with fail
      refine (FM.out _ HB0.out).mono ?_
      rintro e w1 ⟨rfl, hbw⟩
      have HB := Lib.hid (Below.thn HB0.out HB0.out.size hbw)
      clear hbw
      go_wp2_with fail
      go_ret
      exact ⟨ret1s HR.out, HB.out⟩
end Go.Proofs.YtdkflmpdelfgoaaGreatDoor
