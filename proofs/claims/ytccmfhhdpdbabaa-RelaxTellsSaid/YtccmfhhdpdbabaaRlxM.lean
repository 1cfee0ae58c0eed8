/-
  The rounds of a section that does not watch: a contract for the iterator. Conditions: how the section lies, that the items may be.
-/
import Derived.Test.YtccmfhhdpdbabaaRlxL
import Derived.Test.YtccmfhhdpdbabaaTellsM
import Derived.RangeFuncCalls
import Derived.RangeFuncNested
import Derived.RangeFuncBound
import Derived.RangeFuncLeaves
import Derived.RangeFuncWrites
import Derived.Stop.RegionWithIn
import Derived.Shelf.Abstract
import Derived.Shelf.RegionOpen
import Derived.OwnWalkIn
import Derived.TacticsInMore
import Derived.LoopNIn
import Derived.LoopIn
namespace Go.Proofs.Ytccmfhhdpdbabaa
open Go.RowKit Go.Shelf
set_option linter.unusedVariables false
set_option linter.unusedSimpArgs false
attribute [local go_sem] Oper.semAt_some

theorem heap_lt {W : World} {b : Nat} {o : Obj} (h : W.heap[b]? = some o) : b < W.heap.size := (Array.getElem?_eq_some_iff.1 h).1
theorem room_of_none {F : Fence} (hd : F.depth = none) (k : Nat) : F.room k := fun d h => by rw [hd] at h; cases h
theorem yield_any {F : Fence} (hd : F.depth = none) {m : Nat} (m' : Nat) {P : Program} {l : Nat} {args : Array Value} {W : World} {R : Ending → World → Prop} (h : YieldAt F m P l args W R) : YieldAt F m' P l args W R := by
  obtain ⟨fn, tmps, assign, body, hy, hR⟩ := h
  exact ⟨fn, tmps, assign, body, hy, hR.1, fun c cs _ => hR.2 c cs (room_of_none hd _)⟩
/-- which are long behind a round -/
def nextB (L : List It) (B : List Bool) : List Bool := (List.range L.length).map fun i => B.getD i false || farP L B i
def itB (L : List It) : Nat → List Bool
  | 0 => List.replicate L.length false
  | k + 1 => nextB L (itB L k)
theorem itB_len (L : List It) : ∀ k, (itB L k).length = L.length
  | 0 => by simp [itB]
  | k + 1 => by simp [itB, nextB]
theorem setL_get : ∀ (F : List Nat) (xs : List Value) (i : Nat), i < xs.length → (setL xs F)[i]? = if i ∈ F then some (Value.bool true) else xs[i]?
  | [], xs, i, _ => by simp [setL]
  | j :: F, xs, i, h => by
    show (setL (xs.set j (.bool true)) F)[i]? = _
    rw [setL_get F _ i (by rw [List.length_set]; exact h), List.getElem?_set]
    by_cases hi : i ∈ F
    · rw [if_pos hi, if_pos (List.mem_cons_of_mem _ hi)]
    · rw [if_neg hi]
      by_cases hj : j = i
      · subst hj; rw [if_pos rfl, if_pos h, if_pos List.mem_cons_self]
      · rw [if_neg hj, if_neg (by rw [List.mem_cons]; rintro (e | e); exact hj e.symm; exact hi e)]
theorem setL_next (L : List It) (B : List Bool) (hB : B.length = L.length) : setL (B.map fun x => Value.bool x) (farL L B L.length) = (nextB L B).map fun x => Value.bool x := by
  refine List.ext_getElem? fun i => ?_
  by_cases hi : i < L.length
  · rw [setL_get _ _ i (by rw [List.length_map]; omega)]
    have hf : i ∈ farL L B L.length ↔ farP L B i = true := by
      unfold farL; rw [List.mem_filter, List.mem_range]; exact ⟨fun h => h.2, fun h => ⟨hi, h⟩⟩
    unfold nextB
    rw [List.getElem?_map, List.getElem?_map, List.getElem?_map, List.getElem?_range hi]
    have hb : B[i]? = some (B.getD i false) := by simp [List.getD, List.getElem?_eq_getElem (show i < B.length by omega)]
    rw [hb]
    by_cases h : farP L B i = true
    · rw [if_pos (hf.2 h)]; simp [h]
    · rw [if_neg (fun e => h (hf.1 e))]; simp [h]
  · rw [List.getElem?_eq_none (by rw [setL_len, List.length_map]; omega), List.getElem?_eq_none (by rw [List.length_map]; simp [nextB]; omega)]
theorem farL_lt (L : List It) (B : List Bool) (k : Nat) : ∀ i ∈ farL L B k, i < k := by
  intro i hi; unfold farL at hi; exact List.mem_range.1 (List.mem_filter.1 hi).1
/-- a step turns but two blocks -/
structure Two (S gl : Nat) (V V' : World) : Prop where
  os : V'.os = V.os
  tape : V'.tape = V.tape
  output : V'.output = V.output
  size : V.heap.size ≤ V'.heap.size
  block : ∀ b, b < V.heap.size → b ≠ S → b ≠ gl → V'.heap[b]? = V.heap[b]?
theorem Two.refl (S gl : Nat) (V : World) : Two S gl V V := ⟨rfl, rfl, rfl, Nat.le_refl _, fun _ _ _ _ => rfl⟩
theorem Two.trans {S gl : Nat} {A B C : World} (h : Two S gl A B) (k : Two S gl B C) : Two S gl A C :=
  ⟨k.os.trans h.os, k.tape.trans h.tape, k.output.trans h.output, Nat.le_trans h.size k.size, fun b hb h1 h2 => (k.block b (Nat.lt_of_lt_of_le hb h.size) h1 h2).trans (h.block b hb h1 h2)⟩
theorem Two.below {S gl : Nat} {A B : World} (h : Below A.heap.size A B) : Two S gl A B := ⟨h.os, h.tape, h.output, h.size, fun b hb _ _ => h.block b hb⟩
theorem Two.grown {S gl : Nat} {A B : World} (h : A.grownBy B (some gl)) : Two S gl A B := ⟨h.os, h.tape, h.output, h.size, fun b hb _ h2 => h.block b hb (by intro e; cases e; exact h2 rfl)⟩
theorem Two.set {S gl : Nat} {A : World} (j : Nat) (v : Value) : Two S gl A (A.setCell ⟨S, j, none⟩ v) :=
  ⟨rfl, rfl, rfl, by simp, fun b hb h1 _ => heap_setCell_other A ⟨S, j, none⟩ b v (fun e => h1 e)⟩
/-- a section ahead of its k-th round -/
structure SecK (w0 : World) (S gl bs : Nat) (lv : Value) (L : List It) (k : Nat) (V : World) : Prop where
  here : ∃ fv, V.heap[S]? = some (.cells #[lv, .slice (some ⟨gl, 0, none⟩) L.length L.length, .int .i64 (k : Int), fv, .pointer none] 68 (0, 0))
  row : V.ownsRow w0.heap.size 4 1 (.slice (some ⟨gl, 0, none⟩) L.length L.length) L.length ((itB L k).map fun x => Value.bool x)
  old : Below w0.heap.size w0 V
  box : V.heap[bs]? = some (.cells #[.pointer (some ⟨S, 0, none⟩)] 61 (0, 0))
theorem SecK.drew {w0 : World} {S gl bs : Nat} {lv : Value} {L : List It} {k : Nat} {V : World} (h : SecK w0 S gl bs lv L k V) : SecK w0 S gl bs lv L k V.drew := ⟨h.here, h.row.drew, h.old.drew, h.box⟩
theorem five_set2 {W : World} {S : Nat} {v0 v1 v2 v3 v4 : Value} {T : TypeId} (h : W.heap[S]? = some (.cells #[v0, v1, v2, v3, v4] T (0, 0))) (u : Value) : (W.setCell ⟨S, 2, none⟩ u).heap[S]? = some (.cells #[v0, v1, u, v3, v4] T (0, 0)) :=
  heap_setCell_same W S 2 _ T u h
theorem five_set3 {W : World} {S : Nat} {v0 v1 v2 v3 v4 : Value} {T : TypeId} (h : W.heap[S]? = some (.cells #[v0, v1, v2, v3, v4] T (0, 0))) (u : Value) : (W.setCell ⟨S, 3, none⟩ u).heap[S]? = some (.cells #[v0, v1, v2, u, v4] T (0, 0)) :=
  heap_setCell_same W S 3 _ T u h
theorem frz_keep {W W' : World} (hb : Below W.heap.size W W') {S : Nat} {cs : Array Value} {T : TypeId} (h : W.heap[S]? = some (.cells cs T (0, 0))) : ∀ j, W'.frozen? ⟨S, j, none⟩ = false :=
  fun j => Lib.frozen_of_heap ((hb.block S (heap_lt h)).trans h) j
/-- in the midst of a round: what is too far is known -/
structure MidK (w0 : World) (S gl bs : Nat) (lv : Value) (L : List It) (k : Nat) (kk : Int) (fv : Value) (V : World) : Prop where
  here : V.heap[S]? = some (.cells #[lv, .slice (some ⟨gl, 0, none⟩) L.length L.length, .int .i64 kk, fv, .pointer none] 68 (0, 0))
  row : V.ownsRow w0.heap.size 4 1 (.slice (some ⟨gl, 0, none⟩) L.length L.length) L.length ((itB L k).map fun x => Value.bool x)
  old : Below w0.heap.size w0 V
  box : V.heap[bs]? = some (.cells #[.pointer (some ⟨S, 0, none⟩)] 61 (0, 0))
  far : ∃ base, V.ownsRow base 3 1 fv (farL L (itB L k) L.length).length ((farL L (itB L k) L.length).map natV)
  apart : ∀ g, fv.ownBlock = some g → g ≠ S ∧ g ≠ gl
theorem own_ne {W : World} {base : Nat} {e : TypeId} {size : Nat} {v : Value} {n : Nat} {xs : List Value} (h : W.ownsRow base e size v n xs) {a : Addr} (ha : v.ownBlock ≠ some a.block) (u : Value) : (W.setCell a u).ownsRow base e size v n xs := by
  refine ⟨h.1, ?_⟩
  rcases h.2 with h1 | ⟨g, cap, cur, rfl, h2, h3, h4⟩
  · exact .inl h1
  · exact .inr ⟨g, cap, cur, rfl, h2, (heap_setCell_other W a g u (fun e => ha (by rw [← e]; rfl))).trans h3, h4⟩
theorem mid_of {w0 wr w1 : World} {S gl bs : Nat} {lv : Value} {L : List It} {k : Nat} {fv : Value} (hS : w0.heap.size ≤ S) (hSg : S ≠ gl) (hSb : S ≠ bs) (hs : SecK w0 S gl bs lv L k wr) (hb : Below wr.drew.heap.size wr.drew w1)
    (ho : w1.ownsRow wr.drew.heap.size 3 1 fv (farL L (itB L k) L.length).length ((farL L (itB L k) L.length).map natV)) :
    MidK w0 S gl bs lv L k (k : Int) fv (w1.setCell ⟨S, 3, none⟩ fv) ∧ Two S gl wr (w1.setCell ⟨S, 3, none⟩ fv) := by
  have hb' : Below wr.heap.size wr w1 := (Below.refl wr.heap.size wr).drew.trans hb
  obtain ⟨f0, hh⟩ := hs.here
  have hSz := heap_lt hh
  have hbz := heap_lt hs.box
  have hgz := hs.row.lt gl rfl
  refine ⟨⟨five_set3 ((hb'.block S hSz).trans hh) fv, own_ne (own_keep hs.row hb') (by intro e; cases e; exact hSg rfl) _, (hs.old.trans (hb'.mono hs.old.size)).setCell (p := ⟨S, 3, none⟩) hS _, ?_, ⟨_, own_ne ho (fun e => ?_) _⟩, fun g hg => ?_⟩, (Two.below hb').trans (Two.set 3 fv)⟩
  · exact (heap_setCell_other w1 ⟨S, 3, none⟩ bs fv (fun e => hSb e.symm)).trans ((hb'.block bs hbz).trans hs.box)
  · have h1 : wr.drew.heap.size ≤ S := (ho.lt _ e).1
    have h2 : wr.drew.heap.size = wr.heap.size := rfl
    omega
  · have := (ho.lt _ hg).1
    have h2 : wr.drew.heap.size = wr.heap.size := rfl
    omega
theorem MidK.count {w0 V : World} {S gl bs : Nat} {lv : Value} {L : List It} {k : Nat} {kk : Int} {fv : Value} (h : MidK w0 S gl bs lv L k kk fv V) (hS : w0.heap.size ≤ S) (hSg : S ≠ gl) (hSb : S ≠ bs) (k2 : Int) :
    MidK w0 S gl bs lv L k k2 fv (V.setCell ⟨S, 2, none⟩ (.int .i64 k2)) ∧ Two S gl V (V.setCell ⟨S, 2, none⟩ (.int .i64 k2)) := by
  obtain ⟨base, ho⟩ := h.far
  refine ⟨⟨five_set2 h.here _, own_ne h.row (by intro e; cases e; exact hSg rfl) _, h.old.setCell (p := ⟨S, 2, none⟩) hS _, (heap_setCell_other V ⟨S, 2, none⟩ bs _ (fun e => hSb e.symm)).trans h.box, ⟨base, own_ne ho (fun e => (h.apart _ e).1 rfl) _⟩, h.apart⟩, Two.set 2 _⟩
theorem MidK.drew {w0 V : World} {S gl bs : Nat} {lv : Value} {L : List It} {k : Nat} {kk : Int} {fv : Value} (h : MidK w0 S gl bs lv L k kk fv V) : MidK w0 S gl bs lv L k kk fv V.drew :=
  ⟨h.here, h.row.drew, h.old.drew, h.box, by obtain ⟨b, ho⟩ := h.far; exact ⟨b, ho.drew⟩, h.apart⟩
theorem MidK.mark {w0 V : World} {S gl bs : Nat} {lv : Value} {L : List It} {k : Nat} {kk : Int} {fv : Value} (h : MidK w0 S gl bs lv L k kk fv V) (hl : L.length ≤ 65536) (hSg : S ≠ gl) (hgl : w0.heap.size ≤ gl) (hgb : gl ≠ bs) :
    Calls Try.prog 40 #[.slice (some ⟨gl, 0, none⟩) L.length L.length, fv] V fun e w' => (∃ v, e = .returned v) ∧ Two S gl V w' ∧ w'.ownsRow w0.heap.size 4 1 (.slice (some ⟨gl, 0, none⟩) L.length L.length) L.length ((itB L (k + 1)).map fun x => Value.bool x) ∧
      w'.heap[S]? = some (.cells #[lv, .slice (some ⟨gl, 0, none⟩) L.length L.length, .int .i64 kk, fv, .pointer none] 68 (0, 0)) ∧ Below w0.heap.size w0 w' ∧ w'.heap[bs]? = some (.cells #[.pointer (some ⟨S, 0, none⟩)] 61 (0, 0)) := by
  obtain ⟨base, ho⟩ := h.far
  have hn : NusO V fv ((farL L (itB L k) L.length).map Int.ofNat) := nus_of_own (by rw [List.length_map]) (by rw [List.map_map]; exact ho)
  refine (mark_any (.slice none 0 0) fv _ _ gl L.length w0.heap.size V h.row hn (farL_lt L _ _) (fun off c e => ?_) hl).mono ?_
  · exfalso
    subst e
    exact (h.apart gl rfl).2 rfl
  · rintro e w' ⟨hv, hr, hg⟩
    rw [setL_next L _ (itB_len L k)] at hr
    refine ⟨hv, Two.grown hg, hr, (hg.block S (heap_lt h.here) (by intro e; cases e; exact hSg rfl)).trans h.here, ⟨hg.os.trans h.old.os, hg.tape.trans h.old.tape, hg.output.trans h.old.output, Nat.le_trans h.old.size hg.size, fun b hb => ?_⟩, (hg.block bs (heap_lt h.box) (by intro e; cases e; exact hgb rfl)).trans h.box⟩
    have := h.old.size
    exact (hg.block b (by omega) (by intro e; cases e; omega)).trans (h.old.block b hb)
def encF (L : List It) (k : Nat) : Array Value := #[.int .i64 ((farL L (itB L (k - 1)) L.length).length : Int)]
def meas (S R : Nat) (mv : Value) (V : World) : Nat := match mv with
  | .bool true => match V.cell? ⟨S, 2, none⟩ with
    | some (.int _ d) => 1 + (R + 1 - d.toNat)
    | _ => 0
  | _ => 0
theorem meas_at {w0 V : World} {S gl bs R : Nat} {lv : Value} {L : List It} {k : Nat} (h : SecK w0 S gl bs lv L k V) : meas S R (.bool true) V = 1 + (R + 1 - k) := by
  obtain ⟨fv, hh⟩ := h.here
  have c2 := (five_cells hh).2.2.1
  unfold meas
  simp only [c2, Int.toNat_natCast]
theorem meas_lt {w0 V V' : World} {S gl bs R : Nat} {lv : Value} {L : List It} {k : Nat} (hk : k ≤ R) (h : SecK w0 S gl bs lv L k V) (h' : k + 1 ≤ R ∧ SecK w0 S gl bs lv L (k + 1) V') : meas S R (.bool true) V' < meas S R (.bool true) V := by
  rw [meas_at h, meas_at h'.2]; omega
theorem meas_pos {w0 V W5 : World} {S gl bs R : Nat} {lv : Value} {L : List It} {k : Nat} (hk : k ≤ R) (h : SecK w0 S gl bs lv L k V) : meas S R (.bool false) W5 < meas S R (.bool true) V := by
  rw [meas_at h]; show 0 < _; omega
set_option maxRecDepth 100000 in
set_option maxHeartbeats 8000000 in
theorem rounds_tells (n R ln : Nat) (w0 : World) (S gl bs : Nat) (lv : Value) (L : List It) (hits : ItsO w0 lv L) (hS : w0.heap.size ≤ S) (hgl : w0.heap.size ≤ gl) (hbs : w0.heap.size ≤ bs) (hSg : S ≠ gl) (hSb : S ≠ bs) (hgb : gl ≠ bs)
    (hok : AllOk L) (hR : R < ln) (hl2 : ln ≤ 65536) (hln : ∀ W, Calls Try.prog 52 #[.int .u64 (L.length : Int)] W fun e w' => e = .returned (.int .i64 (ln : Int)) ∧ W = w') :
    TellsM n Try.prog 47 #[.pointer (some ⟨bs, 0, none⟩)] (encF L) (fun k V => k ≤ R ∧ SecK w0 S gl bs lv L k V) (fun k V k' V' => k' = k + 1 ∧ Two S gl V V' ∧ SecK w0 S gl bs lv L (k + 1) V') 0 := by
  intro l J M Jx W hJS hJM hY h0
  have NX := Lib.hid (fun k V (hk : k ≤ R) (h : SecK w0 S gl bs lv L k V) => next_plain w0.heap.size S gl k ln lv L (itB L k) V ⟨h.here, h.row, hits.keep (h.old)⟩ (itB_len L k) hok (by omega) hln)
  have HJS := Lib.hid hJS
  have HJM := Lib.hid hJM
  have HY := Lib.hid hY
  have H0 := Lib.hid h0
  have hl6 := hok.1
  clear hJS hJM hY h0 hln hits hok
  simp only [List.singleton_append, List.append_toArray, List.cons_append, List.nil_append]
  refine callsIn_of_wp Try.func47 rfl trivial ?_ rfl
  simp only [Try.ntmps47, List.size_toArray, List.length_cons, List.length_nil, Nat.reduceAdd, Nat.reduceSub, Array.replicate_succ, Array.replicate_zero, List.push_toArray, List.append_toArray, List.nil_append, List.cons_append]
  gi_wp2_with fail
  gi_loopw [3] (fun mv wr => (mv = .bool true ∧ ∃ k, Hid (J k wr)) ∨ (mv = .bool false ∧ ∃ k, Hid (Jx k wr))) (meas S R)
  case atStart => exact .inl ⟨rfl, 0, H0⟩
  case round =>
    rcases hrel with ⟨rfl, k, HJ⟩ | ⟨rfl, k, HJ⟩
    · obtain ⟨hkR, hsec⟩ := HJS.out k wr HJ.out
      obtain ⟨fv, hh⟩ := hsec.here
      obtain ⟨c0, c1, c2, c3, c4⟩ := five_cells hh
      have hb := Lib.cell_of_heap hsec.box 0
      have hb : wr.cell? ⟨bs, 0, none⟩ = some (.pointer (some ⟨S, 0, none⟩)) := hb
      have NXk := Lib.hid (NX.out k wr.drew hkR hsec.drew)
      have hSz := heap_lt hh
      have hbz := heap_lt hsec.box
      have S0 := five_cells hh
      have HS := Lib.hid hsec
      gi_wp2_with fail
      gi_region_with (refine ⟨trivial, fun h => absurd h (by decide), ?_⟩; refine (callsIn_wide.2 NXk.out).mono ?_; rintro e w1 ⟨⟨v1, rfl, hown⟩, hb1⟩; obtain ⟨fa, fc, rfl⟩ := own_sliceN hown; have S1 := five_keep hb1 S0; have hb2 := cell_kept hb1 hb; obtain ⟨c0', c1', c2', c3', c4'⟩ := S1; have HB1 := Lib.hid hb1; have HO1 := Lib.hid hown; have fz3 := frz_keep hb1 hh 3; clear hb1 hown)
      all_goals
        obtain ⟨hm2, ht2⟩ := mid_of hS hSg hSb HS.out HB1.out HO1.out
        have HT2 := Lib.hid ht2
        have HM2 := Lib.hid hm2
        obtain ⟨d0, d1, d2, d3, d4⟩ := five_cells hm2.here
        have db : (w1.setCell ⟨S, 3, none⟩ (.slice fa (farL L (itB L k) L.length).length fc)).cell? ⟨bs, 0, none⟩ = some (.pointer (some ⟨S, 0, none⟩)) := Lib.cell_of_heap hm2.box 0
        have fz2 := Lib.frozen_of_heap hm2.here 2
        clear hm2 ht2 c0 c1 c2 c3 c4 c0' c1' c2' c3' c4' hb2 fz3 hb
        generalize w1.setCell ⟨S, 3, none⟩ (.slice fa (farL L (itB L k) L.length).length fc) = V2 at *
        have w9 : IntKind.i64.wrap ((k : Int) + 1) = ((k + 1 : Nat) : Int) := by rw [IntWalk.i64_in _ (by omega)]; omega
        gi_wp2_with fail
        obtain ⟨hm3, ht3⟩ := HM2.out.count hS hSg hSb ((k : Int) + 1)
        have HM3 := Lib.hid hm3
        have HT3 := Lib.hid (HT2.out.trans ht3)
        obtain ⟨d0, d1, d2, d3, d4⟩ := five_cells hm3.here
        have db : (V2.setCell ⟨S, 2, none⟩ (.int .i64 ((k : Int) + 1))).cell? ⟨bs, 0, none⟩ = some (.pointer (some ⟨S, 0, none⟩)) := Lib.cell_of_heap hm3.box 0
        clear hm3 ht3 fz2
        generalize V2.setCell ⟨S, 2, none⟩ (.int .i64 ((k : Int) + 1)) = V3 at *
        have MK := Lib.hid (HM3.out.drew.mark hl6 hSg hgl hgb)
        gi_region_with (refine ⟨trivial, fun h => absurd h (by decide), ?_⟩; refine (callsIn_wide.2 MK.out).mono ?_; rintro e w4 ⟨⟨v4, rfl⟩, ht4, hr4, hh4, ho4, hb4⟩; have HSEC := Lib.hid (show SecK w0 S gl bs lv L (k + 1) w4 from ⟨⟨_, hh4⟩, hr4, ho4, hb4⟩); have HT4 := Lib.hid (HT3.out.trans ((Two.below (below_drewN (Below.refl _ V3) 1)).trans ht4)); obtain ⟨e0, e1, e2, e3, e4⟩ := five_cells hh4; have eb : w4.cell? ⟨bs, 0, none⟩ = some (.pointer (some ⟨S, 0, none⟩)) := Lib.cell_of_heap hb4 0; clear ht4 hr4 hh4 ho4 hb4)
        all_goals
          obtain ⟨fn, tmps, assign, body, hy1, hR5⟩ := yield_any (F := Fence.wide) rfl (n - 1) (HY.out 0 (k + 1) w4 (HJM.out k wr (k + 1) w4 HJ.out ⟨rfl, HT4.out, HSEC.out⟩))
          unfold encF at hy1
          rw [Nat.add_sub_cancel] at hy1
          gi_wp2_with fail
          refine ⟨fun h => absurd h (by decide), ?_⟩
          refine hR5.mono ?_
          rintro e W5 (⟨rfl, hJ5⟩ | ⟨rfl, hJ5⟩)
          · have HJ5 := Lib.hid hJ5
            have hm5 := meas_lt hkR HS.out (HJS.out _ _ hJ5)
            have HME := Lib.hid hm5
            clear hJ5 hm5
            gi_wp2_with fail
            go_roundw
            case rel => exact .inl ⟨rfl, k + 1, HJ5⟩
            case measure => exact HME.out
          · have HJ5 := Lib.hid hJ5
            have hm5 := meas_pos hkR HS.out (W5 := W5)
            have HME := Lib.hid hm5
            clear hJ5 hm5
            gi_wp2_with fail
            go_roundw
            case rel => exact .inr ⟨rfl, k + 1, HJ5⟩
            case measure => exact HME.out
    · gi_wp2_with fail
      refine bodyPost_end (results_none rfl _ _ _) rfl ?_
      exact ⟨⟨_, rfl⟩, k, HJ.out⟩
end Go.Proofs.Ytccmfhhdpdbabaa
