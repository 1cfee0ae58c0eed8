/-
  What each call of mark, begun, next (before it watches) and math/bits.Len at 2 returns. Conditions: how the section lies.
-/
import Derived.Test.YtccmfhhdpdbabaaRlxK
namespace Go.Proofs.Ytccmfhhdpdbabaa
open Go.RowKit
set_option linter.unusedVariables false
set_option linter.unusedSimpArgs false

set_option maxRecDepth 100000 in
theorem len_two (w : World) : Calls Try.prog 52 #[.int .u64 2] w fun e w' => e = .returned (.int .i64 2) ∧ w = w' := by
  go_enter Try.func52, Try.ntmps52
  go_wp2
  go_ret
  exact ⟨ret1 (by decide +kernel), rfl⟩
theorem grown_trans {A B C : World} {row : Option Nat} (h : A.grownBy B row) (k : B.grownBy C row) : A.grownBy C row :=
  ⟨k.os.trans h.os, k.tape.trans h.tape, k.output.trans h.output, Nat.le_trans h.size k.size, fun j hj hne => (k.block j (Nat.lt_of_lt_of_le hj h.size) hne).trans (h.block j hj hne)⟩
/-- those of a list are made true -/
def setL (xs : List Value) (F : List Nat) : List Value := F.foldl (fun a i => a.set i (.bool true)) xs
theorem setL_len : ∀ (F : List Nat) (xs : List Value), (setL xs F).length = xs.length
  | [], xs => rfl
  | i :: F, xs => by show (setL (xs.set i _) F).length = _; rw [setL_len F, List.length_set]
set_option maxHeartbeats 2000000 in
theorem mark_any (v u : Value) (xs : List Value) (F : List Nat) (gl n base : Nat) (w : World) (hv : w.ownsRow base 4 1 (.slice (some ⟨gl, 0, none⟩) n n) n xs)
    (hu : NusO w u (F.map Int.ofNat)) (hF : ∀ i ∈ F, i < n) (hne : ∀ off c, u = .slice (some ⟨gl, off, none⟩) F.length c → F = []) (hn : n ≤ 65536) :
    Calls Try.prog 40 #[.slice (some ⟨gl, 0, none⟩) n n, u] w fun e w' => (∃ v, e = .returned v) ∧ w'.ownsRow base 4 1 (.slice (some ⟨gl, 0, none⟩) n n) n (setL xs F) ∧ w.grownBy w' (some gl) := by
  obtain ⟨a1, c1, rfl⟩ := hu.slice
  have hlf := hu.len
  rw [List.length_map] at hlf hne ⊢
  unfold maxLen at hlf
  have HU := Lib.hid hu
  have HF := Lib.hid hF
  have HNE := Lib.hid hne
  have hbz := hv.lt _ rfl
  clear hu hF hne
  go_enter Try.func40, Try.ntmps40
  go_wp2_with fail
  go_loopw [8] (fun iv wr => ∃ (k : Nat), k ≤ F.length ∧ iv = .int .i64 (k : Int) ∧ Hid (wr.ownsRow base 4 1 (.slice (some ⟨gl, 0, none⟩) n n) n (setL xs (F.take k))) ∧ Hid (w.grownBy wr (some gl))) (fun iv _ => F.length - (intOf iv).toNat)
  case atStart => exact ⟨0, Nat.zero_le _, rfl, Lib.hid hv, Lib.hid (World.grownBy.refl _ _)⟩
  case round =>
    obtain ⟨k, hk, rfl, HR, HG⟩ := hrel
    by_cases hlt : (k : Int) < (F.length : Int)
    · have hlt' : k < F.length := by omega
      obtain ⟨g, off, cap, x, hx, hvv, hg, xc0⟩ := HU.out.at (k := k) (by rw [List.length_map]; omega)
      rw [List.length_map] at hvv
      cases hvv
      obtain ⟨i, hi⟩ : ∃ i, F[k]? = some i := ⟨_, List.getElem?_eq_getElem hlt'⟩
      rw [List.getElem?_map, hi] at hx
      cases hx
      have hin := HF.out i (List.mem_of_getElem? hi)
      have hgne : gl ≠ g := by
        rintro rfl
        have := HNE.out _ _ rfl
        rw [this] at hlt'
        exact absurd hlt' (by simp)
      have xc : wr.cell? ⟨g, off + k, none⟩ = some (.int .i64 (i : Int)) := HG.out.cell xc0 (by intro e; cases e; exact hgne rfl)
      have q0 : (0 : Int) ≤ (i : Int) := by omega
      have q1 : (i : Int) < (n : Int) := by omega
      have w9 : IntKind.i64.wrap ((k : Int) + 1) = ((k + 1 : Nat) : Int) := by rw [IntWalk.i64_in _ (by omega)]; omega
      have hfz := HR.out.frozenAt i
      have hl : (setL xs (F.take k)).length = n := by have := HR.out.1; omega
      obtain ⟨u, hu⟩ : ∃ u, wr.cell? ⟨gl, i, none⟩ = some u := ⟨_, by rw [HR.out.cellAt i (by omega)]; exact List.getElem?_eq_getElem (by omega)⟩
      have st := HR.out.stored i (.bool true)
      have e : setL xs (F.take (k + 1)) = (setL xs (F.take k)).set i (.bool true) := by
        unfold setL; rw [List.take_add_one, hi]; simp [List.foldl_append]
      rw [← e] at st
      have HN := Lib.hid st.1
      have HGN := Lib.hid (grown_trans HG.out st.2)
      clear st e hl hi xc0
      go_wp2_with fail
      go_roundw
      case rel => exact ⟨k + 1, by omega, by first | rfl | rw [← w9], HN, HGN⟩
      case measure => simp [intOf]; omega
    · have e : F.take k = F := List.take_of_length_le (by omega)
      have HR2 := HR.out
      rw [e] at HR2
      have HR3 := Lib.hid HR2
      clear HR2
      go_wp2_with fail
      refine bodyPost_end (results_none rfl _ _ _) rfl ?_
      exact ⟨⟨_, rfl⟩, HR3.out, HG.out⟩
/-- a section in memory, ahead of its k-th round, while it does not watch -/
structure SecO (base S gl : Nat) (lv : Value) (L : List It) (B : List Bool) (k : Nat) (W : World) : Prop where
  here : ∃ fv, W.heap[S]? = some (.cells #[lv, .slice (some ⟨gl, 0, none⟩) L.length L.length, .int .i64 (k : Int), fv, .pointer none] 68 (0, 0))
  row : W.ownsRow base 4 1 (.slice (some ⟨gl, 0, none⟩) L.length L.length) L.length (B.map fun x => Value.bool x)
  its : ItsO W lv L
theorem bos_of_own {W : World} {base : Nat} {e : TypeId} {v : Value} {n : Nat} {D : List Bool} (hn : n = D.length) (h : W.ownsRow base e 1 v n (D.map fun x => Value.bool x)) : BosO W v D := by
  subst hn
  have := own_rows (C := D.map fun x => Value.bool x) (by rw [List.length_map]; exact h)
  rw [List.map_map] at this
  exact this
theorem five_cells {W : World} {S : Nat} {v0 v1 v2 v3 v4 : Value} {T : TypeId} (h : W.heap[S]? = some (.cells #[v0, v1, v2, v3, v4] T (0, 0))) :
    W.cell? ⟨S, 0, none⟩ = some v0 ∧ W.cell? ⟨S, 1, none⟩ = some v1 ∧ W.cell? ⟨S, 2, none⟩ = some v2 ∧ W.cell? ⟨S, 3, none⟩ = some v3 ∧ W.cell? ⟨S, 4, none⟩ = some v4 :=
  ⟨Lib.cell_of_heap h 0, Lib.cell_of_heap h 1, Lib.cell_of_heap h 2, Lib.cell_of_heap h 3, Lib.cell_of_heap h 4⟩
theorem five_keep {W W' : World} (hb : Below W.heap.size W W') {b : Nat} {v0 v1 v2 v3 v4 : Value} (h : W.cell? ⟨b, 0, none⟩ = some v0 ∧ W.cell? ⟨b, 1, none⟩ = some v1 ∧ W.cell? ⟨b, 2, none⟩ = some v2 ∧ W.cell? ⟨b, 3, none⟩ = some v3 ∧ W.cell? ⟨b, 4, none⟩ = some v4) :
    W'.cell? ⟨b, 0, none⟩ = some v0 ∧ W'.cell? ⟨b, 1, none⟩ = some v1 ∧ W'.cell? ⟨b, 2, none⟩ = some v2 ∧ W'.cell? ⟨b, 3, none⟩ = some v3 ∧ W'.cell? ⟨b, 4, none⟩ = some v4 :=
  ⟨cell_kept hb h.1, cell_kept hb h.2.1, cell_kept hb h.2.2.1, cell_kept hb h.2.2.2.1, cell_kept hb h.2.2.2.2⟩
set_option maxRecDepth 100000 in
set_option maxHeartbeats 8000000 in
theorem next_plain (base S gl k ln : Nat) (lv : Value) (L : List It) (B : List Bool) (w : World) (h : SecO base S gl lv L B k w) (hB : B.length = L.length) (hok : AllOk L) (hk : k < ln)
    (hln : ∀ W, Calls Try.prog 52 #[.int .u64 (L.length : Int)] W fun e w' => e = .returned (.int .i64 (ln : Int)) ∧ W = w') :
    Calls Try.prog 48 #[.pointer (some ⟨S, 0, none⟩)] w fun e w' => (∃ v', e = .returned v' ∧ w'.ownsRow w.heap.size 3 1 v' (farL L B L.length).length ((farL L B L.length).map natV)) ∧ Below w.heap.size w w' := by
  obtain ⟨⟨fv, hS⟩, hrow, hits⟩ := h
  obtain ⟨aa, ca, rfl⟩ := hits.slice
  have hl6 := hok.1
  have OF := Lib.hid (fun W (hb : Below w.heap.size w W) => offsets_any _ _ L B W (hits.keep hb) ((bos_of_own hB.symm hrow).keep hb) hB hok)
  have TF := Lib.hid (fun a W (hb : Below w.heap.size w W) ha => tooFar_any _ _ a L B W (hits.keep hb) ((bos_of_own hB.symm hrow).keep hb) ha hB hok)
  have LN := Lib.hid hln
  obtain ⟨c0, c1, c2, c3, c4⟩ := five_cells hS
  have S0 := five_cells hS
  have hkl : (k : Int) < (ln : Int) := by omega
  have hu : IntKind.u64.wrap (L.length : Int) = (L.length : Int) := by show (L.length : Int) % 18446744073709551616 = _; omega
  clear hS hrow hits hB hok hk hln
  go_enter Try.func48, Try.ntmps48
  go_wp2_with fail
  go_quiet (exact quiet_eq (LN.out _))
  go_wp2_with fail
  have hb0 := below_drewN (Below.refl w.heap.size w) nq
  have S1 := five_keep hb0 S0
  have HB0 := Lib.hid hb0
  generalize w.drewN nq = W0 at *
  clear S0 c0 c1 c2 c3 c4 hb0
  go_region_held3 (fun w' => w'.cell? ⟨S, 0, none⟩ = some (.slice aa L.length ca) ∧ w'.cell? ⟨S, 1, none⟩ = some (.slice (some ⟨gl, 0, none⟩) L.length L.length) ∧ w'.cell? ⟨S, 2, none⟩ = some (.int .i64 (k : Int)) ∧ w'.cell? ⟨S, 3, none⟩ = some fv ∧ w'.cell? ⟨S, 4, none⟩ = some (.pointer none)) (first | with_reducible exact S1 | with_reducible exact S2 | with_reducible exact S3 | exact S1 | exact S2 | exact S3) (first
    | (go_at_call 30; ((with_reducible refine (OF.out _ HB0.out.drew).mono ?_); rintro e w1 ⟨⟨v1, rfl, hown⟩, hb1⟩); obtain ⟨oa, oc, rfl⟩ := own_sliceN hown; have HA := Lib.hid (nus_of_own (offL_len L B).symm hown); have S2 := five_keep hb1 S1; have HB1 := Lib.hid (Below.thn HB0.out.drew HB0.out.size hb1); clear hb1 hown)
    | (go_at_call 38; ((with_reducible refine (TF.out _ _ HB1.out HA.out).mono ?_); rintro e w2 ⟨⟨v2, rfl, hown⟩, hb2⟩); have HO2 := Lib.hid hown; have S3 := five_keep hb2 S2; have HZ1 := Lib.hid (show w.heap.size ≤ w1.heap.size from HB1.out.size); have HB2 := Lib.hid (Below.thn HB1.out HB1.out.size hb2); clear hb2 hown))
  all_goals
    go_wp2_with fail
    go_ret
    exact ⟨⟨_, rfl, ownsRow_less' HO2.out HZ1.out⟩, HB2.out⟩
end Go.Proofs.Ytccmfhhdpdbabaa
