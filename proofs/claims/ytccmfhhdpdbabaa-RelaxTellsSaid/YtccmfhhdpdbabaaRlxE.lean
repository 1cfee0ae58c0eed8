/-
  Where items begin, as a function of theirs; what each call of offsets returns. Conditions: the items may be, as many long as items.
-/
import Derived.Test.YtccmfhhdpdbabaaRlxD
import Derived.OwnWalk
import Derived.WalkSmall
namespace Go.Proofs.Ytccmfhhdpdbabaa
open Go.RowKit
set_option linter.unusedVariables false
set_option linter.unusedSimpArgs false

theorem cell_kept {W W' : World} (hb : Below W.heap.size W W') {a : Addr} {v : Value} (h : W.cell? a = some v) : W'.cell? a = some v := (hb.cell (World.block_lt_of_cell? W a h)).trans h
theorem own_sliceN {W : World} {base size n : Nat} {t : TypeId} {v : Value} {xs : List Value} (h : W.ownsRow base t size v n xs) : ∃ a c, v = .slice a n c := by
  rcases h.2 with ⟨h1, h2⟩ | ⟨g, cap, cur, h1, _⟩
  · exact ⟨_, _, by rw [h2]; exact h1⟩
  · exact ⟨_, _, h1⟩
theorem own_mono {W W' : World} {base size n : Nat} {e : TypeId} {v : Value} {xs : List Value} (h : W.ownsRow base e size v n xs) {B : Nat} (hb : Below B W W') (hB : ∀ g, v.ownBlock = some g → g < B) : W'.ownsRow base e size v n xs := by
  refine ⟨h.1, ?_⟩
  rcases h.2 with h1 | ⟨g, cap, cur, rfl, h2, h3, h4⟩
  · exact .inl h1
  · exact .inr ⟨g, cap, cur, rfl, h2, (hb.block g (hB g rfl)).trans h3, h4⟩
theorem own_lt {W : World} {base size n : Nat} {e : TypeId} {v : Value} {xs : List Value} (h : W.ownsRow base e size v n xs) : ∀ g, v.ownBlock = some g → g < W.heap.size := by
  rcases h.2 with ⟨rfl, _⟩ | ⟨g, cap, cur, rfl, h2, h3, h4⟩
  · intro g hg; cases hg
  · intro g' hg; cases hg; exact (Array.getElem?_eq_some_iff.1 h3).1
theorem own_keep {B : Nat} {e : TypeId} {k : Nat} {v : Value} {n : Nat} {xs : List Value} {w w' : World} (h : w.ownsRow B e k v n xs) (hb : Below w.heap.size w w') : w'.ownsRow B e k v n xs := own_mono h hb (own_lt h)
/-- a row of one's own reads as what it holds -/
theorem own_rows {W : World} {base : Nat} {e : TypeId} {v : Value} {C : List Value} (h : W.ownsRow base e 1 v C.length C) : RowsO 1 W v (C.map fun x => [x]) := by
  rcases h.2 with ⟨h1, h2⟩ | ⟨g, cap, cur, h1, h2, h3, h4, h5, h6, h7⟩
  · exact .inl ⟨.inl h1, by rw [List.length_eq_zero_iff.1 h2]; rfl⟩
  · refine .inr ⟨g, 0, cap, by rw [List.length_map]; exact h1, by rw [List.length_map]; exact h4, h5, (Array.getElem?_eq_some_iff.1 h3).1, fun k x hx j y hy => ?_⟩
    rw [List.getElem?_map] at hx
    obtain ⟨z, hz, rfl⟩ := Option.map_eq_some_iff.1 hx
    have hj : j = 0 := by
      rcases j with _ | j
      · rfl
      · cases hy
    subst hj
    cases hy
    have hk : k < C.length := (List.getElem?_eq_some_iff.1 hz).1
    have hc := (show W.ownsRow base e 1 (.slice (some ⟨g, 0, none⟩) C.length cap) C.length C from h1 ▸ h).cellAt k (by omega)
    rw [show 0 + k * 1 + 0 = k by omega, hc, hz]

/-- all items may be -/
def AllOk (L : List It) : Prop := L.length ≤ 65536 ∧ ∀ x ∈ L, okIt x (L.length : Int) = true
theorem chkGo_ok {m : Int} : ∀ {L : List It} {n : Int}, chkGo m n L = 0 → ∀ x ∈ L, okIt x m = true
  | [], _, _, x, hx => by cases hx
  | y :: L, n, h, x, hx => by
    unfold chkGo at h
    by_cases hy : okIt y m = true
    · rw [if_pos hy] at h
      rcases List.mem_cons.1 hx with rfl | hx
      · exact hy
      · exact chkGo_ok h x hx
    · rw [if_neg hy] at h; cases h
theorem chk_ok {L : List It} (h : chkB L = 0) : AllOk L := by
  unfold chkB at h
  by_cases a1 : (65536 : Int) < (L.length : Int)
  · rw [if_pos a1] at h; cases h
  · rw [if_neg a1] at h; exact ⟨by omega, chkGo_ok h⟩

/-- where the k-th item begins -/
def offAt (L : List It) (B : List Bool) : Nat → Int
  | 0 => 0
  | k + 1 => offAt L B k + sizeB (L.getD k default) (offAt L B k) (B.getD k false)
theorem size_bound {x : It} {m : Int} (h : okIt x m = true) (n : Int) (b : Bool) : 0 ≤ sizeB x n b ∧ sizeB x n b ≤ 67108864 := by
  have ha := ok_align h
  have hm := most_le h
  unfold mostB at hm
  unfold sizeB
  by_cases h2 : x.k = 2
  · rw [if_pos h2] at *
    have hp := pow_le (ha h2).1 (ha h2).2
    have l : (-n).emod (powB x.a) < powB x.a := Int.emod_lt_of_pos _ (by omega)
    have l0 : 0 ≤ (-n).emod (powB x.a) := Int.emod_nonneg _ (by omega)
    omega
  rw [if_neg h2] at *
  by_cases h3 : x.k = 3
  · rw [if_pos h3]; cases b <;> simp
  · rw [if_neg h3] at *; omega
theorem getD_ok {L : List It} (h : AllOk L) {k : Nat} (hk : k < L.length) : okIt (L.getD k default) (L.length : Int) = true := by
  have e : L.getD k default = L[k] := by simp [List.getD, List.getElem?_eq_getElem hk]
  rw [e]; exact h.2 _ (List.getElem_mem hk)
theorem offAt_bound {L : List It} (B : List Bool) (h : AllOk L) : ∀ k, k ≤ L.length → 0 ≤ offAt L B k ∧ offAt L B k ≤ (k : Int) * 67108864
  | 0, _ => by simp [offAt]
  | k + 1, hk => by
    have ih := offAt_bound B h k (by omega)
    have hs := size_bound (getD_ok h (k := k) (by omega)) (offAt L B k) (B.getD k false)
    have e : offAt L B (k + 1) = offAt L B k + sizeB (L.getD k default) (offAt L B k) (B.getD k false) := rfl
    rw [e]; omega
def offL (L : List It) (B : List Bool) : List Int := (List.range (L.length + 1)).map (offAt L B)
/-- what stands there when the first k + 1 are laid -/
def offK (L : List It) (B : List Bool) (k : Nat) : List Value := (List.range (L.length + 1)).map fun i => .int .i64 (if i ≤ k then offAt L B i else 0)
theorem offK_len (L : List It) (B : List Bool) (k : Nat) : (offK L B k).length = L.length + 1 := by simp [offK]
theorem offK_zero (L : List It) (B : List Bool) : List.replicate (L.length + 1) (Value.int .i64 0) = offK L B 0 := by
  refine List.ext_getElem (by simp [offK]) fun i h1 h2 => ?_
  simp only [offK, List.getElem_map, List.getElem_range, List.getElem_replicate]
  by_cases hi : i ≤ 0
  · obtain rfl : i = 0 := by omega
    rfl
  · rw [if_neg hi]
theorem offK_set (L : List It) (B : List Bool) {k : Nat} (hk : k < L.length) : (offK L B k).set (k + 1) (.int .i64 (offAt L B (k + 1))) = offK L B (k + 1) := by
  refine List.ext_getElem (by simp [offK]) fun i h1 h2 => ?_
  rw [List.getElem_set]
  simp only [offK, List.getElem_map, List.getElem_range]
  by_cases hi : k + 1 = i
  · subst hi; rw [if_pos rfl, if_pos (Nat.le_refl _)]
  · rw [if_neg hi]
    by_cases h : i ≤ k
    · rw [if_pos h, if_pos (by omega)]
    · rw [if_neg h, if_neg (by omega)]
theorem offK_all (L : List It) (B : List Bool) : offK L B L.length = (offL L B).map fun x => Value.int .i64 x := by
  unfold offK offL
  rw [List.map_map]
  refine List.map_congr_left fun i hi => ?_
  have := List.mem_range.1 hi
  show Value.int .i64 _ = Value.int .i64 _
  rw [if_pos (by omega)]
theorem offL_len (L : List It) (B : List Bool) : (offL L B).length = L.length + 1 := by simp [offL]
theorem offK_get (L : List It) (B : List Bool) {k i : Nat} (hi : i ≤ k) (hk : k ≤ L.length) : (offK L B k)[i]? = some (.int .i64 (offAt L B i)) := by
  unfold offK
  rw [List.getElem?_map, List.getElem?_range (by omega)]
  show some (Value.int .i64 _) = _
  rw [if_pos hi]
theorem madeI64 (n : Nat) : (madeCells (Value.cells (.int .i64 0)) (n * 1)).toList = List.replicate n (Value.int .i64 0) := by
  rw [Nat.mul_one]; exact toList_madeCells_one (.int .i64 0) n
theorem infoI64 : (Try.prog.info? 2).map (fun i => (i.zero, i.size, i.bytes)) = some (some (.int .i64 0), 1, 8) := by kernel_rfl
def It7 (W : World) (b : Nat) (o : Nat) (x : It) : Prop := W.cell? ⟨b, o, none⟩ = some (.int .i64 x.k) ∧ W.cell? ⟨b, o + 1, none⟩ = some (.int .i64 x.s) ∧ W.cell? ⟨b, o + 2, none⟩ = some (.int .i64 x.a) ∧ W.cell? ⟨b, o + 3, none⟩ = some (.int .i64 x.t) ∧ W.cell? ⟨b, o + 4, none⟩ = some (.int .i64 x.d) ∧ W.cell? ⟨b, o + 5, none⟩ = some (.int .i64 x.lo) ∧ W.cell? ⟨b, o + 6, none⟩ = some (.int .i64 x.hi)
theorem It7.keep {W W' : World} {b o : Nat} {x : It} (h : It7 W b o x) (hb : Below W.heap.size W W') : It7 W' b o x :=
  ⟨cell_kept hb h.1, cell_kept hb h.2.1, cell_kept hb h.2.2.1, cell_kept hb h.2.2.2.1, cell_kept hb h.2.2.2.2.1, cell_kept hb h.2.2.2.2.2.1, cell_kept hb h.2.2.2.2.2.2⟩
theorem it7_new (w : World) (x : It) (T : TypeId) : It7 (w.alloc (.cells #[.int .i64 x.k, .int .i64 x.s, .int .i64 x.a, .int .i64 x.t, .int .i64 x.d, .int .i64 x.lo, .int .i64 x.hi] T)) w.heap.size 0 x :=
  ⟨cells_new w _ T 0 _ rfl, cells_new w _ T 1 _ rfl, cells_new w _ T 2 _ rfl, cells_new w _ T 3 _ rfl, cells_new w _ T 4 _ rfl, cells_new w _ T 5 _ rfl, cells_new w _ T 6 _ rfl⟩
theorem nine_keep {W W' : World} (hb : Below W.heap.size W W') {b g gb k q : Nat} {v0 v1 v2 v3 v4 v5 v6 v7 v8 : Value}
    (h : (W.cell? ⟨b, 0, none⟩ = some v0 ∧ W.cell? ⟨b, 1, none⟩ = some v1 ∧ W.cell? ⟨b, 2, none⟩ = some v2 ∧ W.cell? ⟨b, 3, none⟩ = some v3 ∧ W.cell? ⟨b, 4, none⟩ = some v4 ∧ W.cell? ⟨b, 5, none⟩ = some v5 ∧ W.cell? ⟨b, 6, none⟩ = some v6) ∧ W.cell? ⟨g, k, none⟩ = some v7 ∧ W.cell? ⟨gb, q, none⟩ = some v8) :
    (W'.cell? ⟨b, 0, none⟩ = some v0 ∧ W'.cell? ⟨b, 1, none⟩ = some v1 ∧ W'.cell? ⟨b, 2, none⟩ = some v2 ∧ W'.cell? ⟨b, 3, none⟩ = some v3 ∧ W'.cell? ⟨b, 4, none⟩ = some v4 ∧ W'.cell? ⟨b, 5, none⟩ = some v5 ∧ W'.cell? ⟨b, 6, none⟩ = some v6) ∧ W'.cell? ⟨g, k, none⟩ = some v7 ∧ W'.cell? ⟨gb, q, none⟩ = some v8 :=
  ⟨⟨cell_kept hb h.1.1, cell_kept hb h.1.2.1, cell_kept hb h.1.2.2.1, cell_kept hb h.1.2.2.2.1, cell_kept hb h.1.2.2.2.2.1, cell_kept hb h.1.2.2.2.2.2.1, cell_kept hb h.1.2.2.2.2.2.2⟩, cell_kept hb h.2.1, cell_kept hb h.2.2⟩
theorem nine_far {W : World} {b g gb k q : Nat} (hb : g ≠ b) (hq : g ≠ gb) {v0 v1 v2 v3 v4 v5 v6 v7 v8 u : Value}
    (h : (W.cell? ⟨b, 0, none⟩ = some v0 ∧ W.cell? ⟨b, 1, none⟩ = some v1 ∧ W.cell? ⟨b, 2, none⟩ = some v2 ∧ W.cell? ⟨b, 3, none⟩ = some v3 ∧ W.cell? ⟨b, 4, none⟩ = some v4 ∧ W.cell? ⟨b, 5, none⟩ = some v5 ∧ W.cell? ⟨b, 6, none⟩ = some v6) ∧ W.cell? ⟨g, k, none⟩ = some v7 ∧ W.cell? ⟨gb, q, none⟩ = some v8) :
    let V := W.setCell ⟨g, k + 1, none⟩ u
    (V.cell? ⟨b, 0, none⟩ = some v0 ∧ V.cell? ⟨b, 1, none⟩ = some v1 ∧ V.cell? ⟨b, 2, none⟩ = some v2 ∧ V.cell? ⟨b, 3, none⟩ = some v3 ∧ V.cell? ⟨b, 4, none⟩ = some v4 ∧ V.cell? ⟨b, 5, none⟩ = some v5 ∧ V.cell? ⟨b, 6, none⟩ = some v6) ∧ V.cell? ⟨g, k, none⟩ = some v7 ∧ V.cell? ⟨gb, q, none⟩ = some v8 := by
  have k1 : ∀ (V : World) (o j : Nat) (x : Value), (V.setCell ⟨g, o, none⟩ x).cell? ⟨b, j, none⟩ = V.cell? ⟨b, j, none⟩ := fun V o j x => World.cell?_setCell_far _ _ _ _ hb
  have k2 : ∀ (V : World) (o j : Nat) (x : Value), (V.setCell ⟨g, o, none⟩ x).cell? ⟨gb, j, none⟩ = V.cell? ⟨gb, j, none⟩ := fun V o j x => World.cell?_setCell_far _ _ _ _ hq
  have k3 : ∀ (V : World) (x : Value), (V.setCell ⟨g, k + 1, none⟩ x).cell? ⟨g, k, none⟩ = V.cell? ⟨g, k, none⟩ := fun V x => World.cell?_setCell_other _ _ _ _ (by intro e; cases e)
  simp only [k1, k2, k3]
  exact h
set_option maxRecDepth 100000 in
set_option maxHeartbeats 8000000 in
theorem offsets_any (v b : Value) (L : List It) (B : List Bool) (w : World) (hL : ItsO w v L) (hB : BosO w b B) (hlen : B.length = L.length) (hok : AllOk L) :
    Calls Try.prog 30 #[v, b] w fun e w' => (∃ v', e = .returned v' ∧ w'.ownsRow w.heap.size 2 1 v' (L.length + 1) ((offL L B).map fun x => Value.int .i64 x)) ∧ Below w.heap.size w w' := by
  obtain ⟨aa, ca, rfl⟩ := hL.slice
  obtain ⟨ab, cb, rfl⟩ := hB.slice
  rw [hlen] at hB ⊢
  have hl6 := hok.1
  have HL := Lib.hid hL
  have HB := Lib.hid hB
  have HOK := Lib.hid hok
  have HLEN := Lib.hid hlen
  clear hL hB hok hlen
  obtain ⟨i0, hi, hz0', hz1, hz2⟩ := info_parts infoI64
  have w8 : IntKind.i64.wrap ((L.length : Int) + 1) = ((L.length + 1 : Nat) : Int) := by rw [IntWalk.i64_in _ (by omega)]; omega
  go_enter Try.func30, Try.ntmps30
  go_wp2_with (at_make; refine wpList_make_full _ rfl _ _ 26 rfl w.heap.size 2 i0 (.int .i64 0) 1 Try.underlying26 hi hz0' hz1 _ _ _ _ (L.length + 1) rfl rfl (by omega) (by omega) (by rw [hz2]; omega) (by unfold maxLen; omega) (Nat.le_refl _) ?_; intro w1 hown hgrow)
  rw [madeI64, offK_zero L B] at hown
  have hB1 : Below w.heap.size w w1 := (Below.refl _ w).grown hgrow (Nat.le_refl _) (fun k hk => by cases hk)
  have HBA := Lib.hid hB1
  have hgz : w.heap.size < w1.heap.size := own_lt hown _ rfl
  clear hgrow hB1
  go_wp2_with fail
  go_loopw [14] (fun iv wr => ∃ (k : Nat), k ≤ L.length ∧ iv = .int .i64 (k : Int) ∧ Hid (wr.ownsRow w.heap.size 2 1 (.slice (some ⟨w.heap.size, 0, none⟩) (L.length + 1) (L.length + 1)) (L.length + 1) (offK L B k)) ∧ Hid (Below w.heap.size w wr)) (fun iv _ => L.length - (intOf iv).toNat)
  case atStart => exact ⟨0, Nat.zero_le _, rfl, Lib.hid hown, HBA⟩
  case round =>
    obtain ⟨k, hk, rfl, hrow, hbr⟩ := hrel
    clear hown hgz HBA
    by_cases hlt : (k : Int) < (L.length : Int)
    · have hlt' : k < L.length := by omega
      obtain ⟨g, off, cap, x, hx, hv, hg, x0, x1, x2, x3, x4, x5, x6⟩ := (HL.out.keep hbr.out).at hlt'
      obtain ⟨gb, offb, capb, bb, hbx, hvb, hgb, xb0⟩ := HB.out.at (k := k) (by rw [HLEN.out]; omega)
      have xb := (hbr.out.cell (p := ⟨gb, offb + k, none⟩) hgb).trans xb0
      cases hv
      rw [HLEN.out] at hvb
      cases hvb
      have hA := offAt_bound B HOK.out k hk
      have hxo : okIt x (L.length : Int) = true := by have := getD_ok HOK.out hlt'; rwa [show L.getD k default = x by simp [List.getD, hx]] at this
      have hE : offAt L B (k + 1) = offAt L B k + sizeB x (offAt L B k) bb := by
        show offAt L B k + sizeB (L.getD k default) (offAt L B k) (B.getD k false) = _
        rw [show L.getD k default = x by simp [List.getD, hx], show B.getD k false = bb by simp [List.getD, hbx]]
      have hsb := size_bound hxo (offAt L B k) bb
      have SZ := Lib.hid (fun W => size_any x (offAt L B k) bb W hA.1 (by omega) (ok_align hxo))
      unfold itV at SZ
      have w9 : IntKind.i64.wrap ((k : Int) + 1) = ((k + 1 : Nat) : Int) := by rw [IntWalk.i64_in _ (by omega)]; omega
      have w6 : IntKind.i64.wrap (offAt L B k + sizeB x (offAt L B k) bb) = offAt L B (k + 1) := by rw [hE]; exact IntWalk.i64_in _ (by omega)
      have hak : wr.cell? ⟨w.heap.size, k, none⟩ = some (.int .i64 (offAt L B k)) := by rw [hrow.out.cellAt k (by omega)]; exact offK_get L B (Nat.le_refl _) hk
      have hck := offK_set L B hlt'
      have HCK := Lib.hid hck
      have hwz : w.heap.size < wr.heap.size := own_lt hrow.out _ rfl
      generalize offAt L B (k + 1) = A2 at *
      generalize sizeB x (offAt L B k) bb = R at *
      generalize offAt L B k = A1 at *
      clear hck hE hsb hA hxo hx hbx xb0 HL HB
      have hq1 : (k : Int) < (L.length : Int) + 1 := by omega
      have hq2 : (k : Int) + 1 < (L.length : Int) + 1 := by omega
      have hq0 : (0 : Int) ≤ (k : Int) := by omega
      have hq3 : (0 : Int) ≤ (k : Int) + 1 := by omega
      go_wp2_with fail
      have S0' := it7_new wr x 44
      have hB0 := below1 wr (.cells #[.int .i64 x.k, .int .i64 x.s, .int .i64 x.a, .int .i64 x.t, .int .i64 x.d, .int .i64 x.lo, .int .i64 x.hi] 44)
      have S0 := And.intro (show _ ∧ _ ∧ _ ∧ _ ∧ _ ∧ _ ∧ _ from S0') (And.intro (cell_kept hB0 hak) (cell_kept hB0 xb))
      have HB0 := Lib.hid (Below.thn hbr.out hbr.out.size hB0)
      have HR0 := Lib.hid (own_keep hrow.out hB0)
      generalize wr.alloc (.cells #[.int .i64 x.k, .int .i64 x.s, .int .i64 x.a, .int .i64 x.t, .int .i64 x.d, .int .i64 x.lo, .int .i64 x.hi] 44) = W0 at *
      clear S0' hB0 hak xb x0 x1 x2 x3 x4 x5 x6
      go_region_held3 (fun w' => (w'.cell? ⟨wr.heap.size, 0, none⟩ = some (.int .i64 x.k) ∧ w'.cell? ⟨wr.heap.size, 1, none⟩ = some (.int .i64 x.s) ∧ w'.cell? ⟨wr.heap.size, 2, none⟩ = some (.int .i64 x.a) ∧ w'.cell? ⟨wr.heap.size, 3, none⟩ = some (.int .i64 x.t) ∧ w'.cell? ⟨wr.heap.size, 4, none⟩ = some (.int .i64 x.d) ∧ w'.cell? ⟨wr.heap.size, 5, none⟩ = some (.int .i64 x.lo) ∧ w'.cell? ⟨wr.heap.size, 6, none⟩ = some (.int .i64 x.hi)) ∧ w'.cell? ⟨w.heap.size, k, none⟩ = some (.int .i64 A1) ∧ w'.cell? ⟨gb, offb + k, none⟩ = some (.bool bb)) (first | with_reducible exact S0 | with_reducible exact S1 | exact S0 | exact S1 | exact nine_far (by omega) (by omega) S1) (first
        | (go_at_call 44; ((with_reducible refine (SZ.out _).mono ?_); rintro e w1 ⟨rfl, hb1⟩); have S1 := nine_keep hb1 S0; have HB1 := Lib.hid (Below.thn HB0.out.drew (by show w.heap.size ≤ W0.heap.size; exact HB0.out.size) hb1); have HR1 := own_keep HR0.out.drew hb1; obtain ⟨u, hu⟩ : ∃ u, w1.cell? ⟨w.heap.size, k + 1, none⟩ = some u := ⟨_, by rw [HR1.cellAt (k + 1) (by omega)]; exact List.getElem?_eq_getElem (by rw [offK_len]; omega)⟩; have fz := HR1.frozenAt (k + 1); have HR2 := Lib.hid HR1; clear hb1 HR1))
      have st := (HR2.out.stored (k + 1) (.int .i64 A2)).1
      rw [HCK.out] at st
      have HN := Lib.hid st
      have HBN := Lib.hid (HB1.out.setCell (p := ⟨w.heap.size, k + 1, none⟩) (Nat.le_refl _) (.int .i64 A2))
      clear st
      go_wp2_with fail
      go_roundw
      case rel => exact ⟨k + 1, by omega, by first | rfl | rw [← w9], HN, HBN⟩
      case measure => simp [intOf]; omega
    · go_wp2_with fail
      go_ret
      have e : k = L.length := by omega
      subst e
      have h1 := hrow.out
      rw [offK_all] at h1
      exact ⟨⟨_, rfl, h1⟩, hbr.out⟩
end Go.Proofs.Ytccmfhhdpdbabaa
