/-
  Undefined, the document's and the program's list of names: what each call returns. Conditions: how the object lies, how many symbols there are.
-/
import Derived.Test.YtopghgoheaaceaaObjP
import Derived.Test.YtopghgoheaaceaaObjK
import Derived.Maps.OwnIn
import Derived.Maps.AppendAt
namespace Go.Proofs.Ytopghgoheaaceaa
open Go.RowKit Go.Shelf
set_option linter.unusedVariables false
set_option linter.unusedSimpArgs false
attribute [local go_sem] Oper.semAt_some

theorem infoStr : (Try.prog.info? 9).map (fun i => (i.zero, i.size, i.bytes)) = some (some (.string ⟨#[]⟩), 1, 16) := by kernel_rfl
theorem own_sliceN {W : World} {base size n : Nat} {t : TypeId} {v : Value} {xs : List Value} (h : W.ownsRow base t size v n xs) : ∃ a c, v = .slice a n c := by
  rcases h.2 with ⟨h1, h2⟩ | ⟨g, cap, cur, h1, _⟩
  · exact ⟨none, 0, by rw [h1, h2]⟩
  · exact ⟨_, _, h1⟩
theorem news_one (w : World) (x : Value) (t : TypeId) : ∀ j u, [x][j]? = some u → (w.alloc (.cells #[x] t)).cell? ((⟨w.heap.size, 0, none⟩ : Addr).add j) = some u := by
  intro j u hj
  match j, hj with
  | 0, hj =>
    simp only [List.getElem?_cons_zero, Option.some.injEq] at hj
    subst hj
    rw [show (⟨w.heap.size, 0, none⟩ : Addr).add 0 = ⟨w.heap.size, 0, none⟩ by simp [Addr.add]]
    exact cells_new w _ _ 0 _ rfl
  | _ + 1, hj => simp at hj
theorem own_keep {B : Nat} {e : TypeId} {k : Nat} {v : Value} {n : Nat} {xs : List Value} {w w' : World} (h : w.ownsRow B e k v n xs) (hb : Below w.heap.size w w') : w'.ownsRow B e k v n xs :=
  h.kept (row := none) ⟨hb.os, hb.tape, hb.output, hb.size, fun j hj _ => hb.block j hj⟩ (by cases hv : v.ownBlock <;> simp)
theorem ownsRow_less {w : World} {B B' : Nat} {e : TypeId} {size : Nat} {v : Value} {n : Nat} {xs : List Value} (h : w.ownsRow B e size v n xs) (hB : B' ≤ B) : w.ownsRow B' e size v n xs := by
  obtain ⟨h1, h2⟩ := h
  refine ⟨h1, ?_⟩
  rcases h2 with h2 | ⟨g, cap, cur, a, b, c⟩
  · exact .inl h2
  · exact .inr ⟨g, cap, cur, a, by omega, c⟩
/-- a slice of texts, wherever it lies -/
def StrO (W : World) (v : Value) (D : List BA) : Prop := RowsO 1 W v (D.map fun s => [Value.string s])
theorem StrO.keep {W W' : World} {v : Value} {D : List BA} (h : StrO W v D) (hb : Below W.heap.size W W') : StrO W' v D := RowsO.keep h hb
theorem StrO.slice {W : World} {v : Value} {D : List BA} (h : StrO W v D) : ∃ a c, v = .slice a D.length c := by
  obtain ⟨a, c, e⟩ := RowsO.slice h; exact ⟨a, c, by rw [e, List.length_map]⟩
theorem StrO.at {W : World} {v : Value} {D : List BA} (h : StrO W v D) {k : Nat} (hk : k < D.length) : ∃ g off cap x, D[k]? = some x ∧ v = .slice (some ⟨g, off, none⟩) D.length cap ∧ g < W.heap.size ∧ W.cell? ⟨g, off + k, none⟩ = some (.string x) := by
  obtain ⟨s, hs⟩ : ∃ s, D[k]? = some s := ⟨_, List.getElem?_eq_getElem hk⟩
  obtain ⟨g, off, cap, e, hg, hc⟩ := RowsO.at h (k := k) (x := [Value.string s]) (by rw [List.getElem?_map, hs]; rfl)
  have := hc 0 _ rfl
  rw [Nat.mul_one] at this
  exact ⟨g, off, cap, s, hs, by rw [e, List.length_map], hg, this⟩
theorem str_of_own {W : World} {base : Nat} {v : Value} {D : List BA} (h : W.ownsRow base 9 1 v D.length (D.map Value.string)) : StrO W v D := by
  rcases h.2 with ⟨h1, h2⟩ | ⟨g, cap, cur, h1, h2, h3, h4, h5, h6, h7⟩
  · exact .inl ⟨.inl h1, by rw [List.length_eq_zero_iff.1 h2]; rfl⟩
  · refine .inr ⟨g, 0, cap, by rw [List.length_map]; exact h1, by rw [List.length_map]; exact h4, h5, (Array.getElem?_eq_some_iff.1 h3).1, fun k x hx j y hy => ?_⟩
    rw [List.getElem?_map] at hx
    cases hs : D[k]? with
    | none => rw [hs] at hx; cases hx
    | some s =>
      rw [hs] at hx
      simp only [Option.map_some, Option.some.injEq] at hx
      subst hx
      match j, hy with
      | 0, hy =>
        simp only [List.getElem?_cons_zero, Option.some.injEq] at hy
        subst hy
        have hk : k < D.length := (List.getElem?_eq_some_iff.1 hs).1
        rw [Lib.cell_of_heap h3, show 0 + k * 1 + 0 = k by omega]
        have : (cur.toList.take (D.length * 1))[k]? = some (Value.string s) := by rw [h7, List.getElem?_map, hs]; rfl
        rw [List.getElem?_take, if_pos (by omega)] at this
        simpa using this
      | _ + 1, hy => simp at hy
/-- the names of the symbols that are defined elsewhere -/
def undL (T : List Sy) : List BA := (T.filter fun y => y.sec == -1).map fun y => y.name
theorem undL_snoc (T : List Sy) (x : Sy) : undL (T ++ [x]) = undL T ++ (if (x.sec == -1) = true then [x.name] else []) := by
  unfold undL
  rw [List.filter_append, List.map_append]
  congr 1
  by_cases h : (x.sec == -1) = true
  · simp [h]
  · simp [h]
theorem undL_len (T : List Sy) : (undL T).length ≤ T.length := by
  unfold undL
  rw [List.length_map]; exact List.length_filter_le _ _
structure UnI (B : Nat) (w : World) (T : List Sy) (k : Nat) (lv : Value) (wr : World) : Prop where
  le : k ≤ T.length
  row : wr.ownsRow B 9 1 lv (undL (T.take k)).length ((undL (T.take k)).map Value.string)
  bel : Below B w wr
set_option maxRecDepth 100000 in
set_option maxHeartbeats 8000000 in
theorem rund_any (o : Obj') (w : World) (ho : ObjO w o) (hl : o.syms.length ≤ 300) :
    Calls Try.prog 28 #[obV o] w fun e w' => ∃ u, e = .returned u ∧ w'.ownsRow w.heap.size 9 1 u (undL o.syms).length ((undL o.syms).map Value.string) ∧ Below w.heap.size w w' := by
  have HO := Lib.hid ho
  obtain ⟨sv, yv, secs, syms⟩ := o
  obtain ⟨sa, sc, h1⟩ := ho.1.slice
  obtain ⟨ya, yc, h2⟩ := ho.2.slice
  simp only at h1 h2 hl
  subst h1 h2
  clear ho
  unfold obV
  simp only
  obtain ⟨i0, hi, hiz0, hiz1, hiz2⟩ := info_parts infoStr
  obtain ⟨W1, hW1⟩ : ∃ W1, w.alloc (.cells #[.slice sa secs.length sc, .slice ya syms.length yc] 25) = W1 := ⟨_, rfl⟩
  have HB1 : Hid (Below w.heap.size w W1) := Lib.hid (by rw [← hW1]; exact below1 w _)
  have hz1 : w.heap.size < W1.heap.size := by rw [← hW1]; simp
  have c1 : W1.cell? ⟨w.heap.size, 1, none⟩ = some (.slice ya syms.length yc) := by rw [← hW1]; exact cells_new w _ _ 1 _ rfl
  go_enter Try.func28, Try.ntmps28
  go_wp2_with fail
  clear hW1
  go_loopw [4, 3] (fun iv lv wr => ∃ k : Nat, iv = .int .i64 (k : Int) ∧ Hid (UnI W1.heap.size W1 syms k lv wr)) (fun iv lv _ => syms.length - (intOf iv).toNat)
  case atStart => exact ⟨0, rfl, Lib.hid ⟨Nat.zero_le _, World.ownsRow_nil _ _ _ _, Below.refl _ _⟩⟩
  case round =>
    obtain ⟨k, rfl, hS⟩ := hrel
    have hrow := hS.out.row
    obtain ⟨vb, vc, rfl⟩ := own_sliceN hrow
    have hkl := hS.out.le
    have g1 := (bcell hS.out.bel).1 w.heap.size 1 hz1 |>.trans c1
    have hz2 := Nat.lt_of_lt_of_le hz1 hS.out.bel.size
    have HBR := Lib.hid (Below.thn HB1.out HB1.out.size hS.out.bel)
    by_cases hlt : (k : Int) < (syms.length : Int)
    · have hlt' : k < syms.length := by omega
      obtain ⟨g, off, cap, x, hx, hv, hg, x0, x1, x2, x3⟩ := (HO.out.keep HBR.out).2.at hlt'
      cases hv
      have w9 : IntKind.i64.wrap ((k : Int) + 1) = ((k + 1 : Nat) : Int) := by rw [IntWalk.i64_in _ (by omega)]; omega
      have hSY := undL_snoc (syms.take k) x
      rw [show syms.take k ++ [x] = syms.take (k + 1) by rw [List.take_add_one, hx]; rfl] at hSY
      have hnl : (undL (syms.take k)).length ≤ k := Nat.le_trans (undL_len _) (by rw [List.length_take]; omega)
      have HSY := Lib.hid hSY
      have HROW := Lib.hid hrow
      have hsz := hS.out.bel.size
      obtain ⟨xs, xk, xv, xg⟩ := x
      simp only at x0 x1 x2 x3 HSY
      clear hSY hrow hx x2 x3
      obtain ⟨D, hD⟩ : ∃ D, undL (syms.take k) = D := ⟨_, rfl⟩
      rw [hD] at HSY HROW hnl ⊢
      cases h2 : (xk == -1) with
      | true =>
        rw [h2, if_pos rfl] at HSY
        go_wp2_with (at_builtin; go_loud (refine wpList_append_own _ rfl _ _ 46 rfl W1.heap.size 9 i0 (.string ⟨#[]⟩) 1 16 Try.underlying46 hi hiz0 hiz1 hiz2 rfl (by decide) _ _ _ rfl (HROW.out.alloc _) ⟨wr.heap.size, 0, none⟩ 1 1 [.string xs] rfl rfl (news_one _ _ _) (by simp [Value.oneCell']) (by unfold maxLen; omega) (by omega) (by simp; omega) ?_; intro v' w3 hown3 hgrow3 _; obtain ⟨ub, uc, rfl⟩ := own_sliceN hown3))
        go_roundw
        case rel =>
          refine ⟨k + 1, by first | rfl | rw [← w9], Lib.hid ⟨by omega, ?_, ?_⟩⟩
          · rw [HSY.out, List.length_append, List.map_append]; exact hown3
          · exact (hS.out.bel.alloc hsz _).grown hgrow3 (by simp; omega) (fun g hg => (HROW.out.lt g hg).1)
        case measure => simp [intOf]; omega
      | false =>
        rw [h2, if_neg (by decide), List.append_nil] at HSY
        go_wp2_with fail
        go_roundw
        case rel => exact ⟨k + 1, by first | rfl | rw [← w9], Lib.hid ⟨by omega, by rw [HSY.out]; exact HROW.out, hS.out.bel⟩⟩
        case measure => simp [intOf]; omega
    · have hkl2 : k = syms.length := by omega
      subst hkl2
      have HROW := hrow
      rw [List.take_length] at HROW ⊢
      clear hrow
      have HF := Lib.hid (show wr.ownsRow w.heap.size 9 1 (.slice vb (undL syms).length vc) (undL syms).length ((undL syms).map Value.string) from ownsRow_less HROW (by omega))
      go_wp2_with fail
      go_ret
      exact ⟨.slice vb (undL syms).length vc, rfl, HF.out, HBR.out⟩
end Go.Proofs.Ytopghgoheaaceaa
