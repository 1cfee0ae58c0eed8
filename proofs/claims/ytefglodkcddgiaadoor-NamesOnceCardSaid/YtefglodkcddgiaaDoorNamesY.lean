/-
  A set of texts that the call itself keeps: what a lookup in it says. Conditions: the map's own.
-/
import Derived.Test.YtefglodkcddgiaaDoorNamesX
import Derived.Maps.OwnSet
import Derived.Maps.Views
namespace Go.Proofs.YtefglodkcddgiaaDoor
open Go.RowKit Go.Shelf

theorem zero_bool (w : World) : (zeroValue 4).run Tryd.prog w = .ok (.bool false) w := by kernel_rfl
/-- the set holds none of the names from the i-th on -/
def Fresh (T : List NRow) (i : Nat) (D : DataW Unit) : Prop := ∀ j x, i ≤ j → T[j]? = some x → D.atKey (.string x.1) (.lit (.bool false)) = .lit (.bool false)
theorem fresh_none (T : List NRow) : Fresh T 0 (.map []) := fun _ _ _ _ => rfl
theorem fresh_next {T : List NRow} {i : Nat} {D : DataW Unit} {x : NRow} (hn : (T.map (·.1)).Nodup) (hx : T[i]? = some x) (h : Fresh T i D) : Fresh T (i + 1) (D.put (.string x.1) (.lit (.bool true))) := by
  intro j y hj hy
  rw [Maps.atKey_put_other]
  · exact h j y (by omega) hy
  · intro e
    injection e with e
    have hi : i < T.length := by
      rcases Nat.lt_or_ge i T.length with g | g
      · exact g
      · rw [List.getElem?_eq_none g] at hx; cases hx
    have := (List.getElem?_inj (i := j) (j := i) (l := T.map (·.1)) (by
      rw [List.length_map]
      rcases Nat.lt_or_ge j T.length with g | g
      · exact g
      · rw [List.getElem?_eq_none g] at hy; cases hy) hn).1 (by rw [List.getElem?_map, List.getElem?_map, hx, hy]; simp [e])
    omega
theorem bool_inv {P : Program} {e : TypeId} (he : P.underlying e = some .bool) {v : Value} {x : Bool} {ps : List MemPlace} (h : plainElem (H := Unit) P e v = some (.lit (.bool x), ps)) : v = .bool x := by
  unfold plainElem at h
  rw [he] at h
  cases v <;> simp at h
  rw [h.1]
theorem lookup_fresh {w : World} {T : List NRow} {b n i : Nat} {D : DataW Unit} {x : NRow} (h : w.ownsMap Tryd.prog 9 (plainElem Tryd.prog 4) b n D) (hf : Fresh T i D) (hx : T[i]? = some x) (hs : x.1.length ≤ 20) :
    (Instr.lookup 42 (.map (some b)) (.string ⟨x.1.toArray⟩) false).run Tryd.prog w = .ok (.bool false) w := by
  obtain ⟨v, ps, hrun, hv⟩ := h.lookup (Maps.string_keyed Tryd.underlying9) Tryd.underlying42 (zero_bool w) (plainElem_bool Tryd.underlying4 false)
    (Go.WideMaps.keyOf_string_mk Tryd.underlying9 (s := ⟨x.1.toArray⟩) (by show x.1.toArray.size ≤ _; unfold maxLen; simp; omega))
  rw [show (⟨x.1.toArray⟩ : ByteArray).data.toList = x.1 from rfl, hf i x (Nat.le_refl _) hx] at hv
  have e := bool_inv Tryd.underlying4 hv
  rw [← e]; exact hrun
theorem update_fresh {w : World} {b n : Nat} {D : DataW Unit} (h : w.ownsMap Tryd.prog 9 (plainElem Tryd.prog 4) b n D) (hn : n < 100) (s : ByteArray) (hs : s.size ≤ 20) :
    ∃ w', (Instr.mapUpdate 42 (.map (some b)) (.string s) (.bool true)).run Tryd.prog w = .ok () w' ∧ w'.ownsMap Tryd.prog 9 (plainElem Tryd.prog 4) b (n + 1) (D.put (.string s.data.toList) (.lit (.bool true))) ∧ w.grownBy w' (some b) :=
  h.update (Maps.string_keyed Tryd.underlying9) Tryd.underlying42 (by unfold maxLen; omega) (Go.WideMaps.keyOf_string_mk Tryd.underlying9 (by unfold maxLen; omega)) (plainElem_bool Tryd.underlying4 true)
theorem rise_at {T : List NRow} {i : Nat} {x y : NRow} (h : (T.map (·.2)).Pairwise (· < ·)) (hx : T[i]? = some x) (hy : T[i + 1]? = some y) : x.2 < y.2 := by
  have l1 : i + 1 < T.length := by
    rcases Nat.lt_or_ge (i + 1) T.length with g | g
    · exact g
    · rw [List.getElem?_eq_none g] at hy; cases hy
  have := List.pairwise_iff_getElem.1 h i (i + 1) (by rw [List.length_map]; omega) (by rw [List.length_map]; omega) (by omega)
  rw [List.getElem_map, List.getElem_map] at this
  rw [List.getElem?_eq_getElem (by omega)] at hx hy
  rw [← Option.some.inj hx, ← Option.some.inj hy]
  exact this
end Go.Proofs.YtefglodkcddgiaaDoor
