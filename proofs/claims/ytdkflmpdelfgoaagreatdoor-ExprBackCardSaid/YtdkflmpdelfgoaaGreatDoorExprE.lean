/-
  A slice that reads as rows of three cells; slices.ContainsFunc over values: what each call returns. Conditions: none.
-/
import Derived.Test.YtdkflmpdelfgoaaGreatDoorExprD
import Derived.Deep.QuietTactic
import Derived.BigQuiet
namespace Go.Proofs.YtdkflmpdelfgoaaGreatDoor
open Go.RowKit Go.Shelf
set_option linter.unusedVariables false
attribute [local go_sem] Oper.semAt_some

/-- a slice reads as rows of three cells, wherever it lies -/
def TriO {α : Type} (f : α → Value × Value × Value) (W : World) (v : Value) (T : List α) : Prop := ((v = .slice none 0 0 ∨ ∃ a c, v = .slice (some a) 0 c) ∧ T = []) ∨ ∃ g off cap, v = .slice (some ⟨g, off, none⟩) T.length cap ∧ T.length ≤ cap ∧ cap ≤ maxLen ∧ g < W.heap.size ∧
  ∀ (k : Nat) (x : α), T[k]? = some x → W.cell? ⟨g, off + k * 3, none⟩ = some (f x).1 ∧ W.cell? ⟨g, off + k * 3 + 1, none⟩ = some (f x).2.1 ∧ W.cell? ⟨g, off + k * 3 + 2, none⟩ = some (f x).2.2
section
variable {α : Type} {f : α → Value × Value × Value}
theorem TriO.keep {W W' : World} {v : Value} {T : List α} (h : TriO f W v T) (hb : Below W.heap.size W W') : TriO f W' v T := by
  rcases h with h | ⟨g, off, cap, h1, hc, hcm, h2, h3⟩
  · exact .inl h
  · refine .inr ⟨g, off, cap, h1, hc, hcm, Nat.lt_of_lt_of_le h2 hb.size, fun k x hx => ?_⟩
    obtain ⟨a, b, c⟩ := h3 k x hx
    have k0 : ∀ j, W'.cell? ⟨g, j, none⟩ = W.cell? ⟨g, j, none⟩ := fun j => hb.cell (p := ⟨g, j, none⟩) h2
    exact ⟨(k0 _).trans a, (k0 _).trans b, (k0 _).trans c⟩
theorem tri_at {W : World} {v : Value} {T : List α} (h : TriO f W v T) {k : Nat} (hk : k < T.length) : ∃ g off cap x, T[k]? = some x ∧ v = .slice (some ⟨g, off, none⟩) T.length cap ∧ W.cell? ⟨g, off + k * 3, none⟩ = some (f x).1 ∧ W.cell? ⟨g, off + k * 3 + 1, none⟩ = some (f x).2.1 ∧ W.cell? ⟨g, off + k * 3 + 2, none⟩ = some (f x).2.2 := by
  rcases h with ⟨_, h0⟩ | ⟨g, off, cap, h, _, _, _, hc⟩
  · rw [h0] at hk; cases hk
  · obtain ⟨x, hx⟩ : ∃ x, T[k]? = some x := ⟨_, List.getElem?_eq_getElem hk⟩
    exact ⟨g, off, cap, x, hx, h, hc k x hx⟩
theorem tri_slice {W : World} {v : Value} {T : List α} (h : TriO f W v T) : ∃ a c, v = .slice a T.length c := by
  rcases h with ⟨h | ⟨a, c, h⟩, h0⟩ | ⟨g, off, cap, h, _⟩
  · exact ⟨_, _, by rw [h0]; exact h⟩
  · exact ⟨_, _, by rw [h0]; exact h⟩
  · exact ⟨_, _, h⟩
end
def vlF (x : V3) : Value × Value × Value := (.int .i64 x.1, .string x.2.1, .string x.2.2)
def tmF (t : Tm) : Value × Value × Value := (.int .i64 t.k, .int .i64 t.n, .string t.s)
set_option maxRecDepth 100000 in
set_option maxHeartbeats 4000000 in
theorem index_any (v : Value) (T : List V3) (w : World) (h : TriO vlF w v T) (hl : T.length ≤ 1000000) :
    Calls Tryz.prog 61 #[v, .func (.func 39) #[] #[]] w fun e w' => (∃ i : Int, e = .returned (.int .i64 i) ∧ decide (0 ≤ i) = T.any hasS) ∧ Below w.heap.size w w' := by
  have HT := Lib.hid h
  obtain ⟨A, c, rfl⟩ := tri_slice h
  clear h
  go_enter Tryz.func61, Tryz.ntmps61
  go_wp2_with fail
  go_loopw [8] (fun iv wr => ∃ k : Nat, k ≤ T.length ∧ iv = .int .i64 (k : Int) ∧ Hid ((T.take k).any hasS = false) ∧ Below w.heap.size w wr) (fun iv _ => T.length - (intOf iv).toNat)
  case atStart => exact ⟨0, Nat.zero_le _, rfl, Lib.hid rfl, Below.refl _ _⟩
  case round =>
    obtain ⟨k, hk, rfl, hall, hbr⟩ := hrel
    by_cases hlt : (k : Int) < (T.length : Int)
    · have hlt' : k < T.length := by omega
      obtain ⟨g, off, cap, x, hx, hv, x1, x2, x3⟩ := tri_at (HT.out.keep hbr) hlt'
      cases hv
      simp only [vlF] at x1 x2 x3
      have HS := Lib.hid (fun V => hasS_any x V)
      unfold vlV at HS
      have HX := Lib.hid hx
      have HBR := Lib.hid hbr
      have w9 : IntKind.i64.wrap ((k : Int) + 1) = ((k + 1 : Nat) : Int) := by rw [IntWalk.i64_in _ (by omega)]; omega
      clear hbr hx
      cases hh : hasS x with
      | true =>
        rw [hh] at HS
        have R := Lib.hid (show T.any hasS = true from List.any_eq_true.2 ⟨x, List.mem_of_getElem? HX.out, hh⟩)
        clear hh
        go_wp2_with fail
        refine (HS.out _).mono ?_
        rintro e w1 ⟨rfl, hb1⟩
        have HB1 := Lib.hid (Below.thn HBR.out HBR.out.size hb1)
        clear hb1
        go_wp2_with fail
        go_ret
        exact ⟨⟨_, rfl, by rw [R.out]; exact decide_eq_true (by omega)⟩, HB1.out⟩
      | false =>
        rw [hh] at HS
        have R := Lib.hid (show (T.take (k + 1)).any hasS = false by rw [List.take_add_one, HX.out, List.any_append, hall.out]; simp [hh])
        clear hh
        go_wp2_with fail
        refine (HS.out _).mono ?_
        rintro e w1 ⟨rfl, hb1⟩
        have HB1 := Lib.hid (Below.thn HBR.out HBR.out.size hb1)
        clear hb1
        go_wp2_with fail
        go_roundw
        case rel => exact ⟨k + 1, by omega, by first | rfl | rw [← w9], R, HB1.out⟩
        case measure => simp [intOf]; omega
    · have hkl : k = T.length := by omega
      subst hkl
      rw [List.take_length] at hall
      go_wp2_with fail
      go_ret
      exact ⟨⟨_, rfl, by rw [hall.out]; rfl⟩, hbr⟩
set_option maxRecDepth 100000 in
set_option maxHeartbeats 4000000 in
theorem contains_any (v : Value) (T : List V3) (w : World) (h : TriO vlF w v T) (hl : T.length ≤ 1000000) :
    Calls Tryz.prog 43 #[v, .func (.func 39) #[] #[]] w fun e w' => e = .returned (.bool (T.any hasS)) ∧ Below w.heap.size w w' := by
  have IX := Lib.hid (index_any v T w h hl)
  clear h
  go_enter Tryz.func43, Tryz.ntmps43
  go_wp2_with fail
  refine IX.out.mono ?_
  rintro e w1 ⟨⟨i, rfl, hi⟩, hb⟩
  have HI := Lib.hid hi
  have HB := Lib.hid hb
  clear hb hi
  go_wp2_with fail
  go_ret
  exact ⟨by rw [← HI.out]; rfl, HB.out⟩
end Go.Proofs.YtdkflmpdelfgoaaGreatDoor
