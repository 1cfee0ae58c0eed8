/-
  The document's Find, Section and Check: what each call returns. Conditions: how the object lies, the names' sizes.
-/
import Derived.Test.YtopghgoheaaceaaObjP
import Derived.Test.YtopghgoheaaceaaObjL
import Derived.Test.YtopghgoheaaceaaObjI
import Derived.Test.YtopghgoheaaceaaObjJ
namespace Go.Proofs.Ytopghgoheaaceaa
open Go.RowKit
set_option linter.unusedVariables false
set_option linter.unusedSimpArgs false

theorem findL_take {L : List BA} {s : BA} {k : Nat} (h : ∀ j, j < k → L[j]? ≠ some s) (hk : L[k]? = some s) : findL L s = some k := by
  induction L generalizing k with
  | nil => simp at hk
  | cons x L ih =>
    show (if x = s then some 0 else (findL L s).map (· + 1)) = some k
    cases k with
    | zero => rw [List.getElem?_cons_zero] at hk; cases hk; rw [if_pos rfl]
    | succ k =>
      rw [if_neg (fun e => h 0 (by omega) (by rw [e]; rfl)), ih (k := k) (fun j hj => by have := h (j + 1) (by omega); rwa [List.getElem?_cons_succ] at this) (by rwa [List.getElem?_cons_succ] at hk)]
      rfl
theorem findL_miss {L : List BA} {s : BA} (h : ∀ j, j < L.length → L[j]? ≠ some s) : findL L s = none := findL_none (fun r hr e => by
  obtain ⟨j, hj, hj2⟩ := List.mem_iff_getElem.1 hr
  exact h j hj (by rw [List.getElem?_eq_getElem hj, hj2, e]))
set_option maxRecDepth 100000 in
set_option maxHeartbeats 2000000 in
theorem rsec_any (o : Obj') (s : BA) (w : World) (ho : ObjO w o) :
    Calls Try.prog 25 #[obV o, .string s] w fun e w' => e = findO (findL (secNs o) s) ∧ Below w.heap.size w w' := by
  have FT := Lib.hid (fun k h1 h2 => findL_take (L := secNs o) (s := s) (k := k) h1 h2)
  have FM := Lib.hid (fun h => findL_miss (L := secNs o) (s := s) h)
  have HO := Lib.hid ho
  have hl1 := ho.1.len
  have hl2 := ho.2.len
  have NA : Hid (∀ j : Nat, (secNs o)[j]? = (o.secs[j]?).map (·.name)) := Lib.hid (fun j => List.getElem?_map ..)
  have NL : Hid ((secNs o).length = o.secs.length) := Lib.hid (List.length_map ..)
  generalize findL (secNs o) s = R at *
  generalize secNs o = NS at *
  obtain ⟨sv, yv, secs, syms⟩ := o
  obtain ⟨sa, sc, h1⟩ := ho.1.slice
  obtain ⟨ya, yc, h2⟩ := ho.2.slice
  unfold maxLen at hl1 hl2
  simp only at h1 h2 hl1 hl2 NA NL
  subst h1 h2
  clear ho
  unfold obV
  simp only
  obtain ⟨W1, hW1⟩ : ∃ W1, w.alloc (.cells #[.slice sa secs.length sc, .slice ya syms.length yc] 25) = W1 := ⟨_, rfl⟩
  have HB1 : Hid (Below w.heap.size w W1) := Lib.hid (by rw [← hW1]; exact below1 w _)
  have c0 : W1.cell? ⟨w.heap.size, 0, none⟩ = some (.slice sa secs.length sc) := by rw [← hW1]; exact cells_new w _ _ 0 _ rfl
  go_enter Try.func25, Try.ntmps25
  go_wp2_with fail
  clear hW1
  go_loop [6] (fun iv => ∃ k : Nat, k ≤ secs.length ∧ iv = .int .i64 (k : Int) ∧ Hid (∀ j, j < k → NS[j]? ≠ some s)) (fun iv => secs.length - (intOf iv).toNat)
  case atStart => exact ⟨0, Nat.zero_le _, rfl, Lib.hid (fun j hj => by omega)⟩
  case round =>
    obtain ⟨k, hk, rfl, hst⟩ := hrel
    by_cases hlt : (k : Int) < (secs.length : Int)
    · have hlt' : k < secs.length := by omega
      obtain ⟨g, off, cap, x, hx, hv, hg, hin, x0, x1, x2, x3, x4, x5⟩ := (HO.out.keep HB1.out).1.at hlt'
      cases hv
      have w9 : IntKind.i64.wrap ((k : Int) + 1) = ((k + 1 : Nat) : Int) := by rw [IntWalk.i64_in _ (by omega)]; omega
      have hN : NS[k]? = some x.name := by rw [NA.out, hx]; rfl
      by_cases hxs : x.name = s
      · have HR := Lib.hid (FT.out k hst.out (by rw [hN, hxs]))
        have hyes : (x.name.toList == s.toList) = true := by rw [hxs]; exact str_yes s
        clear hst hx hN hxs
        generalize x.name = nm at *
        go_wp2_with fail
        go_ret2
        exact ⟨by rw [HR.out]; rfl, HB1.out⟩
      · have hno := str_no hxs
        have HN := Lib.hid (show ∀ j, j < k + 1 → NS[j]? ≠ some s from fun j hj => by
          by_cases e : j = k
          · rw [e, hN]; intro h; injection h with h; exact hxs h
          · exact hst.out j (by omega))
        clear hst hx hN hxs
        generalize x.name = nm at *
        go_wp2_with fail
        go_round
        case rel => exact ⟨k + 1, by omega, by first | rfl | rw [← w9], HN⟩
        case measure => simp [intOf]; omega
    · have HR := Lib.hid (FM.out (fun j hj => hst.out j (by have := NL.out; omega)))
      go_wp2_with fail
      go_ret2
      exact ⟨by rw [HR.out]; rfl, HB1.out⟩
set_option maxRecDepth 100000 in
set_option maxHeartbeats 2000000 in
theorem rfind_any (o : Obj') (s : BA) (w : World) (ho : ObjO w o) :
    Calls Try.prog 23 #[obV o, .string s] w fun e w' => e = findO (findL (symNs o) s) ∧ Below w.heap.size w w' := by
  have FT := Lib.hid (fun k h1 h2 => findL_take (L := symNs o) (s := s) (k := k) h1 h2)
  have FM := Lib.hid (fun h => findL_miss (L := symNs o) (s := s) h)
  have HO := Lib.hid ho
  have hl1 := ho.1.len
  have hl2 := ho.2.len
  have NA : Hid (∀ j : Nat, (symNs o)[j]? = (o.syms[j]?).map (·.name)) := Lib.hid (fun j => List.getElem?_map ..)
  have NL : Hid ((symNs o).length = o.syms.length) := Lib.hid (List.length_map ..)
  generalize findL (symNs o) s = R at *
  generalize symNs o = NS at *
  obtain ⟨sv, yv, secs, syms⟩ := o
  obtain ⟨sa, sc, h1⟩ := ho.1.slice
  obtain ⟨ya, yc, h2⟩ := ho.2.slice
  unfold maxLen at hl1 hl2
  simp only at h1 h2 hl1 hl2 NA NL
  subst h1 h2
  clear ho
  unfold obV
  simp only
  obtain ⟨W1, hW1⟩ : ∃ W1, w.alloc (.cells #[.slice sa secs.length sc, .slice ya syms.length yc] 25) = W1 := ⟨_, rfl⟩
  have HB1 : Hid (Below w.heap.size w W1) := Lib.hid (by rw [← hW1]; exact below1 w _)
  have c1 : W1.cell? ⟨w.heap.size, 1, none⟩ = some (.slice ya syms.length yc) := by rw [← hW1]; exact cells_new w _ _ 1 _ rfl
  go_enter Try.func23, Try.ntmps23
  go_wp2_with fail
  clear hW1
  go_loop [6] (fun iv => ∃ k : Nat, k ≤ syms.length ∧ iv = .int .i64 (k : Int) ∧ Hid (∀ j, j < k → NS[j]? ≠ some s)) (fun iv => syms.length - (intOf iv).toNat)
  case atStart => exact ⟨0, Nat.zero_le _, rfl, Lib.hid (fun j hj => by omega)⟩
  case round =>
    obtain ⟨k, hk, rfl, hst⟩ := hrel
    by_cases hlt : (k : Int) < (syms.length : Int)
    · have hlt' : k < syms.length := by omega
      obtain ⟨g, off, cap, x, hx, hv, hg, x0, x1, x2, x3⟩ := (HO.out.keep HB1.out).2.at hlt'
      cases hv
      have w9 : IntKind.i64.wrap ((k : Int) + 1) = ((k + 1 : Nat) : Int) := by rw [IntWalk.i64_in _ (by omega)]; omega
      have hN : NS[k]? = some x.name := by rw [NA.out, hx]; rfl
      by_cases hxs : x.name = s
      · have HR := Lib.hid (FT.out k hst.out (by rw [hN, hxs]))
        have hyes : (x.name.toList == s.toList) = true := by rw [hxs]; exact str_yes s
        clear hst hx hN hxs
        generalize x.name = nm at *
        go_wp2_with fail
        go_ret2
        exact ⟨by rw [HR.out]; rfl, HB1.out⟩
      · have hno := str_no hxs
        have HN := Lib.hid (show ∀ j, j < k + 1 → NS[j]? ≠ some s from fun j hj => by
          by_cases e : j = k
          · rw [e, hN]; intro h; injection h with h; exact hxs h
          · exact hst.out j (by omega))
        clear hst hx hN hxs
        generalize x.name = nm at *
        go_wp2_with fail
        go_round
        case rel => exact ⟨k + 1, by omega, by first | rfl | rw [← w9], HN⟩
        case measure => simp [intOf]; omega
    · have HR := Lib.hid (FM.out (fun j hj => hst.out j (by have := NL.out; omega)))
      go_wp2_with fail
      go_ret2
      exact ⟨by rw [HR.out]; rfl, HB1.out⟩
end Go.Proofs.Ytopghgoheaaceaa
