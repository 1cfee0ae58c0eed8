/-
  The program's maps of places, and the first byte 0 of a text. Conditions: the sizes of the names.
-/
import Derived.Test.YtbheeahdbimeiaaStbH
import Derived.Maps.OwnIn
import Derived.Maps.OwnSet
import Derived.Maps.Views
import Derived.Lib.BytesEntry
namespace Go.Proofs.Ytbheeahdbimeiaa
open Go.RowKit Go.Maps
set_option linter.unusedVariables false
set_option linter.unusedSimpArgs false

def keyB (s : BA) : Lit := .string s.data.toList
theorem keyB_ne {a b : BA} (h : a ≠ b) : keyB a ≠ keyB b := fun e => h (ba_ext (by injection e))
abbrev DW := DataW Unit
def vI (p : Int) : DW := .lit (.int .i64 p)
/-- what a map of places says -/
def MapR (D : DW) (g : BA → Option Nat) : Prop := IsMap D ∧ ∀ s : BA, match g s with
  | none => has D (keyB s) = false
  | some p => has D (keyB s) = true ∧ D.atKey (keyB s) (vI 0) = vI (p : Int)
def upd (g : BA → Option Nat) (s : BA) (p : Nat) : BA → Option Nat := fun x => if x = s then some p else g x
theorem MapR.no {D : DW} {g : BA → Option Nat} (h : MapR D g) {s : BA} (hs : g s = none) : has D (keyB s) = false := by have := h.2 s; rw [hs] at this; exact this
theorem MapR.yes {D : DW} {g : BA → Option Nat} (h : MapR D g) {s : BA} {p : Nat} (hs : g s = some p) : has D (keyB s) = true ∧ D.atKey (keyB s) (vI 0) = vI (p : Int) := by have := h.2 s; rw [hs] at this; exact this
theorem MapR.put {D : DW} {g : BA → Option Nat} (h : MapR D g) (s : BA) (p : Nat) : MapR (D.put (keyB s) (vI (p : Int))) (upd g s p) := by
  refine ⟨h.1.put _ _, fun x => ?_⟩
  unfold upd
  by_cases e : x = s
  · subst e
    rw [if_pos rfl]
    exact ⟨has_put_same h.1 (show WideAt.IsKeyLit (keyB x) from trivial) _, atKey_put_same h.1 (show WideAt.IsKeyLit (keyB x) from trivial) _ _⟩
  · rw [if_neg e, has_put_other (keyB_ne e), atKey_put_other (keyB_ne e)]
    exact h.2 x
abbrev OwnPl (W : World) (b n : Nat) (D : DW) : Prop := W.ownsMap Try.prog 9 (plainElem Try.prog 3) b n D
def g0 : BA → Option Nat := upd (fun _ => none) ⟨#[]⟩ 0
theorem mapR_nil : MapR (.map []) (fun _ => none) := ⟨isMap_empty, fun s => rfl⟩
theorem int_wf {a : Int} (h0 : -9223372036854775808 ≤ a) (h1 : a ≤ 9223372036854775807) : (Lit.int .i64 a).wf = true := by
  have := RowKit.wrap64_wf a
  rwa [IntWalk.wrap64_in a ⟨h0, h1⟩] at this
theorem zero_int (w : World) : (zeroValue 3).run Try.prog w = .ok (.int .i64 0) w := by kernel_rfl
theorem key_ok {s : BA} (hs : s.size ≤ maxLen) : keyOf Try.prog 9 (.string s) = some (keyB s) := Go.WideMaps.keyOf_string_mk Try.underlying9 hs
set_option maxHeartbeats 1000000 in
theorem begun_any (w : World) : Calls Try.prog 26 #[] w fun e w' => e = .returned (.map (some w.heap.size)) ∧ (∃ D, OwnPl w' w.heap.size 1 D ∧ MapR D g0) ∧ Below w.heap.size w w' := by
  have hmm := @run_makeMap Try.prog
  obtain ⟨w2, hrun, hown, hgrow⟩ := (World.ownsMap_made w Try.prog 9 (plainElem (H := Unit) Try.prog 3)).update (string_keyed Try.underlying9) Try.underlying49 (by decide) (key := .string ⟨#[]⟩) (val := .int .i64 0) (key_ok (by decide)) (plainElem_int Try.underlying3 (by decide))
  have HO := Lib.hid hown
  have HB := Lib.hid (show Below w.heap.size w w2 from ((Below.refl _ w).alloc (Nat.le_refl _) _).grown hgrow (by simp) (fun q hq => by cases hq; exact Nat.le_refl _))
  clear hown hgrow
  go_enter Try.func26, Try.ntmps26
  go_wp2_with fail
  go_ret
  exact ⟨rfl, ⟨_, HO.out, mapR_nil.put ⟨#[]⟩ 0⟩, HB.out⟩
set_option maxHeartbeats 1000000 in
/-- a name that begins somewhere -/
theorem put_old (b n : Nat) (D : DW) (g : BA → Option Nat) (s : BA) (at' : Int) (p : Nat) (w : World) (ho : OwnPl w b n D) (hr : MapR D g) (hs : s.size ≤ maxLen) (hg : g s = some p) :
    Calls Try.prog 27 #[.map (some b), .string s, .int .i64 at'] w fun e w' => e = .returned (.bool false) ∧ w = w' := by
  have HO := Lib.hid ho
  have hk := key_ok hs
  obtain ⟨hh, hat0⟩ := hr.yes hg
  clear ho hat0
  go_enter Try.func27, Try.ntmps27
  go_wp2_with (at_lookup; refine wpList_lookup_own_ok_int _ rfl _ _ 49 rfl 9 3 .i64 (string_keyed Try.underlying9) Try.underlying49 Try.underlying3 (zero_int _) b n D rfl HO.out _ (keyB s) rfl hk ?_; intro c hat hwc; rw [hh])
  go_ret
  exact ⟨rfl, rfl⟩
set_option maxHeartbeats 1000000 in
/-- a name that begins nowhere yet -/
theorem put_new (b n : Nat) (D : DW) (g : BA → Option Nat) (s : BA) (p : Nat) (w : World) (ho : OwnPl w b n D) (hr : MapR D g) (hs : s.size ≤ maxLen) (hg : g s = none) (hn : n < maxLen) (hp : p ≤ 281474976710656) :
    Calls Try.prog 27 #[.map (some b), .string s, .int .i64 (p : Int)] w fun e w' => e = .returned (.bool true) ∧ (∃ D', OwnPl w' b (n + 1) D' ∧ MapR D' (upd g s p)) ∧ w.grownBy w' (some b) := by
  have HO := Lib.hid ho
  have hk := key_ok hs
  have hh := hr.no hg
  have HP := Lib.hid (hr.put s p)
  have HV := Lib.hid (plainElem_int (H := Unit) (P := Try.prog) Try.underlying3 (a := (p : Int)) (int_wf (by omega) (by omega)))
  have HN := Lib.hid hn
  clear ho hp hn
  go_enter Try.func27, Try.ntmps27
  go_wp2_with (first
    | (at_lookup; refine wpList_lookup_own_ok_int _ rfl _ _ 49 rfl 9 3 .i64 (string_keyed Try.underlying9) Try.underlying49 Try.underlying3 (zero_int _) b n D rfl HO.out _ (keyB s) rfl hk ?_; intro c hat hwc; rw [hh])
    | (at_mapUpdate; refine wpList_mapUpdate_own _ rfl _ _ _ 49 rfl 9 3 (string_keyed Try.underlying9) Try.underlying49 _ b n D rfl HO.out HN.out _ _ (keyB s) rfl rfl hk _ [] HV.out ?_; intro w1 hown1 hgrow1; have HO1 := Lib.hid hown1; have HG1 := Lib.hid hgrow1; clear hown1 hgrow1))
  go_ret
  exact ⟨rfl, ⟨_, HO1.out, HP.out⟩, HG1.out⟩
/-- the first byte 0 -/
def idx0 (l : List Int) : Int := if 0 ∈ l then ((l.takeWhile fun b => b != 0).length : Int) else -1
theorem idx_list : ∀ (l : List UInt8), Lib.indexByte l 0 = idx0 (l.map fun b => ((b.toNat : Nat) : Int))
  | [] => rfl
  | b :: r => by
    unfold Lib.indexByte
    by_cases hb : b = 0
    · subst hb; simp [idx0]
    · have h1 : (b == 0) = false := by simp [hb]
      have h2 : ((b.toNat : Nat) : Int) ≠ 0 := by
        have : b.toNat ≠ 0 := fun h => hb (UInt8.toNat_inj.1 (by rw [h]; rfl))
        omega
      rw [h1, idx_list r]
      unfold idx0
      simp only [Bool.false_eq_true, if_false, List.map_cons]
      rw [List.takeWhile_cons_of_pos (by simpa using h2)]
      by_cases hm : (0 : Int) ∈ (r.map fun b => ((b.toNat : Nat) : Int))
      · rw [if_pos hm, if_pos (List.mem_cons_of_mem _ hm), if_neg (by simp), List.length_cons]
        omega
      · rw [if_neg hm, if_neg (fun h => (List.mem_cons.1 h).elim (fun e => h2 e.symm) hm)]
        simp
theorem idx0_zero (s : BA) : idx0 (nmOf s) = -1 ↔ zeroB s = false := by
  unfold idx0
  rw [zero_nz]
  by_cases h : (0 : Int) ∈ nmOf s
  · rw [if_pos h]
    constructor
    · intro e; omega
    · intro e; exact absurd rfl (e 0 h)
  · rw [if_neg h]
    exact ⟨fun _ b hb e => h (e ▸ hb), fun _ => rfl⟩
theorem idx0_ge (l : List Int) : -1 ≤ idx0 l := by unfold idx0; split <;> omega
set_option maxHeartbeats 1000000 in
theorem sidx_any (s : BA) (w : World) : Calls Try.prog 25 #[.string s, .int .u8 0] w fun e w' => e = .returned (.int .i64 (idx0 (nmOf s))) ∧ w = w' := by
  have hr := Lib.run_indexByteString (P := Try.prog) s 0
  have e : Lib.indexByte s.data.toList (0 : Int).toNat.toUInt8 = idx0 (nmOf s) := idx_list _
  rw [e] at hr
  have HC : ∀ W, (callFunc 40 #[.string s, .int .u8 0]).run Try.prog W = .ok (.value (.int .i64 (idx0 (nmOf s)))) W := by
    intro W
    rw [run_callFunc_extern Try.func40 (by kernel_rfl) (by kernel_rfl) (by kernel_rfl) (e := Extern.BytealgIndexByte.indexByte) (by kernel_rfl), hr]
    rfl
  have HS : Calls Try.prog 35 #[.string s, .int .u8 0] w fun e w' => e = .returned (.int .i64 (idx0 (nmOf s))) ∧ w = w' := by
    go_enter Try.func35, Try.ntmps35
    go_wp2_with fail
    go_ret
    exact ⟨rfl, rfl⟩
  clear hr HC
  go_enter Try.func25, Try.ntmps25
  go_wp2_with fail
  refine HS.mono ?_
  rintro e w1 ⟨rfl, rfl⟩
  go_wp2_with fail
  go_ret
  exact ⟨rfl, rfl⟩
theorem idx_bytes (l : List Int) (h : ∀ b ∈ l, 0 ≤ b ∧ b ≤ 255) : Lib.indexByte (Lib.bytesOf l) 0 = idx0 l := by
  rw [idx_list]
  congr 1
  unfold Lib.bytesOf
  rw [List.map_map]
  refine (List.map_congr_left fun b hb => ?_).trans (List.map_id l)
  have := h b hb
  simp only [Function.comp_apply, id]
  rw [UInt8.toNat_ofNat_of_lt' (by show b.toNat < 256; omega)]
  omega
set_option maxHeartbeats 1000000 in
theorem bidx_any (g off n c : Nat) (l : List Int) (w : World) (hn : l.length = n) (hb : ∀ b ∈ l, 0 ≤ b ∧ b ≤ 255) (hc : ∀ i, i < n → w.cell? ⟨g, off + i, none⟩ = some (.int .u8 (l.getD i 0))) :
    Calls Try.prog 30 #[.slice (some ⟨g, off, none⟩) n c, .int .u8 0] w fun e w' => e = .returned (.int .i64 (idx0 l)) ∧ w = w' := by
  have hr := Lib.run_indexByteSlice (P := Try.prog) w g off n c l hn hc 0
  have e : Lib.indexByte (Lib.bytesOf l) (0 : Int).toNat.toUInt8 = idx0 l := idx_bytes l hb
  rw [e] at hr
  have HC : (callFunc 36 #[.slice (some ⟨g, off, none⟩) n c, .int .u8 0]).run Try.prog w = .ok (.value (.int .i64 (idx0 l))) w := by
    rw [run_callFunc_extern Try.func36 (by kernel_rfl) (by kernel_rfl) (by kernel_rfl) (e := Extern.BytealgIndexByte.indexByte) (by kernel_rfl), hr]
    rfl
  clear hr hc hn
  go_enter Try.func30, Try.ntmps30
  go_wp2_with fail
  go_ret
  exact ⟨rfl, rfl⟩
end Go.Proofs.Ytbheeahdbimeiaa
