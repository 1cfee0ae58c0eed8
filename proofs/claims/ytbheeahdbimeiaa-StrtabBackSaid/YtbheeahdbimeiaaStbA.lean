/-
  How texts, numbers and bytes in rows lie in memory. No conditions beyond those that each lemma states.
-/
import Derived.Test.YtbheeahdbimeiaaRows
import Derived.Handy
import Derived.WalkKit
import Derived.ProofKit
import Derived.WalkLawsBesides
import Derived.WalkSpells
import Derived.Deep.RegionWith
import Derived.Deep.RegionHeld3
import Derived.Deep.QuietTactic
import Derived.Deep.AppendLies
import Derived.BigQuiet
import Derived.Lib.Hide
namespace Go.Proofs.Ytbheeahdbimeiaa
open Go.RowKit
set_option linter.unusedVariables false
set_option linter.unusedSimpArgs false
theorem Below.thn {B : Nat} {w W w1 : World} (h : Below B w W) (hB : B ≤ W.heap.size) (k : Below W.heap.size W w1) : Below B w w1 := h.trans (k.mono hB)
theorem bcell {W w1 : World} (hb : Below W.heap.size W w1) : (∀ b o, b < W.heap.size → w1.cell? ⟨b, o, none⟩ = W.cell? ⟨b, o, none⟩) ∧ (∀ b o, b < W.heap.size → w1.frozen? ⟨b, o, none⟩ = W.frozen? ⟨b, o, none⟩) :=
  ⟨fun b o h => hb.cell (p := ⟨b, o, none⟩) h, fun b o h => hb.frozen (p := ⟨b, o, none⟩) h⟩
theorem ret1 {k : IntKind} {a b : Int} (h : a = b) : Ending.returned (.int k a) = .returned (.int k b) := by rw [h]
theorem ret1b {a b : Bool} (h : a = b) : Ending.returned (.bool a) = .returned (.bool b) := by rw [h]
theorem quiet_eq {P : Program} {f : FuncId} {args : Array Value} {w : World} {n : Nat} {v : Value} (h : Calls P f args (w.drewN n) fun e w' => e = .returned v ∧ w.drewN n = w') :
    Calls P f args (w.drewN n) fun e w'' => e = .returned v ∧ ∃ m, w'' = w.drewN m := Calls.quiet_of_same (h.mono fun _ _ ⟨a, b⟩ => ⟨a, b.symm⟩)
theorem below_drewN {B : Nat} {w w' : World} (h : Below B w w') (n : Nat) : Below B w (w'.drewN n) := by
  induction n with
  | zero => exact h
  | succ n ih => exact ih.drew
theorem below1 (w : World) (o : Obj) : Below w.heap.size w (w.alloc o) := (Below.refl _ w).alloc (Nat.le_refl _) o
theorem cells_new (w : World) (cs : Array Value) (T : TypeId) (j : Nat) (v : Value) (h : cs[j]? = some v) : (w.alloc (.cells cs T)).cell? ⟨w.heap.size, j, none⟩ = some v := by
  rw [World.cell?_alloc_new]; exact h

/-- a slice reads as rows of n cells each, wherever it lies -/
def RowsO (n : Nat) (W : World) (v : Value) (C : List (List Value)) : Prop :=
  ((v = .slice none 0 0 ∨ ∃ a c, v = .slice (some a) 0 c) ∧ C = []) ∨ ∃ g off cap, v = .slice (some ⟨g, off, none⟩) C.length cap ∧ C.length ≤ cap ∧ cap ≤ maxLen ∧ g < W.heap.size ∧
    ∀ (k : Nat) x, C[k]? = some x → ∀ (j : Nat) y, x[j]? = some y → W.cell? ⟨g, off + k * n + j, none⟩ = some y
theorem RowsO.keep {n : Nat} {W W' : World} {v : Value} {C : List (List Value)} (h : RowsO n W v C) (hb : Below W.heap.size W W') : RowsO n W' v C := by
  rcases h with h | ⟨g, off, cap, h1, hc, hcm, h2, h3⟩
  · exact .inl h
  · exact .inr ⟨g, off, cap, h1, hc, hcm, Nat.lt_of_lt_of_le h2 hb.size, fun k x hx j y hy => (hb.cell (p := ⟨g, off + k * n + j, none⟩) h2).trans (h3 k x hx j y hy)⟩
theorem RowsO.slice {n : Nat} {W : World} {v : Value} {C : List (List Value)} (h : RowsO n W v C) : ∃ a c, v = .slice a C.length c := by
  rcases h with ⟨h | ⟨a, c, h⟩, h0⟩ | ⟨g, off, cap, h, _⟩
  · exact ⟨_, _, by rw [h0]; exact h⟩
  · exact ⟨_, _, by rw [h0]; exact h⟩
  · exact ⟨_, _, h⟩
theorem RowsO.len {n : Nat} {W : World} {v : Value} {C : List (List Value)} (h : RowsO n W v C) : C.length ≤ maxLen := by
  rcases h with ⟨_, h0⟩ | ⟨g, off, cap, _, h1, h2, _⟩
  · rw [h0]; exact Nat.zero_le _
  · omega
theorem RowsO.at {n : Nat} {W : World} {v : Value} {C : List (List Value)} (h : RowsO n W v C) {k : Nat} {x : List Value} (hx : C[k]? = some x) :
    ∃ g off cap, v = .slice (some ⟨g, off, none⟩) C.length cap ∧ g < W.heap.size ∧ ∀ (j : Nat) y, x[j]? = some y → W.cell? ⟨g, off + k * n + j, none⟩ = some y := by
  rcases h with ⟨_, h0⟩ | ⟨g, off, cap, h, _, _, hg, hc⟩
  · rw [h0] at hx; cases hx
  · exact ⟨g, off, cap, h, hg, hc k x hx⟩

theorem cell_kept {W W' : World} (hb : Below W.heap.size W W') {a : Addr} {v : Value} (h : W.cell? a = some v) : W'.cell? a = some v := (hb.cell (World.block_lt_of_cell? W a h)).trans h
theorem own_sliceN {W : World} {base size n : Nat} {t : TypeId} {v : Value} {xs : List Value} (h : W.ownsRow base t size v n xs) : ∃ a c, v = .slice a n c := by
  rcases h.2 with ⟨h1, h2⟩ | ⟨g, cap, cur, h1, _⟩
  · exact ⟨_, _, by rw [h2]; exact h1⟩
  · exact ⟨_, _, h1⟩
theorem own_mono {W W' : World} {base size n : Nat} {e : TypeId} {v : Value} {xs : List Value} (h : W.ownsRow base e size v n xs) {B : Nat} (hb : Below B W W') (hB : ∀ g, v.ownBlock = some g → g < B) : W'.ownsRow base e size v n xs := by
  refine ⟨h.1, ?_⟩
  rcases h.2 with h1 | ⟨g, cap, cur, rfl, h2, h3, h4⟩
  · exact .inl h1
  · exact .inr ⟨g, cap, cur, rfl, h2, (hb.block g (hB g rfl)).trans h3, h4⟩
theorem own_lt {W : World} {base size n : Nat} {e : TypeId} {v : Value} {xs : List Value} (h : W.ownsRow base e size v n xs) : ∀ g, v.ownBlock = some g → g < W.heap.size := by
  rcases h.2 with ⟨rfl, _⟩ | ⟨g, cap, cur, rfl, h2, h3, h4⟩
  · intro g hg; cases hg
  · intro g' hg; cases hg; exact (Array.getElem?_eq_some_iff.1 h3).1
theorem own_keep {B : Nat} {e : TypeId} {k : Nat} {v : Value} {n : Nat} {xs : List Value} {w w' : World} (h : w.ownsRow B e k v n xs) (hb : Below w.heap.size w w') : w'.ownsRow B e k v n xs := own_mono h hb (own_lt h)
/-- a row of one's own reads as what it holds -/
theorem own_rows {W : World} {base : Nat} {e : TypeId} {v : Value} {C : List Value} (h : W.ownsRow base e 1 v C.length C) : RowsO 1 W v (C.map fun x => [x]) := by
  rcases h.2 with ⟨h1, h2⟩ | ⟨g, cap, cur, h1, h2, h3, h4, h5, h6, h7⟩
  · exact .inl ⟨.inl h1, by rw [List.length_eq_zero_iff.1 h2]; rfl⟩
  · refine .inr ⟨g, 0, cap, by rw [List.length_map]; exact h1, by rw [List.length_map]; exact h4, h5, (Array.getElem?_eq_some_iff.1 h3).1, fun k x hx j y hy => ?_⟩
    rw [List.getElem?_map] at hx
    obtain ⟨z, hz, rfl⟩ := Option.map_eq_some_iff.1 hx
    have hj : j = 0 := by
      rcases j with _ | j
      · rfl
      · cases hy
    subst hj
    cases hy
    have hk : k < C.length := (List.getElem?_eq_some_iff.1 hz).1
    have hc := (show W.ownsRow base e 1 (.slice (some ⟨g, 0, none⟩) C.length cap) C.length C from h1 ▸ h).cellAt k (by omega)
    rw [show 0 + k * 1 + 0 = k by omega, hc, hz]

def nuC (b : Int) : List Value := [.int .i64 b]
def NusO (W : World) (v : Value) (L : List Int) : Prop := RowsO 1 W v (L.map nuC)
theorem NusO.keep {W W' : World} {v : Value} {L : List Int} (h : NusO W v L) (hb : Below W.heap.size W W') : NusO W' v L := RowsO.keep h hb
theorem NusO.slice {W : World} {v : Value} {L : List Int} (h : NusO W v L) : ∃ a c, v = .slice a L.length c := by
  obtain ⟨a, c, e⟩ := RowsO.slice h; exact ⟨a, c, by rw [e, List.length_map]⟩
theorem NusO.len {W : World} {v : Value} {L : List Int} (h : NusO W v L) : L.length ≤ maxLen := by have := RowsO.len h; rwa [List.length_map] at this
theorem NusO.at {W : World} {v : Value} {L : List Int} (h : NusO W v L) {k : Nat} (hk : k < L.length) : ∃ g off cap x, L[k]? = some x ∧ v = .slice (some ⟨g, off, none⟩) L.length cap ∧ g < W.heap.size ∧
    W.cell? ⟨g, off + k, none⟩ = some (.int .i64 x) := by
  obtain ⟨s, hs⟩ : ∃ s, L[k]? = some s := ⟨_, List.getElem?_eq_getElem hk⟩
  obtain ⟨g, off, cap, e, hg, hc⟩ := RowsO.at h (k := k) (x := nuC s) (by rw [List.getElem?_map, hs]; rfl)
  exact ⟨g, off, cap, s, hs, by rw [e, List.length_map], hg, by have := hc 0 _ rfl; rwa [Nat.mul_one, Nat.add_zero] at this⟩
theorem NusO.nil (W : World) : NusO W (.slice none 0 0) [] := .inl ⟨.inl rfl, rfl⟩
theorem nus_of_own {W : World} {base : Nat} {e : TypeId} {v : Value} {n : Nat} {D : List Int} (hn : n = D.length) (h : W.ownsRow base e 1 v n (D.map fun x => Value.int .i64 x)) : NusO W v D := by
  subst hn
  have := own_rows (C := D.map fun x => Value.int .i64 x) (by rw [List.length_map]; exact h)
  rw [List.map_map] at this
  exact this
abbrev BA := ByteArray
def StrO (W : World) (v : Value) (D : List BA) : Prop := RowsO 1 W v (D.map fun s => [Value.string s])
theorem StrO.keep {W W' : World} {v : Value} {D : List BA} (h : StrO W v D) (hb : Below W.heap.size W W') : StrO W' v D := RowsO.keep h hb
theorem StrO.slice {W : World} {v : Value} {D : List BA} (h : StrO W v D) : ∃ a c, v = .slice a D.length c := by
  obtain ⟨a, c, e⟩ := RowsO.slice h; exact ⟨a, c, by rw [e, List.length_map]⟩
theorem StrO.at {W : World} {v : Value} {D : List BA} (h : StrO W v D) {k : Nat} (hk : k < D.length) : ∃ g off cap x, D[k]? = some x ∧ v = .slice (some ⟨g, off, none⟩) D.length cap ∧ g < W.heap.size ∧ W.cell? ⟨g, off + k, none⟩ = some (.string x) := by
  obtain ⟨s, hs⟩ : ∃ s, D[k]? = some s := ⟨_, List.getElem?_eq_getElem hk⟩
  obtain ⟨g, off, cap, e, hg, hc⟩ := RowsO.at h (k := k) (x := [Value.string s]) (by rw [List.getElem?_map, hs]; rfl)
  have := hc 0 _ rfl
  rw [Nat.mul_one] at this
  exact ⟨g, off, cap, s, hs, by rw [e, List.length_map], hg, this⟩
theorem str_of_own {W : World} {base : Nat} {v : Value} {D : List BA} (h : W.ownsRow base 9 1 v D.length (D.map Value.string)) : StrO W v D := by
  rcases h.2 with ⟨h1, h2⟩ | ⟨g, cap, cur, h1, h2, h3, h4, h5, h6, h7⟩
  · exact .inl ⟨.inl h1, by rw [List.length_eq_zero_iff.1 h2]; rfl⟩
  · refine .inr ⟨g, 0, cap, by rw [List.length_map]; exact h1, by rw [List.length_map]; exact h4, h5, (Array.getElem?_eq_some_iff.1 h3).1, fun k x hx j y hy => ?_⟩
    rw [List.getElem?_map] at hx
    cases hs : D[k]? with
    | none => rw [hs] at hx; cases hx
    | some s =>
      rw [hs] at hx
      simp only [Option.map_some, Option.some.injEq] at hx
      subst hx
      match j, hy with
      | 0, hy =>
        simp only [List.getElem?_cons_zero, Option.some.injEq] at hy
        subst hy
        have hk : k < D.length := (List.getElem?_eq_some_iff.1 hs).1
        rw [Lib.cell_of_heap h3, show 0 + k * 1 + 0 = k by omega]
        have : (cur.toList.take (D.length * 1))[k]? = some (Value.string s) := by rw [h7, List.getElem?_map, hs]; rfl
        rw [List.getElem?_take, if_pos (by omega)] at this
        simpa using this
      | _ + 1, hy => simp at hy
/-- the names of the symbols that are defined elsewhere -/def byC (b : Int) : List Value := [.int .u8 b]
def BysO (W : World) (v : Value) (L : List Int) : Prop := RowsO 1 W v (L.map byC)
theorem BysO.keep {W W' : World} {v : Value} {L : List Int} (h : BysO W v L) (hb : Below W.heap.size W W') : BysO W' v L := RowsO.keep h hb
theorem BysO.slice {W : World} {v : Value} {L : List Int} (h : BysO W v L) : ∃ a c, v = .slice a L.length c := by
  obtain ⟨a, c, e⟩ := RowsO.slice h; exact ⟨a, c, by rw [e, List.length_map]⟩
theorem BysO.len {W : World} {v : Value} {L : List Int} (h : BysO W v L) : L.length ≤ maxLen := by have := RowsO.len h; rwa [List.length_map] at this
theorem BysO.at {W : World} {v : Value} {L : List Int} (h : BysO W v L) {k : Nat} (hk : k < L.length) : ∃ g off cap x, L[k]? = some x ∧ v = .slice (some ⟨g, off, none⟩) L.length cap ∧ g < W.heap.size ∧
    W.cell? ⟨g, off + k, none⟩ = some (.int .u8 x) := by
  obtain ⟨s, hs⟩ : ∃ s, L[k]? = some s := ⟨_, List.getElem?_eq_getElem hk⟩
  obtain ⟨g, off, cap, e, hg, hc⟩ := RowsO.at h (k := k) (x := byC s) (by rw [List.getElem?_map, hs]; rfl)
  exact ⟨g, off, cap, s, hs, by rw [e, List.length_map], hg, by have := hc 0 _ rfl; rwa [Nat.mul_one, Nat.add_zero] at this⟩
theorem infoInt : (Try.prog.info? 3).map (fun i => (i.zero, i.size, i.bytes)) = some (some (.int .i64 0), 1, 8) := by kernel_rfl
theorem not_beq {a b : Int} (h : ¬ a = b) : (a == b) = false := by simp [h]
theorem drop_cons {α : Type} {L : List α} {k : Nat} {x : α} (h : L[k]? = some x) : L.drop k = x :: L.drop (k + 1) := by
  obtain ⟨hk, e⟩ := List.getElem?_eq_some_iff.1 h
  rw [List.drop_eq_getElem_cons hk, e]
end Go.Proofs.Ytbheeahdbimeiaa
