/-
  A range over a function whose body never leaves the loop, where the function ranged over may itself range over another function: a contract for the iterator, and the law for its caller. Of no program.
-/
import Derived.RangeFuncNested
import Derived.RangeFuncBound
import Derived.RangeFuncCalls
import Derived.RangeFuncLeaves
namespace Go.Proofs.YtfpaambihjijoaaDoor
open Go.RowKit

/-- what a round that goes on owes: nothing but cells has turned, and what Fr asks -/
def Stays {α : Type} (Fr : World → World → Prop) (I : List α → World → Prop) (xs : List α) (W : World) : Exit → Act → World → Prop
  | .normal, _, W' => KeepsOthers W W' ∧ Fr W W' ∧ I xs W'
  | _, _, _ => False

/-- THE CONTRACT: the iterator g tells xs, one after the other, to whatever rounds go on, and returns -/
def Tells {α : Type} (Fr : World → World → Prop) (n : Nat) (P : Program) (g : Nat) (lb : Array Value) (encs : α → Array Value) (S : List α → Prop) (N : Nat) (w : World) : Prop :=
  ∀ (l : Nat) (J : List α → World → Prop) (W : World), Below w.heap.size w W → OwnFrom W.heap.size J →
    (∀ m pre x W1, J pre W1 → pre.length < N → YieldAt Fence.wide m P l (encs x) W1 fun e W' => e = .returned (.bool true) ∧ J (pre ++ [x]) W' ∧ KeepsOthers W1 W' ∧ Fr W1 W') →
    J [] W →
    CallsIn Fence.wide n P g (#[.func (.yield l) #[] #[]] ++ lb) W fun e W' => (∃ v, e = .returned v) ∧ ∃ xs, S xs ∧ J xs W'

theorem Tells.of_stops {α : Type} {Fr : World → World → Prop} {n : Nat} {P : Program} {g : Nat} {lb : Array Value} {encs : α → Array Value} {S Sp : List α → Prop} {N : Nat} {w : World}
    (h : SeqStopsK Fence.wide n P g lb encs Fr S Sp N w) : Tells Fr n P g lb encs S N w := fun l J W hW hJ hY h0 => by
  refine (h l J (fun _ _ => False) W hW (fun s A B row hs hg hr => hJ s A B row hs hg (fun r e => ?_)) (fun _ _ _ _ hs _ _ => hs) (fun pre x W1 hs hlen => ?_) h0).mono ?_
  · obtain ⟨hB, o, ho, hw⟩ := hr r e
    exact ⟨hB, o, ho, Obj.not_cells_of_walk hw⟩
  · exact (hY (n - 1) pre x W1 hs hlen).mono fun e W' hh => .inl ⟨hh.1, hh.2.1, hh.2.2.2⟩
  · rintro e W' ⟨hv, hd | ⟨_, _, hf⟩⟩
    · exact ⟨hv, hd⟩
    · exact hf.elim

/-- a loop's record that is turned and turned back -/
theorem keeps_back {W W3 : World} {l : Nat} {r r' : Loop} (hl : W.heap[l]? = some (.loop r)) (hk : KeepsOthers (W.putObj l (.loop r')) W3) : KeepsOthers W (W3.putObj l (.loop r)) := by
  have hlt : l < W.heap.size := (Array.getElem?_eq_some_iff.1 hl).1
  have hs := hk.size
  rw [World.putObj_size] at hs
  refine ⟨by rw [World.putObj_size]; exact hs, fun k o hko ho => ?_⟩
  by_cases e : k = l
  · subst e
    rw [hl] at hko
    rw [← hko]
    exact World.putObj_heap_same (by omega)
  · rw [World.putObj_heap_other e]
    exact hk.same k o (by rw [World.putObj_heap_other e]; exact hko) ho

/-- THE LAW -/
theorem range_tells {α : Type} {P : Program} {g : Operand} {ps : Array Tmp} {assign body : Code} {Q : Exit → Act → World → Prop} {a : Act} {w : World} {n : Nat} {Fr : World → World → Prop} (hFt : ∀ {A B C : World}, Fr A B → Fr B C → Fr A C)
    (hFb : ∀ (W : World) (l : Nat) (o o' : Obj), w.heap.size ≤ l → W.heap[l]? = some o → o.isCells = false → o'.isCells = false → Fr W (W.putObj l o'))
    {gf : Nat} {lb : Array Value} (hg : a.eval g = .func (.func gf) #[] lb) (eg : ∀ args w, (callFunc gf args).run P w = .ok (.enter gf args) w)
    {encs : α → Array Value} {S : List α → Prop} {N : Nat} {w0 : World} (hseq : Tells Fr (n - 1) P gf lb encs S N w0) (hb0 : Below w0.heap.size w0 w) (hps : ∀ x, (encs x).size = ps.size)
    (I : List α → World → Prop) (hI : OwnFrom w.heap.size I) (h0 : I [] w) (a₁ : α → Act)
    (hassign : ∀ (m l : Nat) (x : α) (W : World) (K : Act → World → Prop), K (a₁ x) W →
      assign.wpIn (Fence.wide.inRound l) m P (Exit.then K (fun _ _ _ => False)) { tmps := (ps.zip (encs x)).foldl (fun t (p, v) => t.setIfInBounds p v) a.tmps, defers := [] } W)
    (hbody : ∀ (m l : Nat) (pre : List α) (x : α) (W : World), w.heap.size < l → I pre W → pre.length < N → body.wpIn (Fence.wide.inRound l) m P (Stays Fr I (pre ++ [x]) W) (a₁ x) W)
    (hdone : ∀ (D : Nat) (xs : List α) (W : World), w.heap.size ≤ D → S xs → I xs W → W.heap[D]? = some (.deferred (some [])) → Q .normal { a with defers := { target := .collected D, args := #[] } :: a.defers } W) :
    (Code.rangeFunc g ps assign body).wpIn Fence.wide n P Q a w := by
  refine wpIn_rangeFunc fun fn hfn => ?_
  let ready : Loop := { state := .ready, pending := none, fn, tmps := a.tmps, params := ps, assign, body, defers := w.heap.size }
  let W1 : World := (w.alloc (.deferred (some []))).alloc (.loop ready)
  have z1 : W1.heap.size = w.heap.size + 2 := by simp [W1]
  have hL : W1.heap[w.heap.size + 1]? = some (.loop ready) := by
    have := World.alloc_heap_new (w.alloc (.deferred (some []))) (.loop ready)
    rw [World.size_alloc] at this; exact this
  have hD : W1.heap[w.heap.size]? = some (.deferred (some [])) := (Below.heap_alloc _ _ _ (by simp)).trans (World.alloc_heap_new w _)
  have hb1 : Below w0.heap.size w0 W1 := hb0.trans ((((Below.refl _ w).alloc (Nat.le_refl _) _).alloc (by simp) _).mono hb0.size)
  refine ⟨w.heap.size + 1, [{ target := .collected w.heap.size, args := #[] }], W1, { target := .fn (.func gf) lb, args := #[.func (.yield (w.heap.size + 1)) #[] #[]] }, W1, gf,
    #[.func (.yield (w.heap.size + 1)) #[] #[]] ++ lb, W1, run_enterLoop_outer _ _ _ _ _, ?_, fun _ _ => trivial, by simp [invoke, go_sem, eg], fun h => absurd h (by decide), ?_⟩
  · simp only [resolve, hg]
    simp [go_sem]
  · refine (hseq (w.heap.size + 1) (fun pre W => I pre W ∧ W.heap[w.heap.size + 1]? = some (.loop ready) ∧ W.heap[w.heap.size]? = some (.deferred (some []))) W1 hb1 ?_ ?_ ⟨hI.alloc _ (hI.alloc _ h0), hL, hD⟩).mono ?_
    · intro s A B row ⟨hi, hl, hd⟩ hgr hr
      have far : ∀ k, k < W1.heap.size → some k ≠ row := fun k hk e => by
        have := (hr k e.symm).1
        omega
      refine ⟨hI s A B row hi hgr (fun r e => ⟨by have := (hr r e).1; omega, (hr r e).2⟩), ?_, ?_⟩
      · exact (hgr.block _ (Array.getElem?_eq_some_iff.1 hl).1 (far _ (by omega))).trans hl
      · exact (hgr.block _ (Array.getElem?_eq_some_iff.1 hd).1 (far _ (by omega))).trans hd
    · intro m pre x W ⟨hi, hl, hd⟩ hlen
      have hlt : w.heap.size + 1 < W.heap.size := (Array.getElem?_eq_some_iff.1 hl).1
      refine ⟨fn, _, assign, body, run_yield (args := encs x) hl (hps x), roundIn_of_wpIn hfn (hassign m _ x W _ ⟨_, run_beginRound hl rfl, ?_⟩)⟩
      have hl2 : (W.putObj (w.heap.size + 1) (.loop { ready with state := .busy })).heap[w.heap.size + 1]? = some (.loop { ready with state := .busy }) := World.putObj_heap_same hlt
      have hd2 : (W.putObj (w.heap.size + 1) (.loop { ready with state := .busy })).heap[w.heap.size]? = some (.deferred (some [])) := (World.putObj_heap_other (by omega)).trans hd
      have hbz : Fr W (W.putObj (w.heap.size + 1) (.loop { ready with state := .busy })) := hFb W _ _ _ (by omega) hl rfl rfl
      refine wpIn_mono (hbody m _ pre x _ (by omega) (hI.putObj _ hi (by omega) hl rfl) hlen) ?_
      intro e a3 W3 hp
      cases e with
      | normal =>
        obtain ⟨hk, hb3, hi3⟩ := hp
        have hl3 := hk.same _ _ hl2 rfl
        refine ⟨_, _, run_endRound none hl3, rfl, ⟨hI.putObj _ hi3 (by omega) hl3 rfl, World.putObj_heap_same (Array.getElem?_eq_some_iff.1 hl3).1, (World.putObj_heap_other (by omega)).trans (hk.same _ _ hd2 rfl)⟩, keeps_back hl hk, ?_⟩
        exact hFt (hFt hbz hb3) (hFb W3 _ _ _ (by omega) hl3 rfl rfl)
      | _ => exact hp.elim
    · rintro e W2 ⟨⟨v, rfl⟩, xs, hS, hi, hl, hd⟩
      exact ⟨none, _, run_endLoop hl (by simp [ready]), hdone _ xs _ (Nat.le_refl _) hS (hI.putObj _ hi (by omega) hl rfl) ((World.putObj_heap_other (by omega)).trans hd)⟩

/-! ### a frame: one box that holds a slice, and the row that the slice owns -/
/-- the box's block, and the block to which the slice in the box leads -/
def Mine (Bl : Nat) (W : World) (b : Nat) : Prop := b = Bl ∨ ∃ a len cap, W.cell? ⟨Bl, 0, none⟩ = some (.slice (some a) len cap) ∧ a.block = b
/-- every cell that lay elsewhere is as it was; what becomes mine is new; the box stays -/
def Only (Bl : Nat) (W W' : World) : Prop :=
  W.heap.size ≤ W'.heap.size ∧ (∀ p : Addr, p.block < W.heap.size → ¬ Mine Bl W p.block → W'.cell? p = W.cell? p) ∧ (∀ b, b < W.heap.size → Mine Bl W' b → Mine Bl W b) ∧ ((∃ s, W.cell? ⟨Bl, 0, none⟩ = some s) → ∃ s, W'.cell? ⟨Bl, 0, none⟩ = some s)
theorem Only.refl (Bl : Nat) (W : World) : Only Bl W W := ⟨Nat.le_refl _, fun _ _ _ => rfl, fun _ _ h => h, fun h => h⟩
theorem Only.trans {Bl : Nat} {A B C : World} (h : Only Bl A B) (k : Only Bl B C) : Only Bl A C :=
  ⟨Nat.le_trans h.1 k.1, fun p hp hm => (k.2.1 p (Nat.lt_of_lt_of_le hp h.1) (fun g => hm (h.2.2.1 _ hp g))).trans (h.2.1 p hp hm), fun b hb hm => h.2.2.1 b hb (k.2.2.1 b (Nat.lt_of_lt_of_le hb h.1) hm), fun g => k.2.2.2 (h.2.2.2 g)⟩
theorem cell_put {W : World} {l : Nat} {o o' : Obj} (h : W.heap[l]? = some o) (ho : o.isCells = false) (ho' : o'.isCells = false) (p : Addr) : (W.putObj l o').cell? p = W.cell? p := by
  unfold World.cell?
  by_cases e : p.block = l
  · rw [e, World.putObj_heap_same (Array.getElem?_eq_some_iff.1 h).1, h]
    cases o <;> cases o' <;> simp_all [Obj.isCells]
  · rw [World.putObj_heap_other e]
theorem Only.put {Bl : Nat} {W : World} {l : Nat} {o o' : Obj} (h : W.heap[l]? = some o) (ho : o.isCells = false) (ho' : o'.isCells = false) : Only Bl W (W.putObj l o') :=
  ⟨by rw [World.putObj_size]; exact Nat.le_refl _, fun p _ _ => cell_put h ho ho' p, fun b _ hm => by
    rcases hm with rfl | ⟨a, len, cap, hc, e⟩
    · exact .inl rfl
    · rw [cell_put h ho ho'] at hc; exact .inr ⟨a, len, cap, hc, e⟩, fun ⟨s, hs⟩ => ⟨s, by rw [cell_put h ho ho']; exact hs⟩⟩
/-- what leaves all that lay there as it was -/
theorem Only.of_below {Bl : Nat} {W W' : World} (hB : Bl < W.heap.size) (hb : Below W.heap.size W W') : Only Bl W W' := by
  refine ⟨hb.size, fun p hp _ => hb.cell hp, fun b _ hm => ?_, fun ⟨s, hs⟩ => ⟨s, by rw [hb.cell (p := ⟨Bl, 0, none⟩) hB]; exact hs⟩⟩
  rcases hm with rfl | ⟨a, len, cap, hc, e⟩
  · exact .inl rfl
  · rw [hb.cell (p := ⟨Bl, 0, none⟩) hB] at hc; exact .inr ⟨a, len, cap, hc, e⟩
/-- block b is not mine -/
def Alone (Bl : Nat) (W : World) (b : Nat) : Prop := b < W.heap.size ∧ b ≠ Bl ∧ ∃ s, W.cell? ⟨Bl, 0, none⟩ = some s ∧ ∀ a len cap, s = .slice (some a) len cap → a.block ≠ b
theorem Alone.not {Bl : Nat} {W : World} {b : Nat} (h : Alone Bl W b) : ¬ Mine Bl W b := by
  obtain ⟨_, hne, s, hs, hf⟩ := h
  rintro (e | ⟨a, len, cap, hc, e⟩)
  · exact hne e
  · rw [hs] at hc; injection hc with hc; exact hf a len cap hc e
theorem Alone.only {Bl : Nat} {W W' : World} {b : Nat} (h : Alone Bl W b) (k : Only Bl W W') : Alone Bl W' b := by
  have hn := h.not
  obtain ⟨hlt, hne, s, hs, _⟩ := h
  obtain ⟨s', hs'⟩ := k.2.2.2 ⟨s, hs⟩
  refine ⟨Nat.lt_of_lt_of_le hlt k.1, hne, s', hs', fun a len cap e g => hn (k.2.2.1 b hlt (.inr ⟨a, len, cap, by rw [hs', e], g⟩))⟩
theorem Alone.cell {Bl : Nat} {W W' : World} {b o : Nat} (h : Alone Bl W b) (k : Only Bl W W') : W'.cell? ⟨b, o, none⟩ = W.cell? ⟨b, o, none⟩ := k.2.1 ⟨b, o, none⟩ h.1 h.not
theorem Alone.grown {Bl : Nat} {W W' : World} {b : Nat} {row : Option Nat} (h : Alone Bl W b) (hg : W.grownBy W' row) (hr : ∀ r, row = some r → ∃ o : Obj, W.heap[r]? = some o ∧ o.isCells = false) : Alone Bl W' b := by
  obtain ⟨hlt, hne, s, hs, hf⟩ := h
  exact ⟨Nat.lt_of_lt_of_le hlt hg.size, hne, s, cell_kept hs hg hr, hf⟩
theorem OwnFrom.more {β : Type} {B B' : Nat} {J : β → World → Prop} (h : OwnFrom B J) (hB : B ≤ B') : OwnFrom B' J := fun s A C row hs hg hr => h s A C row hs hg (fun r e => ⟨Nat.le_trans hB (hr r e).1, (hr r e).2⟩)
end Go.Proofs.YtfpaambihjijoaaDoor
