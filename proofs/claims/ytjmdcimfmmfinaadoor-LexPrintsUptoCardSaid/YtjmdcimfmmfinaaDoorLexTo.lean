/-
  A slice that came in reads as tokens, wherever it lies in its block; few: what each call returns. Conditions: none.
-/
import Derived.Test.YtjmdcimfmmfinaaDoorLexW
namespace Go.Proofs.YtjmdcimfmmfinaaDoor
open Go.RowKit Go.Shelf
set_option linter.unusedVariables false
attribute [local go_sem] Oper.semAt_some

/-- a slice reads as tokens, wherever it lies -/
def TokO (W : World) (v : Value) (T : List Tok) : Prop := ((v = .slice none 0 0 ∨ ∃ a c, v = .slice (some a) 0 c) ∧ T = []) ∨ ∃ g off cap, v = .slice (some ⟨g, off, none⟩) T.length cap ∧ T.length ≤ cap ∧ cap ≤ maxLen ∧ g < W.heap.size ∧
  ∀ (k : Nat) (x : Tok), T[k]? = some x → W.cell? ⟨g, off + k * 4, none⟩ = some (.int .i64 x.k) ∧ W.cell? ⟨g, off + k * 4 + 1, none⟩ = some (.string ⟨x.t.toArray⟩) ∧ W.cell? ⟨g, off + k * 4 + 2, none⟩ = some (.int .u64 (x.n : Int)) ∧ W.cell? ⟨g, off + k * 4 + 3, none⟩ = some (.int .i64 x.p)
theorem TokO.keep {W W' : World} {v : Value} {T : List Tok} (h : TokO W v T) (hb : Below W.heap.size W W') : TokO W' v T := by
  rcases h with h | ⟨g, off, cap, h1, hc, hcm, h2, h3⟩
  · exact .inl h
  · refine .inr ⟨g, off, cap, h1, hc, hcm, Nat.lt_of_lt_of_le h2 hb.size, fun k x hx => ?_⟩
    obtain ⟨a, b, c, d⟩ := h3 k x hx
    have k0 : ∀ j, W'.cell? ⟨g, j, none⟩ = W.cell? ⟨g, j, none⟩ := fun j => hb.cell (p := ⟨g, j, none⟩) h2
    exact ⟨(k0 _).trans a, (k0 _).trans b, (k0 _).trans c, (k0 _).trans d⟩
theorem toko_len {W : World} {v : Value} {T : List Tok} (h : TokO W v T) (V' : World) : Sem.run Tryd.prog (Builtin.len_ #[22] 3 #[v]) V' = .ok (.int .i64 (T.length : Int)) V' := by
  rcases h with ⟨h | ⟨a, c, h⟩, h0⟩ | ⟨g, off, cap, h, _⟩
  · rw [h0, h]; simp [Builtin.len_, go_sem]
  · rw [h0, h]; simp [Builtin.len_, go_sem]
  · rw [h]; simp [Builtin.len_, go_sem]
theorem toko_at {W : World} {v : Value} {T : List Tok} (h : TokO W v T) {k : Nat} (hk : k < T.length) : ∃ g off cap x, T[k]? = some x ∧ v = .slice (some ⟨g, off, none⟩) T.length cap ∧ W.cell? ⟨g, off + k * 4, none⟩ = some (.int .i64 x.k) ∧ W.cell? ⟨g, off + k * 4 + 1, none⟩ = some (.string ⟨x.t.toArray⟩) ∧ W.cell? ⟨g, off + k * 4 + 2, none⟩ = some (.int .u64 (x.n : Int)) ∧ W.cell? ⟨g, off + k * 4 + 3, none⟩ = some (.int .i64 x.p) := by
  rcases h with ⟨_, h0⟩ | ⟨g, off, cap, h, _, _, _, hc⟩
  · rw [h0] at hk; cases hk
  · obtain ⟨x, hx⟩ : ∃ x, T[k]? = some x := ⟨_, List.getElem?_eq_getElem hk⟩
    exact ⟨g, off, cap, x, hx, h, hc k x hx⟩
theorem toko_cells {W : World} {g off n cap : Nat} {T : List Tok} (h : ∀ (k : Nat) (x : Tok), T[k]? = some x → W.cell? ⟨g, off + k * 4, none⟩ = some (.int .i64 x.k) ∧ W.cell? ⟨g, off + k * 4 + 1, none⟩ = some (.string ⟨x.t.toArray⟩) ∧ W.cell? ⟨g, off + k * 4 + 2, none⟩ = some (.int .u64 (x.n : Int)) ∧ W.cell? ⟨g, off + k * 4 + 3, none⟩ = some (.int .i64 x.p)) : ∀ j u, (tokC T)[j]? = some u → W.cell? ⟨g, off + j, none⟩ = some u := by
  intro j u hu
  have hj : j < T.length * 4 := by
    rcases Nat.lt_or_ge j (T.length * 4) with h | h
    · exact h
    · rw [List.getElem?_eq_none (by rw [tokC_length]; exact h)] at hu; cases hu
  have hk : j / 4 < T.length := by omega
  obtain ⟨x, hx⟩ : ∃ x, T[j / 4]? = some x := ⟨_, List.getElem?_eq_getElem hk⟩
  obtain ⟨a, b, c, d⟩ := h _ _ hx
  obtain ⟨a', b', c', d'⟩ := tokC_at T _ _ hx
  have key : j = j / 4 * 4 ∨ j = j / 4 * 4 + 1 ∨ j = j / 4 * 4 + 2 ∨ j = j / 4 * 4 + 3 := by omega
  rcases key with k | k | k | k
  · rw [k] at hu ⊢; rw [a'] at hu; cases hu; exact a
  · rw [k] at hu ⊢; rw [b'] at hu; cases hu; exact b
  · rw [k] at hu ⊢; rw [c'] at hu; cases hu; exact c
  · rw [k] at hu ⊢; rw [d'] at hu; cases hu; exact d
theorem somea_eq (a : Addr) (n cap : Nat) (w : World) : (binOp BinOp.eql 22 (Value.slice (some a) n cap) (Value.slice none 0 0)).run Tryd.prog w = .ok (.bool false) w := by kernel_rfl
set_option maxRecDepth 100000 in
set_option maxHeartbeats 2000000 in
theorem clone_toko (v : Value) (T : List Tok) (w : World) (h : TokO w v T) (hl : T.length ≤ 1000000) :
    Calls Tryd.prog 53 #[v] w fun e w' => (∃ v', e = .returned v' ∧ w'.ownsRow w.heap.size 30 4 v' T.length (tokC T)) ∧ Below w.heap.size w w' := by
  obtain ⟨i0, hi, hz0', hz1, hz2⟩ := info_parts infoTok
  have main : ∀ (ad : Addr) (cap : Nat), v = .slice (some ad) T.length cap → (∀ (V : World), Below w.heap.size w V → ∀ j u, (tokC T)[j]? = some u → V.cell? (ad.add j) = some u) →
      Calls Tryd.prog 53 #[v] w fun e w' => (∃ v', e = .returned v' ∧ w'.ownsRow w.heap.size 30 4 v' T.length (tokC T)) ∧ Below w.heap.size w w' := by
    intro ad cap hv hC
    subst hv
    have C2 := Lib.hid hC
    have HL4 := Lib.hid (tokC_length T)
    have HO1 := Lib.hid (tokC_one T)
    have NE := somea_eq ad T.length cap
    clear hC h
    go_enter Tryd.func53, Tryd.ntmps53
    go_wp2_with (at_builtin; refine wpList_append_own _ rfl _ _ 22 rfl w.heap.size 30 i0 (.agg #[.int .i64 0, .string ⟨#[]⟩, .int .u64 0, .int .i64 0]) 4 40 Tryd.underlying22 hi hz0' hz1 hz2 rfl (by decide) _ _ _ rfl (own_empty w _ _ rfl) ad T.length cap (tokC T) rfl HL4.out (C2.out _ (below1 w _)) HO1.out (by unfold maxLen; omega) (by omega) (by simp) ?_; intro v' w1 hown' hgrow _; rw [Nat.zero_add, List.nil_append] at hown')
    have hB : Below w.heap.size w w1 := (below1 w _).grown hgrow (by simp) (fun k hk => by cases hk; exact Nat.le_refl _)
    go_wp2_with fail
    go_ret
    exact ⟨⟨_, rfl, hown'⟩, hB⟩
  rcases h with ⟨rfl | ⟨a, c, rfl⟩, rfl⟩ | ⟨g, off, cap, rfl, _, _, hg, hc⟩
  · exact clone_toks _ _ w (.inl ⟨rfl, rfl⟩) (by simp)
  · exact main a c rfl (fun V _ j u hu => by cases hu)
  · refine main ⟨g, off, none⟩ cap rfl (fun V hb j u hu => ?_)
    rw [Go.WideShapes.add_plain]
    exact (hb.cell (p := ⟨g, off + j, none⟩) hg).trans (toko_cells (n := 0) (cap := 0) hc j u hu)
set_option maxRecDepth 100000 in
set_option maxHeartbeats 2000000 in
theorem plain_toko (v : Value) (T : List Tok) (w : World) (h : TokO w v T) (hl : T.length ≤ 1000000) :
    Calls Tryd.prog 29 #[v] w fun e w' => (∃ v', e = .returned v' ∧ TokS w' v' (T.map plainT)) ∧ Below w.heap.size w w' := by
  have CL := Lib.hid (clone_toko v T w h hl)
  clear h
  go_enter Tryd.func29, Tryd.ntmps29
  go_wp2_with fail
  refine CL.out.mono ?_
  rintro e w1 ⟨⟨v', rfl, hown⟩, hb⟩
  obtain ⟨vb, vc, rfl⟩ := own_sliceN hown
  have HB := Lib.hid hb
  have HZ : w.heap.size ≤ w1.heap.size := hb.size
  clear hb CL
  go_wp2_with fail
  go_loopw [9] (fun iv wr => ∃ k : Nat, k ≤ T.length ∧ iv = .int .i64 (k : Int) ∧ wr.ownsRow w.heap.size 30 4 (.slice vb T.length vc) T.length (tokC (plainK T k)) ∧ Below w.heap.size w wr) (fun iv _ => T.length - (intOf iv).toNat)
  case atStart => exact ⟨0, Nat.zero_le _, rfl, by rw [plainK_zero]; exact hown, HB.out⟩
  case round =>
    obtain ⟨k, hk, rfl, hrow, hbr⟩ := hrel
    by_cases hlt : (k : Int) < (T.length : Int)
    · have hlt' : k < T.length := by omega
      have hw1 : IntKind.i64.wrap ((k : Int) + 1) = ((k + 1 : Nat) : Int) := by rw [IntWalk.i64_in _ (by omega)]; omega
      have hvb : ∃ g, vb = some ⟨g, 0, none⟩ := by
        rcases hrow.2 with ⟨h1, h2⟩ | ⟨g, cap, cur, h1, _⟩
        · omega
        · cases h1; exact ⟨g, rfl⟩
      obtain ⟨g, rfl⟩ := hvb
      have hg := hrow.lt g rfl
      have hf := hrow.frozenAt (k * 4 + 3)
      have hst := hrow.stored (k * 4 + 3) (.int .i64 0)
      rw [plainK_set hlt'] at hst
      have hc : ∃ u, wr.cell? ⟨g, k * 4 + 3, none⟩ = some u := by
        rw [hrow.cellAt _ (by omega)]
        exact ⟨_, List.getElem?_eq_getElem (by rw [tokC_length, plainK_len]; omega)⟩
      obtain ⟨u, hu⟩ := hc
      have HST := Lib.hid hst.1
      have HBR := Lib.hid hbr
      clear hst hrow hbr hown
      go_wp2_with fail
      go_roundw
      case rel => exact ⟨k + 1, by omega, by first | rfl | rw [← hw1], HST.out, HBR.out.setCell hg.1 _⟩
      case measure => simp [intOf]; omega
    · have hkl : k = T.length := by omega
      subst hkl
      rw [plainK_all] at hrow
      go_wp2_with fail
      go_ret
      refine ⟨⟨_, rfl, ?_⟩, hbr⟩
      have hrow' : wr.ownsRow w.heap.size 30 4 (.slice vb T.length vc) (T.map plainT).length (tokC (T.map plainT)) := by rw [List.length_map]; exact hrow
      exact toks_of_own hrow'
set_option maxRecDepth 100000 in
set_option maxHeartbeats 2000000 in
theorem few_any (v : Value) (T : List Tok) (w : World) (h : TokO w v T) :
    Calls Tryd.prog 26 #[v] w fun e w' => (∃ v', e = .returned v' ∧ TokO w v' (T.take 700)) ∧ w = w' := by
  rcases h with ⟨rfl | ⟨a, c, rfl⟩, rfl⟩ | ⟨g, off, cap, rfl, hc0, hcm, hg, hc⟩
  · go_enter Tryd.func26, Tryd.ntmps26
    go_wp2_with fail
    go_ret
    exact ⟨⟨_, rfl, .inl ⟨.inl rfl, rfl⟩⟩, rfl⟩
  · have hc0 : (0 : Int) ≤ (c : Int) := by omega
    go_enter Tryd.func26, Tryd.ntmps26
    go_wp2_with fail
    go_ret
    exact ⟨⟨_, rfl, .inl ⟨.inr ⟨a, c, rfl⟩, rfl⟩⟩, rfl⟩
  · obtain ⟨n, hn⟩ : ∃ n, T.length = n := ⟨_, rfl⟩
    obtain ⟨m, hm⟩ : ∃ m, min n 700 = m := ⟨_, rfl⟩
    have hmn : min (n : Int) 700 = (m : Int) := by omega
    have hmc : (m : Int) ≤ (cap : Int) := by omega
    have hm0 : (0 : Int) ≤ (m : Int) := by omega
    have hml : (T.take 700).length = m := by rw [List.length_take, hn, Nat.min_comm]; exact hm
    have HR := Lib.hid (show TokO w (.slice (some ⟨g, off, none⟩) m cap) (T.take 700) from .inr ⟨g, off, cap, by rw [hml], by omega, hcm, hg, fun k x hx => hc k x (by
      rw [List.getElem?_take] at hx
      split at hx
      · exact hx
      · cases hx)⟩)
    rw [hn]
    unfold maxLen at hcm
    clear hc hm hml hn hc0
    go_enter Tryd.func26, Tryd.ntmps26
    go_wp2_with fail
    go_ret
    exact ⟨⟨_, rfl, HR.out⟩, rfl⟩
end Go.Proofs.YtjmdcimfmmfinaaDoor
