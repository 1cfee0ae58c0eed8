/-
  slices.Clone at tokens, plain: what each call returns. Conditions: the sizes that each lemma states.
-/
import Derived.Test.YtjmdcimfmmfinaaDoorLexT
import Derived.Test.YtjmdcimfmmfinaaDoorLexJoin
namespace Go.Proofs.YtjmdcimfmmfinaaDoor
open Go.RowKit Go.Shelf
attribute [local go_sem] Oper.semAt_some

theorem tokC_length : ∀ T : List Tok, (tokC T).length = T.length * 4
  | [] => rfl
  | x :: T => by
    have := tokC_length T
    rw [List.length_cons, Nat.add_mul, ← this]; rfl
theorem tokC_one : ∀ (T : List Tok) (u : Value), u ∈ tokC T → u.oneCell' = true
  | [], u, h => by cases h
  | x :: T, u, h => by
    have e : tokC (x :: T) = [.int .i64 x.k, .string ⟨x.t.toArray⟩, .int .u64 (x.n : Int), .int .i64 x.p] ++ tokC T := rfl
    rw [e, List.mem_append] at h
    rcases h with h | h
    · simp only [List.mem_cons, List.not_mem_nil, or_false] at h
      rcases h with rfl | rfl | rfl | rfl <;> rfl
    · exact tokC_one T u h
theorem toks_cells {W : World} {g n cap : Nat} {T : List Tok} (h : TokS W (.slice (some ⟨g, 0, none⟩) n cap) T) : ∀ j u, (tokC T)[j]? = some u → W.cell? ((⟨g, 0, none⟩ : Addr).add j) = some u := by
  intro j u hu
  rcases h with ⟨h1, _⟩ | ⟨g', cap', h1, _, h3⟩
  · cases h1
  · cases h1
    have hj : j < T.length * 4 := by
      rcases Nat.lt_or_ge j (T.length * 4) with h | h
      · exact h
      · rw [List.getElem?_eq_none (by rw [tokC_length]; exact h)] at hu; cases hu
    have hk : j / 4 < T.length := by omega
    obtain ⟨x, hx⟩ : ∃ x, T[j / 4]? = some x := ⟨_, List.getElem?_eq_getElem hk⟩
    obtain ⟨a, b, c, d⟩ := h3 _ _ hx
    obtain ⟨a', b', c', d'⟩ := tokC_at T _ _ hx
    have e : (⟨g, 0, none⟩ : Addr).add j = ⟨g, j, none⟩ := by cases j <;> simp [Addr.add]
    rw [e]
    have key : j = j / 4 * 4 ∨ j = j / 4 * 4 + 1 ∨ j = j / 4 * 4 + 2 ∨ j = j / 4 * 4 + 3 := by omega
    rcases key with k | k | k | k
    · rw [k] at hu ⊢; rw [a'] at hu; cases hu; exact a
    · rw [k] at hu ⊢; rw [b'] at hu; cases hu; exact b
    · rw [k] at hu ⊢; rw [c'] at hu; cases hu; exact c
    · rw [k] at hu ⊢; rw [d'] at hu; cases hu; exact d

theorem own_empty (w : World) (e : TypeId) (c : Array Value) (hc : c.size = 0) : (w.alloc (.cells c e)).ownsRow w.heap.size e 4 (.slice (some ⟨w.heap.size, 0, none⟩) 0 0) 0 [] :=
  ⟨rfl, .inr ⟨w.heap.size, 0, c, rfl, Nat.le_refl _, heap_alloc_new w _, Nat.le_refl _, Nat.zero_le _, by omega, by simp⟩⟩
theorem nil_eq (w : World) : (binOp BinOp.eql 22 (Value.slice none 0 0) (Value.slice none 0 0)).run Tryd.prog w = .ok (.bool true) w := by kernel_rfl
theorem some_eq (g n cap : Nat) (w : World) : (binOp BinOp.eql 22 (Value.slice (some ⟨g, 0, none⟩) n cap) (Value.slice none 0 0)).run Tryd.prog w = .ok (.bool false) w := by kernel_rfl
set_option maxRecDepth 100000 in
set_option maxHeartbeats 2000000 in
theorem clone_toks (v : Value) (T : List Tok) (w : World) (h : TokS w v T) (hl : T.length ≤ 1000000) :
    Calls Tryd.prog 53 #[v] w fun e w' => (∃ v', e = .returned v' ∧ w'.ownsRow w.heap.size 30 4 v' T.length (tokC T)) ∧ Below w.heap.size w w' := by
  obtain ⟨i0, hi, hz0', hz1, hz2⟩ := info_parts infoTok
  rcases h with ⟨rfl, rfl⟩ | ⟨g, cap, rfl, hg, hc⟩
  · have NE := nil_eq
    go_enter Tryd.func53, Tryd.ntmps53
    go_wp2_with fail
    go_ret
    exact ⟨⟨_, rfl, World.ownsRow_nil _ _ _ _⟩, Below.refl _ _⟩
  · have HC := toks_cells (h := .inr ⟨g, cap, rfl, hg, hc⟩)
    have C2 := Lib.hid (fun (V : World) (hb : Below w.heap.size w V) => fun j u (hu : (tokC T)[j]? = some u) => (show V.cell? ((⟨g, 0, none⟩ : Addr).add j) = some u from by
      have e : (⟨g, 0, none⟩ : Addr).add j = ⟨g, j, none⟩ := by cases j <;> simp [Addr.add]
      have := HC j u hu
      rw [e] at this ⊢
      exact (hb.cell (p := ⟨g, j, none⟩) hg).trans this))
    have L4 := tokC_length T
    have O1 := tokC_one T
    have HL4 := Lib.hid L4
    have HO1 := Lib.hid O1
    have NE := some_eq g T.length cap
    clear hc HC L4 O1
    go_enter Tryd.func53, Tryd.ntmps53
    go_wp2_with (at_builtin; refine wpList_append_own _ rfl _ _ 22 rfl w.heap.size 30 i0 (.agg #[.int .i64 0, .string ⟨#[]⟩, .int .u64 0, .int .i64 0]) 4 40 Tryd.underlying22 hi hz0' hz1 hz2 rfl (by decide) _ _ _ rfl (own_empty w _ _ rfl) ⟨g, 0, none⟩ T.length cap (tokC T) rfl HL4.out (C2.out _ (below1 w _)) HO1.out (by unfold maxLen; omega) (by omega) (by simp) ?_; intro v' w1 hown' hgrow _; rw [Nat.zero_add, List.nil_append] at hown')
    have hB : Below w.heap.size w w1 := (below1 w _).grown hgrow (by simp) (fun k hk => by cases hk; exact Nat.le_refl _)
    go_wp2_with fail
    go_ret
    exact ⟨⟨_, rfl, hown'⟩, hB⟩

/-- the tokens whose places are struck up to the k-th -/
def plainK (T : List Tok) (k : Nat) : List Tok := (T.take k).map plainT ++ T.drop k
theorem plainK_len (T : List Tok) (k : Nat) : (plainK T k).length = T.length := by simp [plainK]; omega
theorem plainK_zero (T : List Tok) : plainK T 0 = T := by simp [plainK]
theorem plainK_all (T : List Tok) : plainK T T.length = T.map plainT := by simp [plainK]
theorem tokC_append : ∀ (A B : List Tok), tokC (A ++ B) = tokC A ++ tokC B
  | [], B => rfl
  | x :: A, B => by
    rw [List.cons_append]
    show _ :: _ :: _ :: _ :: tokC (A ++ B) = _
    rw [tokC_append A B]; rfl
theorem plainK_set {T : List Tok} {k : Nat} (hk : k < T.length) : (tokC (plainK T k)).set (k * 4 + 3) (.int .i64 0) = tokC (plainK T (k + 1)) := by
  obtain ⟨x, hx⟩ : ∃ x, T[k]? = some x := ⟨_, List.getElem?_eq_getElem hk⟩
  have hd : T.drop k = x :: T.drop (k + 1) := by rw [List.drop_eq_getElem_cons hk]; rw [List.getElem?_eq_getElem hk] at hx; cases hx; rfl
  have ht : T.take (k + 1) = T.take k ++ [x] := by rw [List.take_add_one, hx]; rfl
  have hl : (tokC ((T.take k).map plainT)).length = k * 4 := by rw [tokC_length]; simp; omega
  unfold plainK
  rw [hd, ht, tokC_append, List.map_append, List.append_assoc, tokC_append, List.set_append_right _ _ (by rw [hl]; omega), hl, show k * 4 + 3 - k * 4 = 3 by omega]
  rfl
set_option maxRecDepth 100000 in
set_option maxHeartbeats 2000000 in
theorem plain_any (v : Value) (T : List Tok) (w : World) (h : TokS w v T) (hl : T.length ≤ 1000000) :
    Calls Tryd.prog 29 #[v] w fun e w' => (∃ v', e = .returned v' ∧ TokS w' v' (T.map plainT)) ∧ Below w.heap.size w w' := by
  have CL := Lib.hid (fun (w : World) (h : TokS w v T) => clone_toks v T w h hl)
  have H := Lib.hid h
  clear h
  go_enter Tryd.func29, Tryd.ntmps29
  go_wp2_with fail
  refine (CL.out _ H.out).mono ?_
  rintro e w1 ⟨⟨v', rfl, hown⟩, hb⟩
  obtain ⟨vb, vc, rfl⟩ := own_sliceN hown
  have HB := Lib.hid hb
  have HZ : w.heap.size ≤ w1.heap.size := hb.size
  clear hb CL H
  go_wp2_with fail
  go_loopw [9] (fun iv wr => ∃ k : Nat, k ≤ T.length ∧ iv = .int .i64 (k : Int) ∧ wr.ownsRow w.heap.size 30 4 (.slice vb T.length vc) T.length (tokC (plainK T k)) ∧ Below w.heap.size w wr) (fun iv _ => T.length - (intOf iv).toNat)
  case atStart => exact ⟨0, Nat.zero_le _, rfl, by rw [plainK_zero]; exact hown, HB.out⟩
  case round =>
    obtain ⟨k, hk, rfl, hrow, hbr⟩ := hrel
    by_cases hlt : (k : Int) < (T.length : Int)
    · have hlt' : k < T.length := by omega
      have hw1 : IntKind.i64.wrap ((k : Int) + 1) = ((k + 1 : Nat) : Int) := by rw [IntWalk.i64_in _ (by omega)]; omega
      have hT0 : 0 < T.length := by omega
      obtain ⟨n, hn⟩ : ∃ n, T.length = n + 1 := ⟨T.length - 1, by omega⟩
      have hvb : ∃ g, vb = some ⟨g, 0, none⟩ := by
        rcases hrow.2 with ⟨h1, h2⟩ | ⟨g, cap, cur, h1, _⟩
        · omega
        · cases h1; exact ⟨g, rfl⟩
      obtain ⟨g, rfl⟩ := hvb
      have hg := hrow.lt g rfl
      have hf := hrow.frozenAt (k * 4 + 3)
      have hst := hrow.stored (k * 4 + 3) (.int .i64 0)
      rw [plainK_set hlt'] at hst
      have hc : ∃ u, wr.cell? ⟨g, k * 4 + 3, none⟩ = some u := by
        rw [hrow.cellAt _ (by omega)]
        exact ⟨_, List.getElem?_eq_getElem (by rw [tokC_length, plainK_len]; omega)⟩
      obtain ⟨u, hu⟩ := hc
      have HST := Lib.hid hst.1
      have HBR := Lib.hid hbr
      clear hst hrow hbr hown hn
      go_wp2_with fail
      go_roundw
      case rel => exact ⟨k + 1, by omega, by first | rfl | rw [← hw1], HST.out, HBR.out.setCell hg.1 _⟩
      case measure => simp [intOf]; omega
    · have hkl : k = T.length := by omega
      subst hkl
      rw [plainK_all] at hrow
      go_wp2_with fail
      go_ret
      refine ⟨⟨_, rfl, ?_⟩, hbr⟩
      have hrow' : wr.ownsRow w.heap.size 30 4 (.slice vb T.length vc) (T.map plainT).length (tokC (T.map plainT)) := by rw [List.length_map]; exact hrow
      have := toks_of_own hrow'
      exact this
end Go.Proofs.YtjmdcimfmmfinaaDoor
