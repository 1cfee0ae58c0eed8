/-
  The program's Syms: the iterator over symbols with a frame that lets a box above change; what Syms returns: an iterator over a row of the call's own. Conditions: what the start left in the variables, where the terms lie.
-/
import Derived.Test.YtdkflmpdelfgoaaDoorExprSymB
import Derived.Test.YtdkflmpdelfgoaaDoorExprNdW
import Derived.Test.YtdkflmpdelfgoaaDoorTellsS
namespace Go.Proofs.YtdkflmpdelfgoaaDoor
open Go.RowKit Go.Shelf
set_option linter.unusedVariables false
set_option linter.unusedSimpArgs false
attribute [local go_sem] Oper.semAt_some

/-- blocks below n stand, and so does block b -/
def FrB (n b : Nat) (A B : World) : Prop := Below n A B ∧ B.heap[b]? = A.heap[b]?
theorem FrB.refl (n b : Nat) (A : World) : FrB n b A A := ⟨Below.refl _ _, rfl⟩
theorem FrB.trans {n b : Nat} {A B C : World} (h : FrB n b A B) (k : FrB n b B C) : FrB n b A C := ⟨h.1.trans k.1, k.2.trans h.2⟩
set_option maxRecDepth 100000 in
set_option maxHeartbeats 8000000 in
theorem symbols_tells2 (T : List Tm) (g off cap bl n n₀ : Nat) (w : World) (hn : n₀ ≤ w.heap.size) (hg : g < n₀) (hs5 : ∀ x ∈ T, x.s.size ≤ 512) (hlen : T.length ≤ 281474976710656)
    (hbx : w.heap[bl]? = some (.cells #[.slice (some ⟨g, off, none⟩) T.length cap] 22 (0, 0))) (hT : ∀ (k : Nat) (x : Tm), T[k]? = some x → w.cell? ⟨g, off + k * 3, none⟩ = some (.int .i64 x.k) ∧ w.cell? ⟨g, off + k * 3 + 1, none⟩ = some (.int .i64 x.n) ∧ w.cell? ⟨g, off + k * 3 + 2, none⟩ = some (.string x.s)) :
    TellsX (FrB n₀ bl) n Tryd.prog 61 #[.pointer (some ⟨bl, 0, none⟩)] encS (fun x => x.size ≤ 512) (fun xs => xs = symsL T) (fun pre => pre <+: symsL T) (symsL T).length w := by
  intro l J Jx V hV hJ hJx hY h0
  have hbV : V.cell? ⟨bl, 0, none⟩ = some (.slice (some ⟨g, off, none⟩) T.length cap) := by
    rw [Lib.cell_of_heap ((hV.block bl (heap_lt hbx)).trans hbx)]; rfl
  have HD := Lib.hid (fun (W : World) (hW : Below n₀ V W) (k : Nat) (x : Tm) (hx : T[k]? = some x) => by
    have key : ∀ j, W.cell? ⟨g, j, none⟩ = w.cell? ⟨g, j, none⟩ := fun j => (hW.cell (p := ⟨g, j, none⟩) hg).trans (hV.cell (p := ⟨g, j, none⟩) (by show g < _; omega))
    obtain ⟨a, b, c⟩ := hT k x hx
    exact (show W.cell? ⟨g, off + k * 3, none⟩ = some (.int .i64 x.k) ∧ W.cell? ⟨g, off + k * 3 + 1, none⟩ = some (.int .i64 x.n) ∧ W.cell? ⟨g, off + k * 3 + 2, none⟩ = some (.string x.s) from ⟨(key _).trans a, (key _).trans b, (key _).trans c⟩))
  have hnV : n₀ ≤ V.heap.size := Nat.le_trans hn hV.size
  have hbV2 : bl < V.heap.size := Nat.lt_of_lt_of_le (heap_lt hbx) hV.size
  have YH := Lib.hid hY
  have HS5 := Lib.hid hs5
  clear hs5 hY hT hbx
  refine callsIn_of_wp Tryd.func61 rfl trivial ?_ rfl
  simp only [Tryd.ntmps61, List.size_toArray, List.length_cons, List.length_nil, Nat.reduceAdd, Nat.reduceSub, Array.replicate_succ, Array.replicate_zero, List.push_toArray, List.append_toArray, List.nil_append, List.cons_append]
  gi_wp2_with fail
  gi_loopw [7] (fun v wr => ∃ k : Nat, k ≤ T.length ∧ v = .int .i64 (k : Int) ∧ J (symsL (T.take k)) wr ∧ FrB n₀ bl V wr)
    (fun v _ => T.length + 1 - (intOf v).toNat)
  case atStart => exact ⟨0, Nat.zero_le _, rfl, h0, FrB.refl _ _ _⟩
  case round =>
    obtain ⟨k, hk, rfl, hJs, hBr⟩ := hrel
    by_cases hlt' : k < T.length
    · have hlt : (k : Int) < (T.length : Int) := by omega
      have hk0 : (0 : Int) ≤ (k : Int) := by omega
      obtain ⟨x, hx⟩ : ∃ x, T[k]? = some x := ⟨_, List.getElem?_eq_getElem hlt'⟩
      obtain ⟨x1, x2, x3⟩ := HD.out wr hBr.1 k x hx
      have w9 : IntKind.i64.wrap ((k : Int) + 1) = ((k + 1 : Nat) : Int) := by rw [IntWalk.i64_in _ (by omega)]; omega
      have hSY := symsL_snoc (T.take k) x
      rw [show T.take k ++ [x] = T.take (k + 1) by rw [List.take_add_one, hx]; rfl] at hSY
      have HSY := Lib.hid hSY
      have hlenk := symsL_len_take T (k + 1)
      have HPR := Lib.hid (symsL_pre T (k + 1))
      obtain ⟨xk, xn, xs⟩ := x
      simp only at x1 x2 x3 HSY
      have hB1 : FrB n₀ bl wr (wr.alloc (.cells #[.int .i64 xk, .int .i64 xn, .string xs] 57)) := ⟨(below1 wr _).mono (Nat.le_trans hnV hBr.1.size), (below1 wr _).block bl (Nat.lt_of_lt_of_le hbV2 hBr.1.size)⟩
      have hJ1 : J (symsL (T.take k)) (wr.alloc (.cells #[.int .i64 xk, .int .i64 xn, .string xs] 57)) := hJ _ wr _ none hJs (below_grown (below1 wr _)) (fun r e => by cases e)
      by_cases h2 : xk = 2
      · subst h2
        rw [if_pos rfl] at HSY
        obtain ⟨fn, tmps, assign, body, hy1, hR⟩ := YH.out (n - 1) (symsL (T.take k)) xs _ (HS5.out _ (List.mem_of_getElem? hx)) hJ1 (by rw [HSY.out] at hlenk; simp at hlenk; omega)
        dsimp only [encS] at hy1
        gi_wp2
        refine ⟨fun h => absurd h (by decide), ?_⟩
        refine hR.mono ?_
        rintro e W3 (⟨rfl, hJ4, hk4, hf4⟩ | ⟨rfl, hJx4, hk4⟩)
        · gi_wp2_with fail
          exact ⟨⟨k + 1, by omega, by first | rfl | rw [← w9], by rw [HSY.out]; exact hJ4, (hBr.trans hB1).trans hf4⟩, by simp only [intOf]; omega⟩
        · gi_wp2_with fail
          refine bodyPost_ret (results_none rfl _ _ _) rfl ?_
          exact ⟨⟨_, rfl⟩, .inr ⟨_, HPR.out, by rw [HSY.out]; exact hJx4⟩⟩
      · have h2' : (xk == 2) = false := by rw [beq_eq_false_iff_ne]; exact h2
        rw [if_neg h2, List.append_nil] at HSY
        gi_wp2_with fail
        refine ⟨(fun f h => by cases h), ?_⟩
        gi_wp2_with fail
        exact ⟨⟨k + 1, by omega, by first | rfl | rw [← w9], by rw [HSY.out]; exact hJ1, hBr.trans hB1⟩, by simp only [intOf]; omega⟩
    · obtain rfl : k = T.length := by omega
      have HF := Lib.hid (show symsL (T.take T.length) = symsL T by rw [List.take_length])
      gi_wp2_with fail
      refine bodyPost_end (results_none rfl _ _ _) rfl ?_
      exact ⟨⟨_, rfl⟩, .inl ⟨_, HF.out, hJs⟩⟩

theorem stepIn_append_own {F : Fence} {n : Nat} {P : Program} (w : World) {ops : Array Oper} {o : Oper} {a : Act} {K : Act → World → Prop} {Q : Exit → Act → World → Prop} {E : Prop}
    (hg : o.guard = none) (s x : Operand) (t : TypeId) (hop : o.op = Op.call { callee := Callee.builtin Builtin.append, args := #[s, x], argTypes := #[t, t] })
    (base : Nat) (e : TypeId) (i : TypeInfo) (z : Value) (size bytes : Nat) (h1 : P.underlying t = some (.slice e)) (h2 : P.info? e = some i) (h3 : i.zero = some z) (h4 : i.size = size) (h5 : i.bytes = bytes) (h6 : z.cells.size = size) (h7 : 0 < size)
    (v : Value) (k : Nat) (xs : List Value) (hs : a.eval s = v) (hown : w.ownsRow base e size v k xs) (ad : Addr) (m c : Nat) (news : List Value) (hx : a.eval x = .slice (some ad) m c) (hn : news.length = m * size)
    (hc : ∀ j u, news[j]? = some u → w.cell? (ad.add j) = some u) (h1c : ∀ u ∈ news, u.oneCell' = true) (b1 : k + m ≤ maxLen) (b2 : (k + m) * bytes ≤ 140737488355328) (b3 : base ≤ w.heap.size)
    (hK : ∀ v' w', w'.ownsRow base e size v' (k + m) (xs ++ news) → w.grownBy w' v.ownBlock → K (a.put o.dst v') w') :
    if Region.wanted o (yielded ops a.tmps) = true then Oper.wpIn F n P o a w K Q else E := by
  have hw : Region.wanted o (yielded ops a.tmps) = true := by simp [Region.wanted, hg]
  rw [if_pos hw]
  obtain ⟨v', w', hrun, r1, r2, r3⟩ := run_append_own (P := P) w base t o.type e i z size bytes h1 h2 h3 h4 h5 h6 h7 v k xs hown ad m c news hn hc h1c b1 b2 b3
  unfold Oper.wpIn
  refine ⟨?_, ?_⟩
  · simp [Oper.about, hop, resolve, Target.leads, Sem.run_pure]
  · rw [Oper.semAt_plain F _ _ (by rw [hop]; intro c hc'; cases hc')]
    simp [execOp, hop, resolve, invoke, builtin, hs, hx, hrun, Result.andThen]
    exact hK v' w' r1 r2
theorem enters_syms : ∀ args w, (callFunc 61 args).run Tryd.prog w = .ok (.enter 61 args) w := enters_of Tryd.func61 (by kernel_rfl) rfl
/-- an iterator over a row of the call's own, made by slices.Values -/
def SeqOf (n : Nat) (w' : World) (D : List BA) (e : Ending) : Prop := ∃ bl sv, e = .returned (.func (.func 63) #[] #[.pointer (some ⟨bl, 0, none⟩)]) ∧ w'.heap[bl]? = some (.cells #[sv] 40 (0, 0)) ∧ w'.ownsRow n 9 1 sv D.length (D.map Value.string) ∧ n ≤ bl
theorem frb_put {n b : Nat} {W : World} {l : Nat} {o' : Obj} (h : n ≤ l) (hb : b < l) : FrB n b W (W.putObj l o') := by
  refine ⟨?_, World.putObj_heap_other (by omega)⟩
  exact ⟨rfl, rfl, rfl, by rw [World.putObj_size]; exact Nat.le_refl _, fun k hk => World.putObj_heap_other (by omega)⟩
theorem strC_snoc (l : List BA) (x : BA) : (l ++ [x]).map Value.string = l.map Value.string ++ [Value.string x] := by rw [List.map_append]; rfl
set_option maxRecDepth 100000 in
set_option maxHeartbeats 8000000 in
theorem syms_any (v : Value) (T : List Tm) (w : World) (hG : GoodE w) (h : TriO tmF w v T) (hl : T.length ≤ 281474976710656) (hs : ∀ x ∈ T, x.s.size ≤ maxLen) :
    Calls Tryd.prog 13 #[v] w fun e w' => SeqOf w.heap.size w' (symsT T) e ∧ Below w.heap.size w w' := by
  obtain ⟨i0, hi, hz0', hz1, hz2⟩ := info_parts infoStr
  have h1 := h.keep (below1 w (.cells #[.slice none 0 0] 40))
  have CK := Lib.hid (check_any v T _ (hG.thn (below1 w (.cells #[.slice none 0 0] 40))) h1 hl hs)
  have VL := Lib.hid (fun a n c V => values_any a n c V)
  refine (callsIn_wide (n := 7)).1 ?_
  refine callsIn_of_wp_marks Tryd.func13 rfl trivial ?_ rfl
  simp only [Tryd.ntmps13, List.size_toArray, List.length_cons, List.length_nil, Nat.reduceAdd, Nat.reduceSub, Array.replicate_succ, Array.replicate_zero, List.push_toArray, List.append_toArray, List.nil_append, List.cons_append]
  by_cases hc : checkT T = 0
  · obtain ⟨hcf, hl256⟩ := checkT_ok hc
    have hs5 : ∀ x ∈ T, x.s.size ≤ 512 := fun x hx => mayB_size (checkF_may T _ _ hcf x hx)
    have hD5 : ∀ x ∈ symsL T, x.size ≤ 512 := by
      intro x hx
      unfold symsL at hx
      obtain ⟨t, ht, rfl⟩ := List.mem_map.1 hx
      exact hs5 t (List.mem_filter.1 ht).1
    have hDl := Nat.le_trans (symsL_len T) hl256
    have hne : T ≠ [] := by rintro rfl; exact absurd hc (by decide)
    obtain ⟨g, off, cap, rfl, hcc, hcm, hgw, hT⟩ : ∃ g off cap, v = .slice (some ⟨g, off, none⟩) T.length cap ∧ T.length ≤ cap ∧ cap ≤ maxLen ∧ g < w.heap.size ∧ ∀ (k : Nat) (x : Tm), T[k]? = some x → w.cell? ⟨g, off + k * 3, none⟩ = some (tmF x).1 ∧ w.cell? ⟨g, off + k * 3 + 1, none⟩ = some (tmF x).2.1 ∧ w.cell? ⟨g, off + k * 3 + 2, none⟩ = some (tmF x).2.2 := by
      rcases h with ⟨-, h⟩ | h
      · exact absurd h hne
      · exact h
    have HE := Lib.hid (show symsT T = symsL T by unfold symsT; rw [if_pos hc])
    have HT := Lib.hid hT
    have HD5 := Lib.hid hD5
    have HS5 := Lib.hid hs5
    have HDL := Lib.hid hDl
    rw [hc] at CK
    clear hc hcf hs5 hD5 hDl hne h h1 hT hs hl hG
    gi_wp2_with fail
    refine ⟨trivial, ?_⟩
    refine (callsIn_wide.2 CK.out).mono ?_
    rintro e w1 ⟨rfl, hb1⟩
    have hB1 := Below.thn (below1 w (.cells #[.slice none 0 0] 40)) (below1 w _).size hb1
    have b1 : Boxed w1 w.heap.size 40 (.slice none 0 0) := block_kept hb1 (Boxed.new w 40 (.slice none 0 0))
    gi_wp2_with fail
    refine ⟨trivial, ?_⟩
    refine (callsIn_wide.2 (symbols_any _ _ _ w1)).mono ?_
    rintro e w2 ⟨rfl, rfl⟩
    have hlen : T.length ≤ 281474976710656 := by omega
    have ST := Lib.hid (fun n => symbols_tells2 T g off cap w1.heap.size n w.heap.size (w1.alloc (.cells #[.slice (some ⟨g, off, none⟩) T.length cap] 22)) (Nat.le_trans hB1.size (below1 w1 _).size) hgw HS5.out hlen (heap_alloc_new w1 _) (fun k x hx => by
      obtain ⟨a1, a2, a3⟩ := HT.out k x hx
      have hbb := Below.thn hB1 hB1.size (below1 w1 (.cells #[.slice (some ⟨g, off, none⟩) T.length cap] 22))
      exact ⟨cell_kept hbb a1, cell_kept hbb a2, cell_kept hbb a3⟩))
    have b2 := b1.alloc (.cells #[.slice (some ⟨g, off, none⟩) T.length cap] 22)
    have s2 := Boxed.new w1 22 (.slice (some ⟨g, off, none⟩) T.length cap)
    have hB2 := hB1.alloc hB1.size (.cells #[.slice (some ⟨g, off, none⟩) T.length cap] 22)
    have hzw2 : (w1.alloc (.cells #[.slice (some ⟨g, off, none⟩) T.length cap] 22)).heap.size = w1.heap.size + 1 := by simp
    have hw1 : w.heap.size < w1.heap.size := b1.lt
    generalize w1.alloc (.cells #[.slice (some ⟨g, off, none⟩) T.length cap] 22) = W2 at *
    generalize hbl : w1.heap.size = bl at *
    clear b1 hb1 hB1
    gi_wp2_with fail
    refine' range_tellsX (Fr := FrB w.heap.size bl) FrB.trans (fun W l o o' hl h ho _ => frb_put (by omega) (by omega)) (gf := 61) (lb := #[.pointer (some ⟨bl, 0, none⟩)]) rfl enters_syms
      (ST.out _) (Below.refl _ _) (fun _ => rfl)
      (fun pre V => ((∃ v, Boxed V w.heap.size 40 v ∧ V.ownsRow w.heap.size 9 1 v pre.length (pre.map Value.string) ∧ True) ∧ Boxed V bl 22 (.slice (some ⟨g, off, none⟩) T.length cap)) ∧ Below w.heap.size w V)
      (fun c pre V => False)
      (OwnFrom.and (Own.from (fun s A C row hs hg hr => ⟨holdsRow_own w.heap.size w.heap.size 40 9 1 (fun s : List BA => s.length) (fun s => s.map Value.string) (fun _ _ => True) s A C row hs.1 hg hr, boxed_own bl 22 (fun _ : List BA => .slice (some ⟨g, off, none⟩) T.length cap) s A C row hs.2 hg hr⟩) _) (ownFrom_below (Nat.le_refl _) (by omega)))
      (fun c => Own.from (fun _ A C row hs hg hr => hs.elim) _)
      ⟨⟨⟨_, b2, World.ownsRow_nil _ _ _ _, trivial⟩, s2⟩, hB2⟩
      (fun A B hA hAB => ⟨hAB.mono (by omega), hAB.block bl (by omega)⟩)
      (fun x a₁ _ => a₁ = { tmps := #[.slice (some ⟨g, off, none⟩) T.length cap, undef, .nilFunc, .pointer (some ⟨w.heap.size, 0, none⟩), .string x, .slice (some ⟨g, off, none⟩) T.length cap, .int .i64 0, .bool true, .slice (some ⟨g, off, none⟩) T.length cap, .func (.func 61) #[] #[.pointer (some ⟨bl, 0, none⟩)], .string x, undef, undef, undef, undef, undef, undef, undef], defers := [] })
      ?hAs ?hassign ?hbody ?hdone ?hstop
    case hassign =>
      intro m l x V K hV hK
      simp only [encS]
      gi_wp2
      exact hK _ _ (Below.refl _ _) rfl
    case hAs =>
      refine Own.from ?_ _
      rintro s A C row hs hg hr
      exact hs
    case hbody =>
      rintro m l pre x a1 V hl ⟨⟨⟨v, hv, hrow, -⟩, hs⟩, hbel⟩ rfl hlt hok
      obtain ⟨vb, vc, rfl⟩ := own_sliceN hrow
      have hz : w.heap.size ≤ V.heap.size := hbel.size
      have hpl : pre.length ≤ 256 := Nat.le_trans (Nat.le_of_lt hlt) HDL.out
      have HV := Lib.hid hv
      have HS := Lib.hid hs
      have HROW := Lib.hid hrow
      have HBEL := Lib.hid hbel
      have hc0 := hv.cell
      clear hv hs hrow hbel
      have CL := Lib.hid (fun V => clone_any x V (by omega))
      have AF := Lib.hid (show ∀ w3, Below V.heap.size V w3 → w3.cell? ⟨w.heap.size, 0, none⟩ = some (.slice vb pre.length vc) ∧ (w3.alloc (.cells #[.string x] 9)).cell? ⟨w.heap.size, 0, none⟩ = some (.slice vb pre.length vc) ∧ (w3.alloc (.cells #[.string x] 9)).ownsRow w.heap.size 9 1 (.slice vb pre.length vc) pre.length (pre.map Value.string) ∧ w.heap.size ≤ (w3.alloc (.cells #[.string x] 9)).heap.size ∧ (∀ j u, ([.string x] : List Value)[j]? = some u → (w3.alloc (.cells #[.string x] 9)).cell? ((⟨w3.heap.size, 0, none⟩ : Addr).add j) = some u) from fun w3 hb => by
        have b3 : Boxed w3 w.heap.size 40 (.slice vb pre.length vc) := block_kept hb HV.out
        have r3 := own_mono HROW.out hb (fun g hg => (HROW.out.lt g hg).2)
        exact ⟨b3.cell, (b3.alloc _).cell, r3.alloc _, by have := hb.size; simp; omega, fun j u hu => World.news_of_block (heap_alloc_new w3 _) j u hu⟩)
      have AG := Lib.hid (show ∀ w3, Below V.heap.size V w3 → ∀ w4, (w3.alloc (.cells #[.string x] 9)).grownBy w4 (Value.slice vb pre.length vc).ownBlock → w4.cell? ⟨w.heap.size, 0, none⟩ = some (.slice vb pre.length vc) ∧ w4.frozen? ⟨w.heap.size, 0, none⟩ = false from fun w3 hb w4 hg4 => by
        have b3 : Boxed w3 w.heap.size 40 (.slice vb pre.length vc) := block_kept hb HV.out
        have r3 := own_mono HROW.out hb (fun g hg => (HROW.out.lt g hg).2)
        have b4 := (b3.alloc (.cells #[.string x] 9)).kept hg4 (Boxed.not_row (b3.alloc _) (by decide) (r3.alloc (.cells #[.string x] 9)))
        exact ⟨b4.cell, b4.frozen⟩)
      have FIN := Lib.hid (show ∀ w3, Below V.heap.size V w3 → ∀ w4 g' cap', w4.ownsRow w.heap.size 9 1 (.slice (some ⟨g', 0, none⟩) (pre.length + 1) cap') (pre.length + 1) (pre.map Value.string ++ [.string x]) → (w3.alloc (.cells #[.string x] 9)).grownBy w4 (Value.slice vb pre.length vc).ownBlock →
          KeepsFrom W2.heap.size V (w4.setCell ⟨w.heap.size, 0, none⟩ (.slice (some ⟨g', 0, none⟩) (pre.length + 1) cap')) ∧ FrB w.heap.size bl V (w4.setCell ⟨w.heap.size, 0, none⟩ (.slice (some ⟨g', 0, none⟩) (pre.length + 1) cap')) ∧
          ((∃ v, Boxed (w4.setCell ⟨w.heap.size, 0, none⟩ (.slice (some ⟨g', 0, none⟩) (pre.length + 1) cap')) w.heap.size 40 v ∧ (w4.setCell ⟨w.heap.size, 0, none⟩ (.slice (some ⟨g', 0, none⟩) (pre.length + 1) cap')).ownsRow w.heap.size 9 1 v (pre ++ [x]).length ((pre ++ [x]).map Value.string) ∧ True) ∧ Boxed (w4.setCell ⟨w.heap.size, 0, none⟩ (.slice (some ⟨g', 0, none⟩) (pre.length + 1) cap')) bl 22 (.slice (some ⟨g, off, none⟩) T.length cap)) ∧ Below w.heap.size w (w4.setCell ⟨w.heap.size, 0, none⟩ (.slice (some ⟨g', 0, none⟩) (pre.length + 1) cap')) from fun w3 hb w4 g' cap' hw4 hg4 => by
        have b3 : Boxed w3 w.heap.size 40 (.slice vb pre.length vc) := block_kept hb HV.out
        have s3 : Boxed w3 bl 22 (.slice (some ⟨g, off, none⟩) T.length cap) := block_kept hb HS.out
        have r3 := own_mono HROW.out hb (fun g hg => (HROW.out.lt g hg).2)
        have hz3 : w.heap.size ≤ w3.heap.size := Nat.le_trans hz hb.size
        obtain ⟨hv1, hv2, hr2, hk2, hb2⟩ := b3.appended (by decide) r3 hz3 (Nat.le_refl _) hw4 hg4
        have s4 := ((s3.alloc (.cells #[.string x] 9)).kept hg4 (Boxed.not_row (s3.alloc _) (by decide) (r3.alloc (.cells #[.string x] 9)))).other (B' := w.heap.size) (by omega) (.slice (some ⟨g', 0, none⟩) (pre.length + 1) cap')
        have hbV := (hb.mono hz).trans hb2
        refine ⟨?_, ⟨hbV, s4.trans HS.out.symm⟩, ⟨⟨_, hv2, ?_, trivial⟩, s4⟩, HBEL.out.trans hbV⟩
        · exact KeepsFrom.trans ⟨hb.size, fun k o _ hk _ => block_kept hb hk⟩ (hk2.from _)
        · rw [List.length_append, strC_snoc]; exact hr2)
      gi_wp2_with fail
      refine wpIn_region_any (by kernel_rfl) ?_
      change wpAnyIn _ _ _ _ _ _ _ _ _ (World.drew _)
      refine wpAnyIn_ready (rs := [0,1]) (by kernel_rfl) (by simp) ?_
      refine AllReadyIn.cons rfl (fun K hK => ?_) ?_
      · go_simp
        refine hK _ _ ?_
        clear hK K
        refine wpAnyIn_ready (rs := [1]) (by kernel_rfl) (by simp) ?_
        refine AllReadyIn.cons rfl (fun K hK => ?_) ?_
        · go_simp
          refine hK _ _ ?_
          clear hK K
          refine wpAnyIn_ready (rs := [2]) (by kernel_rfl) (by simp) ?_
          refine AllReadyIn.cons rfl (fun K hK => ?_) ?_
          · go_simp
            refine ⟨trivial, fun h => absurd h (by decide), ?_⟩
            refine (CallsIn.inRound l (callsIn_wide.2 (CL.out _))).mono ?_
            rintro e w3 ⟨rfl, hb3⟩
            obtain ⟨c3, c4, r4, z4, n4⟩ := AF.out w3 (below_of_drew hb3)
            refine hK _ _ ?_
            clear hK K
            refine wpAnyIn_ready (rs := [3]) (by kernel_rfl) (by simp) ?_
            refine AllReadyIn.cons rfl (fun K hK => ?_) ?_
            · go_simp
              refine hK _ _ ?_
              clear hK K
              refine wpAnyIn_ready (rs := [4]) (by kernel_rfl) (by simp) ?_
              refine AllReadyIn.cons rfl (fun K hK => ?_) ?_
              · refine stepIn_append_own _ rfl _ _ 40 rfl w.heap.size 9 i0 (.string ⟨#[]⟩) 1 16 Tryd.underlying40 hi hz0' hz1 hz2 rfl (by decide) _ _ _ rfl r4 ⟨w3.heap.size, 0, none⟩ 1 1 [.string x] rfl rfl n4 (by simp [Value.oneCell']) (by unfold maxLen; omega) (by omega) z4 ?_
                intro v' w4 hw4 hg4
                obtain ⟨g', cap', rfl⟩ := ownsRow_succ hw4
                obtain ⟨q1, q2⟩ := AG.out w3 (below_of_drew hb3) w4 hg4
                refine hK _ _ ?_
                clear hK K
                refine wpAnyIn_ready (rs := [5]) (by kernel_rfl) (by simp) ?_
                refine AllReadyIn.cons rfl (fun K hK => ?_) ?_
                · go_simp
                  refine hK _ _ ?_
                  clear hK K
                  refine wpAnyIn_done (by kernel_rfl) ?_ _
                  exact FIN.out w3 (below_of_drew hb3) w4 g' cap' hw4 hg4
                exact AllReadyIn.nil
              exact AllReadyIn.nil
            exact AllReadyIn.nil
          exact AllReadyIn.nil
        exact AllReadyIn.nil
      refine AllReadyIn.cons rfl (fun K hK => ?_) ?_
      · go_simp
        refine hK _ _ ?_
        clear hK K
        refine wpAnyIn_ready (rs := [0,2]) (by kernel_rfl) (by simp) ?_
        refine AllReadyIn.cons rfl (fun K hK => ?_) ?_
        · go_simp
          refine hK _ _ ?_
          clear hK K
          refine wpAnyIn_ready (rs := [2]) (by kernel_rfl) (by simp) ?_
          refine AllReadyIn.cons rfl (fun K hK => ?_) ?_
          · go_simp
            refine ⟨trivial, fun h => absurd h (by decide), ?_⟩
            refine (CallsIn.inRound l (callsIn_wide.2 (CL.out _))).mono ?_
            rintro e w3 ⟨rfl, hb3⟩
            obtain ⟨c3, c4, r4, z4, n4⟩ := AF.out w3 (below_of_drew hb3)
            refine hK _ _ ?_
            clear hK K
            refine wpAnyIn_ready (rs := [3]) (by kernel_rfl) (by simp) ?_
            refine AllReadyIn.cons rfl (fun K hK => ?_) ?_
            · go_simp
              refine hK _ _ ?_
              clear hK K
              refine wpAnyIn_ready (rs := [4]) (by kernel_rfl) (by simp) ?_
              refine AllReadyIn.cons rfl (fun K hK => ?_) ?_
              · refine stepIn_append_own _ rfl _ _ 40 rfl w.heap.size 9 i0 (.string ⟨#[]⟩) 1 16 Tryd.underlying40 hi hz0' hz1 hz2 rfl (by decide) _ _ _ rfl r4 ⟨w3.heap.size, 0, none⟩ 1 1 [.string x] rfl rfl n4 (by simp [Value.oneCell']) (by unfold maxLen; omega) (by omega) z4 ?_
                intro v' w4 hw4 hg4
                obtain ⟨g', cap', rfl⟩ := ownsRow_succ hw4
                obtain ⟨q1, q2⟩ := AG.out w3 (below_of_drew hb3) w4 hg4
                refine hK _ _ ?_
                clear hK K
                refine wpAnyIn_ready (rs := [5]) (by kernel_rfl) (by simp) ?_
                refine AllReadyIn.cons rfl (fun K hK => ?_) ?_
                · go_simp
                  refine hK _ _ ?_
                  clear hK K
                  refine wpAnyIn_done (by kernel_rfl) ?_ _
                  exact FIN.out w3 (below_of_drew hb3) w4 g' cap' hw4 hg4
                exact AllReadyIn.nil
              exact AllReadyIn.nil
            exact AllReadyIn.nil
          exact AllReadyIn.nil
        refine AllReadyIn.cons rfl (fun K hK => ?_) ?_
        · go_simp
          refine ⟨trivial, fun h => absurd h (by decide), ?_⟩
          refine (CallsIn.inRound l (callsIn_wide.2 (CL.out _))).mono ?_
          rintro e w3 ⟨rfl, hb3⟩
          obtain ⟨c3, c4, r4, z4, n4⟩ := AF.out w3 (below_of_drew hb3)
          refine hK _ _ ?_
          clear hK K
          refine wpAnyIn_ready (rs := [0,3]) (by kernel_rfl) (by simp) ?_
          refine AllReadyIn.cons rfl (fun K hK => ?_) ?_
          · go_simp
            refine hK _ _ ?_
            clear hK K
            refine wpAnyIn_ready (rs := [3]) (by kernel_rfl) (by simp) ?_
            refine AllReadyIn.cons rfl (fun K hK => ?_) ?_
            · go_simp
              refine hK _ _ ?_
              clear hK K
              refine wpAnyIn_ready (rs := [4]) (by kernel_rfl) (by simp) ?_
              refine AllReadyIn.cons rfl (fun K hK => ?_) ?_
              · refine stepIn_append_own _ rfl _ _ 40 rfl w.heap.size 9 i0 (.string ⟨#[]⟩) 1 16 Tryd.underlying40 hi hz0' hz1 hz2 rfl (by decide) _ _ _ rfl r4 ⟨w3.heap.size, 0, none⟩ 1 1 [.string x] rfl rfl n4 (by simp [Value.oneCell']) (by unfold maxLen; omega) (by omega) z4 ?_
                intro v' w4 hw4 hg4
                obtain ⟨g', cap', rfl⟩ := ownsRow_succ hw4
                obtain ⟨q1, q2⟩ := AG.out w3 (below_of_drew hb3) w4 hg4
                refine hK _ _ ?_
                clear hK K
                refine wpAnyIn_ready (rs := [5]) (by kernel_rfl) (by simp) ?_
                refine AllReadyIn.cons rfl (fun K hK => ?_) ?_
                · go_simp
                  refine hK _ _ ?_
                  clear hK K
                  refine wpAnyIn_done (by kernel_rfl) ?_ _
                  exact FIN.out w3 (below_of_drew hb3) w4 g' cap' hw4 hg4
                exact AllReadyIn.nil
              exact AllReadyIn.nil
            exact AllReadyIn.nil
          refine AllReadyIn.cons rfl (fun K hK => ?_) ?_
          · go_simp
            refine hK _ _ ?_
            clear hK K
            refine wpAnyIn_ready (rs := [0]) (by kernel_rfl) (by simp) ?_
            refine AllReadyIn.cons rfl (fun K hK => ?_) ?_
            · go_simp
              refine hK _ _ ?_
              clear hK K
              refine wpAnyIn_ready (rs := [4]) (by kernel_rfl) (by simp) ?_
              refine AllReadyIn.cons rfl (fun K hK => ?_) ?_
              · refine stepIn_append_own _ rfl _ _ 40 rfl w.heap.size 9 i0 (.string ⟨#[]⟩) 1 16 Tryd.underlying40 hi hz0' hz1 hz2 rfl (by decide) _ _ _ rfl r4 ⟨w3.heap.size, 0, none⟩ 1 1 [.string x] rfl rfl n4 (by simp [Value.oneCell']) (by unfold maxLen; omega) (by omega) z4 ?_
                intro v' w4 hw4 hg4
                obtain ⟨g', cap', rfl⟩ := ownsRow_succ hw4
                obtain ⟨q1, q2⟩ := AG.out w3 (below_of_drew hb3) w4 hg4
                refine hK _ _ ?_
                clear hK K
                refine wpAnyIn_ready (rs := [5]) (by kernel_rfl) (by simp) ?_
                refine AllReadyIn.cons rfl (fun K hK => ?_) ?_
                · go_simp
                  refine hK _ _ ?_
                  clear hK K
                  refine wpAnyIn_done (by kernel_rfl) ?_ _
                  exact FIN.out w3 (below_of_drew hb3) w4 g' cap' hw4 hg4
                exact AllReadyIn.nil
              exact AllReadyIn.nil
            exact AllReadyIn.nil
          exact AllReadyIn.nil
        exact AllReadyIn.nil
      exact AllReadyIn.nil
    case hstop =>
      intro D c pre V hD hS hF hK
      exact hF.elim
    case hdone =>
      rintro D ys V hD rfl ⟨⟨⟨v, hv, hrow, -⟩, hs⟩, hbel⟩ hK
      obtain ⟨vb, vc, rfl⟩ := own_sliceN hrow
      have hc0 := hv.cell
      have HROW := Lib.hid hrow
      have HBEL := Lib.hid hbel
      have HK := Lib.hid hK
      have hz : w.heap.size ≤ V.heap.size := hbel.size
      clear hrow hbel hK hs hv
      gi_wp2_with fail
      refine ⟨trivial, ?_⟩
      refine (callsIn_wide.2 (VL.out _ _ _ V)).mono ?_
      rintro e w4 ⟨rfl, rfl⟩
      gi_wp2_with fail
      have hK4 : (V.alloc (.cells #[.slice vb (symsL T).length vc] 40)).heap[D]? = some (.deferred (some [])) := block_kept (below1 V _) HK.out
      have hDl : D < V.heap.size := heap_lt HK.out
      refine ⟨by simp, .inl ⟨_, _, rfl, run_takeDeferred hK4, ?_⟩⟩
      refine ⟨.func (.func 63) #[] #[.pointer (some ⟨V.heap.size, 0, none⟩)], ?_, ⟨V.heap.size, .slice vb (symsL T).length vc, rfl, ?_, ?_, hz⟩, ?_⟩
      · simp [results, Tryd.f13, go_sem]
      · rw [World.putObj_heap_other (by omega)]
        exact heap_alloc_new V _
      · rw [HE.out]
        exact ownsRow_putObj (HROW.out.alloc _) (.deferred none) hK4 rfl
      · exact (HBEL.out.alloc hz _).trans (frb_put (b := w.heap.size) (by omega) (by omega)).1
  · have HE := Lib.hid (show symsT T = [] by unfold symsT; rw [if_neg hc])
    obtain ⟨A, c, rfl⟩ := tri_slice h
    obtain ⟨q, hq⟩ : ∃ q, checkT T = q := ⟨_, rfl⟩
    rw [hq] at CK hc
    have hc' : (q == 0) = false := beq_eq_false_iff_ne.2 hc
    clear hq hc h h1 hs hl hG
    gi_wp2_with fail
    refine ⟨trivial, ?_⟩
    refine (callsIn_wide.2 CK.out).mono ?_
    rintro e w1 ⟨rfl, hb1⟩
    have HB1 := Lib.hid (Below.thn (below1 w (.cells #[.slice none 0 0] 40)) (below1 w _).size hb1)
    have b1 : Boxed w1 w.heap.size 40 (.slice none 0 0) := block_kept hb1 (Boxed.new w 40 (.slice none 0 0))
    have hc0 := b1.cell
    clear hb1 b1
    gi_wp2_with fail
    refine ⟨trivial, ?_⟩
    refine (callsIn_wide.2 (VL.out _ _ _ w1)).mono ?_
    rintro e w4 ⟨rfl, rfl⟩
    gi_wp2_with fail
    refine ⟨.func (.func 63) #[] #[.pointer (some ⟨w1.heap.size, 0, none⟩)], ?_, ⟨w1.heap.size, .slice none 0 0, rfl, heap_alloc_new w1 _, ?_, HB1.out.size⟩, HB1.out.alloc HB1.out.size _⟩
    · simp [results, Tryd.f13, go_sem]
    · rw [HE.out]; exact World.ownsRow_nil _ _ _ _
end Go.Proofs.YtdkflmpdelfgoaaDoor
namespace Go.Proofs.YtdkflmpdelfgoaaDoor
open Go.RowKit Go.Shelf
set_option linter.unusedVariables false
set_option linter.unusedSimpArgs false
attribute [local go_sem] Oper.semAt_some

theorem enters_vals : ∀ args w, (callFunc 63 args).run Tryd.prog w = .ok (.enter 63 args) w := enters_of Tryd.func63 (by kernel_rfl) rfl
set_option maxRecDepth 100000 in
set_option maxHeartbeats 8000000 in
theorem values_tells_nil (bl n n₀ : Nat) (w : World) (hbl : bl < n₀)
    (hbx : w.heap[bl]? = some (.cells #[.slice none 0 0] 40 (0, 0))) :
    TellsS (Below n₀) n Tryd.prog 63 #[.pointer (some ⟨bl, 0, none⟩)] encS (fun xs => xs = ([] : List BA)) (fun pre => pre <+: ([] : List BA)) 0 w := by
  intro l J Jx V hV hJ hJx hY h0
  have hbV : V.cell? ⟨bl, 0, none⟩ = some (.slice none 0 0) := by
    rw [Lib.cell_of_heap ((hV.block bl (heap_lt hbx)).trans hbx)]; rfl
  clear hY hbx
  have H0 := Lib.hid h0
  clear h0
  refine callsIn_of_wp Tryd.func63 rfl trivial ?_ rfl
  simp only [Tryd.ntmps63, List.size_toArray, List.length_cons, List.length_nil, Nat.reduceAdd, Nat.reduceSub, Array.replicate_succ, Array.replicate_zero, List.push_toArray, List.append_toArray, List.nil_append, List.cons_append]
  gi_wp2_with fail
  gi_loopw [7] (fun v wr => v = .int .i64 0 ∧ wr = V) (fun v _ => 0)
  case atStart => exact ⟨rfl, rfl⟩
  case round =>
    obtain ⟨rfl, rfl⟩ := hrel
    gi_wp2_with fail
    refine bodyPost_end (results_none rfl _ _ _) rfl ?_
    exact ⟨⟨_, rfl⟩, .inl ⟨_, rfl, H0.out⟩⟩
theorem seq_tells (D : List BA) (sv : Value) (bl n n₀ m₀ : Nat) (w : World) (hn : n₀ ≤ w.heap.size) (hbl : bl < n₀) (hlen : D.length ≤ 281474976710656)
    (hbx : w.heap[bl]? = some (.cells #[sv] 40 (0, 0))) (hD : w.ownsRow m₀ 9 1 sv D.length (D.map Value.string)) (hlt : ∀ g, sv.ownBlock = some g → g < n₀) :
    TellsS (Below n₀) n Tryd.prog 63 #[.pointer (some ⟨bl, 0, none⟩)] encS (fun xs => xs = D) (fun pre => pre <+: D) D.length w := by
  rcases hD.2 with ⟨rfl, h0⟩ | ⟨g, cap, cur, rfl, h2⟩
  · obtain rfl : D = [] := List.length_eq_zero_iff.1 h0
    exact values_tells_nil bl n n₀ w hbl hbx
  · refine values_tells D g 0 cap bl n n₀ w hn hbl (hlt g rfl) hlen hbx (fun k x hx => ?_)
    have hk : k < D.length := (List.getElem?_eq_some_iff.1 hx).1
    rw [hD.cellAt (0 + k) (by omega), Nat.zero_add, List.getElem?_map, hx]; rfl
set_option maxRecDepth 100000 in
set_option maxHeartbeats 8000000 in
theorem appendSeq_any (D : List BA) (sv : Value) (bl m₀ : Nat) (w : World) (hlen : D.length ≤ 100000) (hbx : w.heap[bl]? = some (.cells #[sv] 40 (0, 0))) (hD : w.ownsRow m₀ 9 1 sv D.length (D.map Value.string)) :
    Calls Tryd.prog 43 #[.slice none 0 0, .func (.func 63) #[] #[.pointer (some ⟨bl, 0, none⟩)]] w fun e w' => (∃ v, e = .returned v ∧ w'.ownsRow w.heap.size 9 1 v D.length (D.map Value.string)) ∧ Below w.heap.size w w' := by
  obtain ⟨i0, hi, hz0', hz1, hz2⟩ := info_parts infoStr
  have PT := Lib.hid (fun (n : Nat) (W : World) (hb : Below w.heap.size w W) => seq_tells D sv bl n w.heap.size m₀ W hb.size (heap_lt hbx) (by omega) ((hb.block bl (heap_lt hbx)).trans hbx) (own_mono hD hb (fun g hg => (hD.lt g hg).2)) (fun g hg => (hD.lt g hg).2))
  refine (callsIn_wide (n := 7)).1 ?_
  refine callsIn_of_wp_marks Tryd.func43 rfl trivial ?_ rfl
  simp only [Tryd.ntmps43, List.size_toArray, List.length_cons, List.length_nil, Nat.reduceAdd, Nat.reduceSub, Array.replicate_succ, Array.replicate_zero, List.push_toArray, List.append_toArray, List.nil_append, List.cons_append]
  gi_wp2_with fail
  have b1 := Boxed.new w 40 (.slice none 0 0)
  have hB0 := below1 w (.cells #[.slice none 0 0] 40)
  have hz0 : (w.alloc (.cells #[.slice none 0 0] 40)).heap.size = w.heap.size + 1 := by simp
  generalize w.alloc (.cells #[.slice none 0 0] 40) = W0 at *
  have hn0 : w.heap.size ≤ W0.heap.size := by omega
  have hown : Own (fun (s : List BA) V => ∃ v, Boxed V w.heap.size 40 v ∧ V.ownsRow w.heap.size 9 1 v s.length (s.map Value.string) ∧ True) :=
    holdsRow_own w.heap.size w.heap.size 40 9 1 (fun s : List BA => s.length) (fun s => s.map Value.string) (fun s _ => True)
  refine' range_tellsS (Fr := Below w.heap.size) Below.trans (fun W l o o' hl h ho _ => (frb_put (b := 0) (by omega) (by omega)).1) (gf := 63) (lb := #[.pointer (some ⟨bl, 0, none⟩)]) rfl enters_vals
    (PT.out _ _ hB0) (Below.refl _ _) (fun _ => rfl)
    (fun pre V => (∃ v, Boxed V w.heap.size 40 v ∧ V.ownsRow w.heap.size 9 1 v pre.length (pre.map Value.string) ∧ True) ∧ Below w.heap.size w V)
    (fun c pre V => False)
    (OwnFrom.and (Own.from (fun s A C row hs hg hr => hown s A C row hs hg hr) _) (ownFrom_below (Nat.le_refl _) hn0))
    (fun c => Own.from (fun _ A C row hs hg hr => hs.elim) _)
    ⟨⟨_, b1, World.ownsRow_nil _ _ _ _, trivial⟩, hB0⟩
    (fun A B hA hAB => hAB.mono (by omega))
    (fun x a₁ V => a₁ = { tmps := #[.slice none 0 0, .func (.func 63) #[] #[.pointer (some ⟨bl, 0, none⟩)], .pointer (some ⟨w.heap.size, 0, none⟩), undef, .slice none 0 0, .string x, .func (.func 63) #[] #[.pointer (some ⟨bl, 0, none⟩)], .string x, undef, undef, undef, undef, undef], defers := [] })
    ?hAs ?hassign ?hbody ?hdone ?hstop
  case hassign =>
    intro m l x V K hV hK
    simp only [encS]
    gi_wp2
    exact hK _ _ (Below.refl _ _) rfl
  case hAs =>
    refine Own.from ?_ _
    rintro s A C row hs hg hr
    exact hs
  case hbody =>
    rintro m l pre x a1 V hl ⟨⟨v, hv, hrow, -⟩, hbel⟩ rfl hlt
    obtain ⟨vb, vc, rfl⟩ := own_sliceN hrow
    have hc := hv.cell
    have hz : w.heap.size ≤ V.heap.size := hbel.size
    have HV := Lib.hid hv
    clear hv
    gi_wp2_with (gi_at_builtin; refine wpListIn_append_own _ rfl _ _ 40 rfl w.heap.size 9 i0 (.string ⟨#[]⟩) 1 16 Tryd.underlying40 hi hz0' hz1 hz2 rfl (by decide) _ _ _ rfl (hrow.alloc _) ⟨V.heap.size, 0, none⟩ 1 1 [.string x] rfl rfl (fun j u hu => World.news_of_block (heap_alloc_new V _) j u hu) (by simp [Value.oneCell']) (by unfold maxLen; omega) (by omega) (by simp; omega) ?_; intro v' w1 hown' hgrow _; obtain ⟨g', cap', rfl⟩ := ownsRow_succ hown'; obtain ⟨hv1, hv2, hr2, hk2, hb2⟩ := HV.out.appended (by decide) hrow hz (by omega) hown' hgrow; have hc1 := hv1.cell; have hf1 := hv1.frozen)
    refine ⟨hk2.from _, hb2, ⟨_, hv2, ?_, trivial⟩, hbel.trans hb2⟩
    rw [List.length_append, strC_snoc]
    exact hr2
  case hstop =>
    intro D c pre V hD hS hF hK
    exact hF.elim
  case hdone =>
    rintro D' ys V hD' rfl ⟨⟨v, hv, hrow, -⟩, hbel⟩ hK
    obtain ⟨vb, vc, rfl⟩ := own_sliceN hrow
    have d3 := hv.cell
    have ER := Lib.hid hrow
    clear hrow
    gi_wp2_with fail
    refine ⟨by simp, .inl ⟨_, _, rfl, run_takeDeferred hK, ?_⟩⟩
    refine ⟨.slice vb ys.length vc, ?_, ⟨_, rfl, ?_⟩, hbel.trans (frb_put (b := 0) (by omega) (by omega)).1⟩
    · simp [results, Tryd.f43, go_sem]
    · exact ownsRow_putObj ER.out (.deferred none) hK rfl
set_option maxRecDepth 100000 in
set_option maxHeartbeats 8000000 in
theorem collect_any (D : List BA) (sv : Value) (bl m₀ : Nat) (w : World) (hlen : D.length ≤ 100000) (hbx : w.heap[bl]? = some (.cells #[sv] 40 (0, 0))) (hD : w.ownsRow m₀ 9 1 sv D.length (D.map Value.string)) :
    Calls Tryd.prog 17 #[.func (.func 63) #[] #[.pointer (some ⟨bl, 0, none⟩)]] w fun e w' => (∃ v, e = .returned v ∧ w'.ownsRow w.heap.size 9 1 v D.length (D.map Value.string)) ∧ Below w.heap.size w w' := by
  have AS := Lib.hid (appendSeq_any D sv bl m₀ w hlen hbx hD)
  clear hbx hD
  go_enter Tryd.func17, Tryd.ntmps17
  go_wp2_with fail
  refine AS.out.mono ?_
  rintro e w1 ⟨⟨v, rfl, hr⟩, hb1⟩
  obtain ⟨vb, vc, rfl⟩ := own_sliceN hr
  have HR := Lib.hid hr
  have HB := Lib.hid hb1
  clear hr hb1
  go_wp2_with fail
  go_ret
  exact ⟨⟨_, rfl, HR.out⟩, HB.out⟩
end Go.Proofs.YtdkflmpdelfgoaaDoor
