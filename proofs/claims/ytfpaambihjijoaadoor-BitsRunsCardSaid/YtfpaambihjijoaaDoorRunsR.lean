/-
  The runs as the document's loop finds them: a slice of the same runs. No conditions beyond those that each lemma states.
-/
import Derived.Test.YtfpaambihjijoaaDoorRunsS
import Derived.Laws.OwnMore
import Derived.Sort.QuietIn
namespace Go.Proofs.YtfpaambihjijoaaDoor
open Go.RowKit Go.Shelf BM
attribute [local go_sem] Oper.semAt_some

theorem runsD_in (v : Nat) : ∀ i, ∀ r, r ∈ runsD v i → r.1 + r.2 ≤ i
  | 0, r, h => by simp [runsD] at h
  | i + 1, r, h => by
    have ih := runsD_in v i
    rw [show runsD v (i + 1) = if v.testBit i then addOne (runsD v i) i else runsD v i from rfl] at h
    split at h
    · rcases List.eq_nil_or_concat (runsD v i) with e | ⟨K, ⟨a, n⟩, e⟩
      · rw [e] at h; simp [addOne] at h; subst h; simp
      · rw [List.concat_eq_append] at e
        rw [e, addOne_snoc] at h
        have hK : ∀ r, r ∈ K → r.1 + r.2 ≤ i := fun r hr => ih r (by rw [e]; simp [hr])
        have hl := ih (a, n) (by rw [e]; simp)
        split at h
        · rcases List.mem_append.1 h with g | g
          · have := hK r g; omega
          · simp at g; subst g; simp at hl ⊢; omega
        · rcases List.mem_append.1 h with g | g
          · have := hK r g; omega
          · simp at g; rcases g with rfl | rfl
            · simp at hl ⊢; omega
            · simp
    · have := ih r h; omega
theorem runsD_len (v : Nat) : ∀ i, (runsD v i).length ≤ i
  | 0 => by simp [runsD]
  | i + 1 => by
    have ih := runsD_len v i
    rw [show runsD v (i + 1) = if v.testBit i then addOne (runsD v i) i else runsD v i from rfl]
    split
    · rcases List.eq_nil_or_concat (runsD v i) with e | ⟨K, ⟨a, n⟩, e⟩
      · rw [e]; simp [addOne]
      · rw [List.concat_eq_append] at e
        rw [e] at ih ⊢
        rw [addOne_snoc]
        split <;> simp at ih ⊢ <;> omega
    · omega
theorem flatR_set (K : List (Nat × Nat)) (a m m' : Nat) : (flatR (K ++ [(a, m)])).set (K.length * 2 + 1) (.int .i64 (m' : Int)) = flatR (K ++ [(a, m')]) := by
  rw [flatR_snoc, flatR_snoc, List.set_append_right _ _ (by rw [flatR_len]; omega), flatR_len]
  simp
theorem row_len {V : World} {base : Nat} {s : Value} {l : List (Nat × Nat)} {T : TypeId} (h : V.ownsRow base T 2 s l.length (flatR l)) (V' : World) : Sem.run Tryd.prog (Builtin.len_ #[30] 3 #[s]) V' = .ok (.int .i64 (l.length : Int)) V' := by
  rcases h.2 with ⟨h, h0⟩ | ⟨g, cap, _, h, _⟩
  · rw [h0, h]; simp [Builtin.len_, go_sem]
  · rw [h]; simp [Builtin.len_, go_sem]
set_option maxRecDepth 100000 in
set_option maxHeartbeats 2000000 in
theorem rruns_any (v : Nat) (n : Int) (w : World) (hv : v < 18446744073709551616) :
    Calls Tryd.prog 10 #[.int .u64 (v : Int), .int .i64 n] w fun e w' =>
      ∃ s, e = .returned s ∧ w'.ownsRow w.heap.size 32 2 s (runsC (v % 2 ^ wid n)).length (flatR (runsC (v % 2 ^ wid n))) ∧ Below w.heap.size w w' := by
  obtain ⟨i0, hi, hz0, hz1, hz2⟩ := info_parts infoRun
  rw [← runs_meet (v := v) (wid_le n)]
  obtain ⟨M, hM⟩ : ∃ M : Int, (if 64 < n then 64 else n) = M := ⟨_, rfl⟩
  have hMw : ∀ k : Nat, (k : Int) < M ↔ k < wid n := by
    intro k; rw [← hM]; unfold wid; split <;> split <;> (try split) <;> omega
  have HMW := Lib.hid hMw
  have HV := Lib.hid hv
  have WL := Lib.hid (wid_le n)
  clear hv hMw
  refine (callsIn_wide (n := 7)).1 ?_
  refine callsIn_of_wp Tryd.func10 rfl trivial ?_ rfl
  simp only [Tryd.ntmps10, List.size_toArray, List.length_cons, List.length_nil, Nat.reduceAdd, Nat.reduceSub, Array.replicate_succ, Array.replicate_zero, List.push_toArray, List.append_toArray, List.nil_append, List.cons_append]
  gi_wp2
  gi_loopw [5, 6] (fun l i wr => ∃ k : Nat, i = .int .i64 (k : Int) ∧ k ≤ wid n ∧ wr.ownsRow w.heap.size 32 2 l (runsD v k).length (flatR (runsD v k)) ∧ Below w.heap.size w wr) (fun _ i _ => 64 - (intOf i).toNat)
  case atStart => exact ⟨0, rfl, Nat.zero_le _, World.ownsRow_nil _ _ _ _, Below.refl _ _⟩
  case round =>
    obtain ⟨k, rfl, hk, hrow, hbel⟩ := hrel
    have wl := WL.out
    by_cases hlt : (k : Int) < M
    · have hkw := (HMW.out k).1 hlt
      have BT := Lib.hid (bit_any (v : Int) (k : Int) wr (Int.natCast_nonneg _) (by have := HV.out; omega) (by omega) (by omega))
      have w9 : IntKind.i64.wrap ((k : Int) + 1) = ((k + 1 : Nat) : Int) := by rw [IntWalk.i64_in _ (by omega)]; omega
      have hbit : bitI (v : Int) (k : Int) = ((v / 2 ^ k % 2 : Nat) : Int) := by unfold bitI; simp
      by_cases hb : v.testBit k = true
      · have hb1 : v / 2 ^ k % 2 = 1 := by rw [Nat.testBit_eq_decide_div_mod_eq] at hb; simpa using hb
        rw [hbit, hb1] at BT
        have hD : runsD v (k + 1) = addOne (runsD v k) k := by show (if v.testBit k then _ else _) = _; rw [if_pos hb]
        have HD := Lib.hid hD
        have LN := row_len hrow
        have hin := runsD_in v k
        obtain ⟨L, hL⟩ : ∃ L, runsD v k = L := ⟨_, rfl⟩
        rw [hL] at hrow LN hin
        have HL := Lib.hid hL
        clear hb hb1 hbit hD hL
        gi_wp2_with fail
        refine ⟨trivial, ?_⟩
        refine (callsIn_wide.2 BT.out).mono ?_
        rintro e w1 ⟨rfl, rfl⟩
        rcases List.eq_nil_or_concat L with rfl | ⟨K, ⟨a, m⟩, rfl⟩
        · have hD2 : runsD v (k + 1) = [(k, 1)] := by rw [HD.out, HL.out]; rfl
          have HD2 := Lib.hid hD2
          have LN' : ∀ V' : World, Sem.run Tryd.prog (Builtin.len_ #[30] 3 #[u5]) V' = .ok (.int .i64 0) V' := LN
          have hrow0 : wr.ownsRow w.heap.size 32 2 u5 0 [] := hrow
          clear hD2 LN hrow
          gi_wp2_with fail
          gi_quiet (fail)
          gi_wp2_with (gi_at_builtin; refine wpListIn_append_own _ rfl _ _ 30 rfl w.heap.size 32 i0 (.agg #[.int .i64 0, .int .i64 0]) 2 16 Tryd.underlying30 hi hz0 hz1 hz2 rfl (by decide) _ _ _ rfl (World.ownsRow.alloc (show World.ownsRow (World.drewN wr nq) _ _ _ _ _ _ from hrow0) _) ⟨wr.heap.size, 0, none⟩ 1 1 [.int .i64 (k : Int), .int .i64 1] rfl rfl (cell_two_new _ _ _ _) (by simp [Value.oneCell']) (by unfold maxLen; omega) (by omega) (by have := hbel.size; simp; omega) ?_; intro v' w3 hown' hgrow _; obtain ⟨g', cap', rfl⟩ := ownsRow_succ hown')
          have hbs : ∀ j, u5.ownBlock = some j → w.heap.size ≤ j := fun j ej => (hrow0.lt j ej).1
          have hB3 : Below w.heap.size w w3 := ((below_drewN hbel nq).alloc (below_drewN hbel nq).size _).grown hgrow (by have := hbel.size; simp; omega) (fun j ej => hbs j ej)
          exact ⟨⟨k + 1, rfl, hkw, by rw [HD2.out]; exact hown', hB3⟩, by simp [intOf]; omega⟩
        · rw [List.concat_eq_append] at hrow LN hin HL
          have ham := hin (a, m) (by simp)
          simp only [List.length_append, List.length_cons, List.length_nil, Nat.zero_add] at LN hrow
          obtain ⟨g, cap, rfl⟩ := ownsRow_succ hrow
          have x1 : wr.cell? ⟨g, K.length * 2, none⟩ = some (.int .i64 (a : Int)) := by
            rw [hrow.cellAt _ (by omega), flatR_snoc, List.getElem?_append_right (by rw [flatR_len]; exact Nat.le_refl _), flatR_len]; simp
          have x2 : wr.cell? ⟨g, K.length * 2 + 1, none⟩ = some (.int .i64 (m : Int)) := by
            rw [hrow.cellAt _ (by omega), flatR_snoc, List.getElem?_append_right (by rw [flatR_len]; omega), flatR_len]; simp
          have f2 := hrow.frozenAt (K.length * 2 + 1)
          have hKl : K.length + 1 ≤ 65 := by
            have h1 := runsD_len v k
            rw [HL.out, List.length_append] at h1; simp at h1; omega
          have hbase := (hrow.lt g rfl).1
          have w5 : IntKind.i64.wrap (((K.length + 1 : Nat) : Int) - 1) = (K.length : Int) := by rw [IntWalk.i64_in _ (by omega)]; omega
          have w6 : IntKind.i64.wrap ((a : Int) + (m : Int)) = ((a + m : Nat) : Int) := by rw [IntWalk.i64_in _ (by omega)]; omega
          have w7 : IntKind.i64.wrap ((m : Int) + 1) = ((m + 1 : Nat) : Int) := by rw [IntWalk.i64_in _ (by omega)]; omega
          by_cases he : a + m = k
          · have he' : ((a : Int) + (m : Int) == (k : Int)) = true := by simp; omega
            gi_wp2_with fail
            gi_quiet (fail)
            gi_wp2_with fail
            have st := World.ownsRow.stored (show World.ownsRow (World.drewN wr nq) _ _ _ _ _ _ from hrow) (K.length * 2 + 1) (.int .i64 ((m + 1 : Nat) : Int))
            rw [flatR_set] at st
            have hD2 : runsD v (k + 1) = K ++ [(a, m + 1)] := by rw [HD.out, HL.out, addOne_snoc, if_pos he]
            exact ⟨⟨k + 1, rfl, hkw, by rw [hD2, List.length_append]; exact st.1, (below_drewN hbel nq).setCell (p := ⟨g, K.length * 2 + 1, none⟩) hbase _⟩, by simp [intOf]; omega⟩
          · have he' : ((a : Int) + (m : Int) == (k : Int)) = false := by simp; omega
            have hD2 : runsD v (k + 1) = (K ++ [(a, m)]) ++ [(k, 1)] := by rw [HD.out, HL.out, addOne_snoc, if_neg he]; simp
            have HD2 := Lib.hid hD2
            clear hD2
            gi_wp2_with fail
            gi_quiet (fail)
            gi_wp2_with (gi_at_builtin; refine wpListIn_append_own _ rfl _ _ 30 rfl w.heap.size 32 i0 (.agg #[.int .i64 0, .int .i64 0]) 2 16 Tryd.underlying30 hi hz0 hz1 hz2 rfl (by decide) _ _ _ rfl (World.ownsRow.alloc (show World.ownsRow (World.drewN wr nq) _ _ _ _ _ _ from hrow) _) ⟨wr.heap.size, 0, none⟩ 1 1 [.int .i64 (k : Int), .int .i64 1] rfl rfl (cell_two_new _ _ _ _) (by simp [Value.oneCell']) (by unfold maxLen; omega) (by omega) (by have := hbel.size; simp; omega) ?_; intro v' w3 hown' hgrow _; obtain ⟨g', cap', rfl⟩ := ownsRow_succ hown')
            have hB3 : Below w.heap.size w w3 := ((below_drewN hbel nq).alloc (below_drewN hbel nq).size _).grown hgrow (by have := hbel.size; simp; omega) (fun j ej => (hrow.lt j ej).1)
            have ef : flatR (K ++ [(a, m)]) ++ [.int .i64 (k : Int), .int .i64 1] = flatR ((K ++ [(a, m)]) ++ [(k, 1)]) := (flatR_snoc (K ++ [(a, m)]) (k, 1)).symm
            rw [ef] at hown'
            exact ⟨⟨k + 1, rfl, hkw, by rw [HD2.out, List.length_append, List.length_append]; exact hown', hB3⟩, by simp [intOf]; omega⟩
      · have hb0 : v / 2 ^ k % 2 = 0 := by
          rw [Nat.testBit_eq_decide_div_mod_eq] at hb
          have := Nat.mod_lt (v / 2 ^ k) (show 0 < 2 by decide)
          simp at hb; omega
        rw [hbit, hb0] at BT
        have HD := Lib.hid (show runsD v (k + 1) = runsD v k by show (if v.testBit k then _ else _) = _; rw [if_neg hb])
        clear hb hb0 hbit
        gi_wp2_with fail
        refine ⟨trivial, ?_⟩
        refine (callsIn_wide.2 BT.out).mono ?_
        rintro e w1 ⟨rfl, rfl⟩
        gi_wp2_with fail
        exact ⟨⟨k + 1, rfl, hkw, by rw [HD.out]; exact hrow, hbel⟩, by simp [intOf]; omega⟩
    · have hkw : k = wid n := by have := HMW.out k; omega
      have HR := Lib.hid hrow
      clear hrow
      subst hkw
      gi_wp2_with fail
      exact ⟨rfl, u5, results_tmp (t := 4) rfl _ _ _, u5, rfl, HR.out, hbel⟩
end Go.Proofs.YtfpaambihjijoaaDoor
