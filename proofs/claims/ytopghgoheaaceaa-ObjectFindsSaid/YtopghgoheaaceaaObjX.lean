/-
  slices.Values at texts, the program's Undefined: what each call returns. Conditions: how the object lies, how many symbols there are, the names' sizes.
-/
import Derived.Test.YtopghgoheaaceaaObjW
import Derived.Test.YtopghgoheaaceaaObjClone
namespace Go.Proofs.Ytopghgoheaaceaa
open Go.RowKit Go.Shelf
set_option linter.unusedVariables false
set_option linter.unusedSimpArgs false
attribute [local go_sem] Oper.semAt_some

set_option maxRecDepth 100000 in
set_option maxHeartbeats 2000000 in
theorem valIt_tells (n B1 : Nat) (w : World) (v : Value) (L : List BA) (α : Type) (f : α → BA) (M : List α) (hM : M.map f = L) (hL : StrO w v L) (h1 : w.cell? ⟨B1, 0, none⟩ = some v) (hB1 : B1 < w.heap.size) (hlen : L.length ≤ 281474976710656) :
    SeqStopsK Fence.wide n Try.prog 79 #[.pointer (some ⟨B1, 0, none⟩)] (encN f) (Below w.heap.size) (fun xs => xs = M) (fun pre => pre <+: M) M.length w :=
  fun l J Jx W hW hJ hJx hY h0 => by
  have hMl : M.length = L.length := by have := congrArg List.length hM; simpa using this
  have HM := Lib.hid hM
  clear hM
  have HL := Lib.hid hL
  obtain ⟨al, cl, rfl⟩ := hL.slice
  clear hL
  have HW := Lib.hid hW
  have e1 := ((bcell hW).1 B1 0 hB1).trans h1
  have HY := Lib.hid hY
  have H0 := Lib.hid h0
  clear hJ hJx hY hW h1 h0
  simp only [List.singleton_append, List.append_toArray, List.cons_append, List.nil_append]
  refine callsIn_of_wp Try.func79 rfl trivial ?_ rfl
  simp only [Try.ntmps79, List.size_toArray, List.length_cons, List.length_nil, Nat.reduceAdd, Nat.reduceSub, Array.replicate_succ, Array.replicate_zero, List.push_toArray, List.append_toArray, List.nil_append, List.cons_append]
  gi_wp2_with fail
  gi_loopw [7] (fun p wr => ∃ k : Nat, p = .int .i64 (k : Int) ∧ k ≤ L.length ∧ Hid (J (M.take k) wr) ∧ Hid (Below w.heap.size w wr))
    (fun p _ => L.length - (intOf p).toNat)
  case atStart => exact ⟨0, rfl, Nat.zero_le _, Lib.hid H0.out, HW⟩
  case round =>
    obtain ⟨k, rfl, hk, hJs, hbr⟩ := hrel
    clear e1
    by_cases hlt : k < L.length
    · have hlti : (k : Int) < (L.length : Int) := by omega
      obtain ⟨g, off, cap, x, hx, hv, hg, x0⟩ := (HL.out.keep hbr.out).at hlt
      cases hv
      have w9 : IntKind.i64.wrap ((k : Int) + 1) = ((k + 1 : Nat) : Int) := by rw [IntWalk.i64_in _ (by omega)]; omega
      obtain ⟨z, hz⟩ : ∃ z, M[k]? = some z := ⟨_, List.getElem?_eq_getElem (by omega)⟩
      have hfz : f z = x := by
        have h1 := congrArg (fun l => l[k]?) HM.out
        simp only [List.getElem?_map, hx, hz, Option.map_some, Option.some.injEq] at h1
        exact h1
      have HT := Lib.hid (show M.take (k + 1) = M.take k ++ [z] by
        have := List.take_add_one (l := M) (i := k); rw [hz] at this; exact this)
      have hlm : (M.take k).length < M.length := by rw [List.length_take]; omega
      obtain ⟨fn, tmps, assign, body, hy1, hR⟩ := yield_any (F := Fence.wide) rfl (n - 1) (HY.out (M.take k) z wr hJs.out hlm)
      dsimp only [encN] at hy1
      rw [hfz] at hy1
      have HR := Lib.hid hR
      clear hx hz hfz hR
      gi_wp2_with fail
      refine ⟨fun h => absurd h (by decide), ?_⟩
      refine HR.out.mono ?_
      rintro e W3 (⟨rfl, hJ3, hk3⟩ | ⟨rfl, hJx3⟩)
      · have HK3 := Lib.hid (hbr.out.trans hk3)
        have HJ3 := Lib.hid hJ3
        clear hk3 hJ3
        gi_wp2_with fail
        go_roundw
        case rel => exact ⟨k + 1, by first | rfl | rw [← w9], by omega, Lib.hid (by rw [HT.out]; exact HJ3.out), HK3⟩
        case measure => simp [intOf]; omega
      · have HJX := Lib.hid hJx3
        clear hJx3
        gi_wp2_with fail
        refine bodyPost_ret (results_none rfl _ _ _) rfl ?_
        exact ⟨⟨_, rfl⟩, .inr ⟨_, by rw [← HT.out]; exact List.take_prefix _ _, HJX.out⟩⟩
    · have HE := Lib.hid (show J M wr by
        have := hJs.out
        rw [List.take_of_length_le (by omega)] at this
        exact this)
      have hge : ¬ (k : Int) < (L.length : Int) := by omega
      gi_wp2_with fail
      go_end0
      exact ⟨⟨_, rfl⟩, .inl HE.out⟩
theorem values_any (v : Value) (D : List BA) (w : World) (hv : StrO w v D) (hlen : D.length ≤ 281474976710656) :
    Calls Try.prog 58 #[v] w fun e w' => (∃ u, e = .returned u ∧ NamesIt w' u D ∧ ∃ p, u = .func (.func 79) #[] #[.pointer p]) ∧ Below w.heap.size w w' := by
  have HV := Lib.hid hv
  obtain ⟨a, c, rfl⟩ := hv.slice
  clear hv
  have IT := Lib.hid (fun n B1 W v L α f M hM => valIt_tells n B1 W v L α f M hM)
  go_enter Try.func58, Try.ntmps58
  go_wp2_with fail
  go_ret
  have hb := below1 w (.cells #[.slice a D.length c] 46)
  exact ⟨⟨_, rfl, ⟨_, _, rfl, enters_of Try.func79 (by kernel_rfl) rfl, fun α f M hM n => IT.out n w.heap.size _ _ D α f M hM (HV.out.keep hb) (cells_new w _ _ 0 _ rfl) (by simp) hlen⟩, ⟨_, rfl⟩⟩, hb⟩
set_option maxRecDepth 100000 in
set_option maxHeartbeats 8000000 in
theorem und_any (o : Obj') (w : World) (ho : ObjO w o) (hl : o.syms.length ≤ 300) (hs : ∀ y ∈ o.syms, y.name.size ≤ 281474976710656) :
    Calls Try.prog 31 #[obV o] w fun e w' => (∃ u, e = .returned u ∧ NamesIt w' u (undL o.syms) ∧ ∃ p, u = .func (.func 79) #[] #[.pointer p]) ∧ Below w.heap.size w w' := by
  have HO := Lib.hid ho
  have CL := Lib.hid (fun s W h => clone_any s W h)
  have VA := Lib.hid (fun v D W h1 h2 => values_any v D W h1 h2)
  obtain ⟨sv, yv, secs, syms⟩ := o
  obtain ⟨sa, sc, h1⟩ := ho.1.slice
  obtain ⟨ya, yc, h2⟩ := ho.2.slice
  simp only at h1 h2 hl hs
  subst h1 h2
  clear ho
  have HS := Lib.hid hs
  clear hs
  unfold obV
  simp only
  obtain ⟨i0, hi, hiz0, hiz1, hiz2⟩ := info_parts infoStr
  obtain ⟨W1, hW1⟩ : ∃ W1, w.alloc (.cells #[.slice sa secs.length sc, .slice ya syms.length yc] 25) = W1 := ⟨_, rfl⟩
  have HB1 : Hid (Below w.heap.size w W1) := Lib.hid (by rw [← hW1]; exact below1 w _)
  have hz1 : w.heap.size < W1.heap.size := by rw [← hW1]; simp
  have c1 : W1.cell? ⟨w.heap.size, 1, none⟩ = some (.slice ya syms.length yc) := by rw [← hW1]; exact cells_new w _ _ 1 _ rfl
  go_enter Try.func31, Try.ntmps31
  go_wp2_with fail
  clear hW1
  go_loopw [9, 3] (fun iv lv wr => ∃ k : Nat, iv = .int .i64 (k : Int) ∧ Hid (UnI W1.heap.size W1 syms k lv wr)) (fun iv lv _ => syms.length - (intOf iv).toNat)
  case atStart => exact ⟨0, rfl, Lib.hid ⟨Nat.zero_le _, World.ownsRow_nil _ _ _ _, Below.refl _ _⟩⟩
  case round =>
    obtain ⟨k, rfl, hS⟩ := hrel
    have hrow := hS.out.row
    obtain ⟨vb, vc, rfl⟩ := own_sliceN hrow
    have hkl := hS.out.le
    have HBR := Lib.hid (Below.thn HB1.out HB1.out.size hS.out.bel)
    by_cases hlt : (k : Int) < (syms.length : Int)
    · have hlt' : k < syms.length := by omega
      obtain ⟨g, off, cap, x, hx, hv, hg, x0, x1, x2, x3⟩ := (HO.out.keep HBR.out).2.at hlt'
      cases hv
      have w9 : IntKind.i64.wrap ((k : Int) + 1) = ((k + 1 : Nat) : Int) := by rw [IntWalk.i64_in _ (by omega)]; omega
      have hSY := undL_snoc (syms.take k) x
      rw [show syms.take k ++ [x] = syms.take (k + 1) by rw [List.take_add_one, hx]; rfl] at hSY
      have hnl : (undL (syms.take k)).length ≤ k := Nat.le_trans (undL_len _) (by rw [List.length_take]; omega)
      have CX := Lib.hid (fun W => CL.out x.name W (HS.out x (List.mem_of_getElem? hx)))
      have HSY := Lib.hid hSY
      have HROW := Lib.hid hrow
      have hsz := hS.out.bel.size
      obtain ⟨xs, xk, xv, xg⟩ := x
      simp only at x0 x1 x2 x3 HSY CX
      clear hSY hrow hx
      have HBX := Lib.hid (hS.out.bel.alloc hsz (.cells #[.string xs, .int .i64 xk, .int .i64 xv, .bool xg] 36))
      have HRX := Lib.hid (HROW.out.alloc (.cells #[.string xs, .int .i64 xk, .int .i64 xv, .bool xg] 36))
      obtain ⟨D, hD⟩ : ∃ D, undL (syms.take k) = D := ⟨_, rfl⟩
      rw [hD] at HSY HROW HRX hnl ⊢
      cases h2 : (xk == -1) with
      | true =>
        rw [h2, if_pos rfl] at HSY
        go_wp2_with fail
        refine (CX.out _).mono ?_
        rintro e w2 ⟨rfl, hb2⟩
        have hrow2 : w2.ownsRow W1.heap.size 9 1 (.slice vb D.length vc) D.length (D.map Value.string) := own_keep HRX.out hb2
        have HB2 := Lib.hid (Below.thn HBX.out HBX.out.size hb2)
        have hsz2 := HB2.out.size
        clear hb2
        go_wp2_with (at_builtin; go_loud (refine wpList_append_own _ rfl _ _ 46 rfl W1.heap.size 9 i0 (.string ⟨#[]⟩) 1 16 Try.underlying46 hi hiz0 hiz1 hiz2 rfl (by decide) _ _ _ rfl (hrow2.alloc _) ⟨w2.heap.size, 0, none⟩ 1 1 [.string xs] rfl rfl (news_one _ _ _) (by simp [Value.oneCell']) (by unfold maxLen; omega) (by omega) (by simp; omega) ?_; intro v' w3 hown3 hgrow3 _; obtain ⟨ub, uc, rfl⟩ := own_sliceN hown3))
        go_roundw
        case rel =>
          refine ⟨k + 1, by first | rfl | rw [← w9], Lib.hid ⟨by omega, ?_, ?_⟩⟩
          · rw [HSY.out, List.length_append, List.map_append]; exact hown3
          · exact (HB2.out.alloc hsz2 _).grown hgrow3 (by simp; omega) (fun g hg => (hrow2.lt g hg).1)
        case measure => simp [intOf]; omega
      | false =>
        rw [h2, if_neg (by decide), List.append_nil] at HSY
        go_wp2_with fail
        go_roundw
        case rel => exact ⟨k + 1, by first | rfl | rw [← w9], Lib.hid ⟨by omega, by rw [HSY.out]; exact HRX.out, HBX.out⟩⟩
        case measure => simp [intOf]; omega
    · have hkl2 : k = syms.length := by omega
      subst hkl2
      have HROW := hrow
      rw [List.take_length] at HROW ⊢
      clear hrow
      have hul := undL_len syms
      have VX := Lib.hid (VA.out (.slice vb (undL syms).length vc) (undL syms) wr (str_of_own HROW) (by omega))
      clear HROW hul
      go_wp2_with fail
      refine VX.out.mono ?_
      rintro e w2 ⟨⟨u, rfl, hu⟩, hb2⟩
      have HU := Lib.hid hu
      have HB2 := Lib.hid (Below.thn HBR.out HBR.out.size hb2)
      clear hu hb2
      go_wp2_with fail
      go_ret
      exact ⟨⟨u, rfl, HU.out⟩, HB2.out⟩
end Go.Proofs.Ytopghgoheaaceaa
