/-
  The iterators over the names of a list: what each tells to any body of a loop that leaves what lay there as it was. Conditions: how the list lies.
-/
import Derived.Test.YtopghgoheaaceaaObjD
import Derived.RangeFuncNested
import Derived.RangeFuncBound
import Derived.RangeFuncCalls
import Derived.RangeFuncLeaves
import Derived.RangeFuncWrites
import Derived.Shelf.Abstract
import Derived.Shelf.RegionOpen
import Derived.OwnWalkIn
import Derived.TacticsInMore
import Derived.LoopNIn
import Derived.LoopIn
namespace Go.Proofs.Ytopghgoheaaceaa
open Go.RowKit Go.Shelf
set_option linter.unusedVariables false
set_option linter.unusedSimpArgs false
attribute [local go_sem] Oper.semAt_some

theorem room_of_none {F : Fence} (hd : F.depth = none) (k : Nat) : F.room k := fun d h => by rw [hd] at h; cases h
theorem round_any {F : Fence} (hd : F.depth = none) {m m' : Nat} {P : Program} {l : Nat} {f : FuncId} {tmps : Array Value} {assign body : Code} {w : World} {R : Ending → World → Prop}
    (h : RoundIn F m P l f tmps assign body w R) : RoundIn F m' P l f tmps assign body w R := ⟨h.1, fun c cs _ => h.2 c cs (room_of_none hd _)⟩
theorem yield_any {F : Fence} (hd : F.depth = none) {m : Nat} (m' : Nat) {P : Program} {l : Nat} {args : Array Value} {W : World} {R : Ending → World → Prop} (h : YieldAt F m P l args W R) : YieldAt F m' P l args W R := by
  obtain ⟨fn, tmps, assign, body, hy, hR⟩ := h
  exact ⟨fn, tmps, assign, body, hy, round_any hd hR⟩
theorem below_grown {W W' : World} (h : Below W.heap.size W W') : W.grownBy W' none := ⟨h.os, h.tape, h.output, h.size, fun k hk _ => h.block k hk⟩
def encN {α : Type} (f : α → BA) (x : α) : Array Value := #[.string (f x)]
/-- what goes through the names L, wherever it lies above w -/
def NamesIt (w : World) (v : Value) (L : List BA) : Prop := ∃ g lb, v = .func (.func g) #[] lb ∧ (∀ args w, (callFunc g args).run Try.prog w = .ok (.enter g args) w) ∧
  ∀ (α : Type) (f : α → BA) (M : List α), M.map f = L → ∀ n, SeqStopsK Fence.wide n Try.prog g lb (encN f) (Below w.heap.size) (fun xs => xs = M) (fun pre => pre <+: M) M.length w

theorem secOf_any (s : Sc) (w : World) : Calls Try.prog 65 #[scV s] w fun e w' => e = .returned (.string s.name) ∧ Below w.heap.size w w' := by
  unfold scV
  go_enter Try.func65, Try.ntmps65
  go_wp2_with fail
  go_ret
  exact ⟨rfl, below1 w _⟩
set_option maxRecDepth 100000 in
set_option maxHeartbeats 2000000 in
theorem secIt_tells (n B1 B2 : Nat) (w : World) (v : Value) (L : List Sc) (α : Type) (f : α → BA) (M : List α) (hM : M.map f = L.map (·.name)) (hL : SecsO w v L) (h1 : w.cell? ⟨B1, 0, none⟩ = some v) (h2 : w.cell? ⟨B2, 0, none⟩ = some (.func (.func 65) #[] #[])) (hB1 : B1 < w.heap.size) (hB2 : B2 < w.heap.size) :
    SeqStopsK Fence.wide n Try.prog 83 #[.pointer (some ⟨B1, 0, none⟩), .pointer (some ⟨B2, 0, none⟩)] (encN f) (Below w.heap.size) (fun xs => xs = M) (fun pre => pre <+: M) M.length w :=
  fun l J Jx W hW hJ hJx hY h0 => by
  have hMl : M.length = L.length := by have := congrArg List.length hM; simpa using this
  have HM := Lib.hid hM
  clear hM
  have HL := Lib.hid hL
  have hlen := hL.len
  unfold maxLen at hlen
  obtain ⟨al, cl, rfl⟩ := hL.slice
  clear hL
  have NA := Lib.hid (fun s V => secOf_any s V)
  have HW := Lib.hid hW
  have e1 := ((bcell hW).1 B1 0 hB1).trans h1
  have H2 := Lib.hid (fun V (hb : Below w.heap.size w V) => ((bcell hb).1 B2 0 hB2).trans h2)
  have HY := Lib.hid hY
  have HJ := Lib.hid hJ
  have H0 := Lib.hid h0
  clear hJ hJx hY hW h1 h2 h0
  simp only [List.singleton_append, List.append_toArray, List.cons_append, List.nil_append]
  refine callsIn_of_wp Try.func83 rfl trivial ?_ rfl
  simp only [Try.ntmps83, List.size_toArray, List.length_cons, List.length_nil, Nat.reduceAdd, Nat.reduceSub, Array.replicate_succ, Array.replicate_zero, List.push_toArray, List.append_toArray, List.nil_append, List.cons_append]
  gi_wp2_with fail
  gi_loopw [8] (fun p wr => ∃ k : Nat, p = .int .i64 (k : Int) ∧ k ≤ L.length ∧ Hid (J (M.take k) wr) ∧ Hid (Below w.heap.size w wr))
    (fun p _ => L.length - (intOf p).toNat)
  case atStart => exact ⟨0, rfl, Nat.zero_le _, Lib.hid H0.out, HW⟩
  case round =>
    obtain ⟨k, rfl, hk, hJs, hbr⟩ := hrel
    clear e1
    by_cases hlt : k < L.length
    · have hlti : (k : Int) < (L.length : Int) := by omega
      obtain ⟨g, off, cap, x, hx, hv, hg, hin, x0, x1, x2, x3, x4, x5⟩ := (HL.out.keep hbr.out).at hlt
      cases hv
      have e2 := H2.out _ hbr.out
      have NX := Lib.hid (NA.out x)
      have w9 : IntKind.i64.wrap ((k : Int) + 1) = ((k + 1 : Nat) : Int) := by rw [IntWalk.i64_in _ (by omega)]; omega
      obtain ⟨z, hz⟩ : ∃ z, M[k]? = some z := ⟨_, List.getElem?_eq_getElem (by omega)⟩
      have hfz : f z = x.name := by
        have h1 := congrArg (fun l => l[k]?) HM.out
        simp only [List.getElem?_map, hx, hz, Option.map_some, Option.some.injEq] at h1
        exact h1
      have HT := Lib.hid (show M.take (k + 1) = M.take k ++ [z] by
        have := List.take_add_one (l := M) (i := k); rw [hz] at this; exact this)
      have hlm : (M.take k).length < M.length := by rw [List.length_take]; omega
      unfold scV at NX
      obtain ⟨name, kind, align, size, dv, rv, data, rel⟩ := x
      obtain ⟨ad, cd, hd⟩ := hin.1.slice
      obtain ⟨ar, cr, hr⟩ := hin.2.slice
      simp only at hd hr
      subst hd hr
      clear hin
      simp only at x0 x1 x2 x3 x4 x5 NX hfz
      have hne2 : B2 ≠ wr.heap.size := by have := hbr.out.size; omega
      clear hx hne2 hz
      have hB2r : B2 < wr.heap.size := by have := hbr.out.size; omega
      gi_wp2_with fail
      refine ⟨trivial, fun h => absurd h (by decide), ?_⟩
      refine (callsIn_wide.2 (NX.out _)).mono ?_
      rintro e W2 ⟨rfl, hb2⟩
      have hb3 := Below.thn (below1 wr _) (by simp) hb2
      have HB2 := Lib.hid (Below.thn hbr.out hbr.out.size hb3)
      have hJ2 : J (M.take k) W2 := HJ.out _ wr W2 none hJs.out (below_grown hb3) (fun r e => by cases e)
      clear hb2 hb3
      obtain ⟨fn, tmps, assign, body, hy1, hR⟩ := yield_any (F := Fence.wide) rfl (n - 1) (HY.out (M.take k) z W2 hJ2 hlm)
      dsimp only [encN] at hy1
      rw [hfz] at hy1
      have HJ2 := Lib.hid hJ2
      clear hJ2
      gi_wp2_with fail
      refine ⟨fun h => absurd h (by decide), ?_⟩
      refine hR.mono ?_
      rintro e W3 (⟨rfl, hJ3, hk3⟩ | ⟨rfl, hJx3⟩)
      · have HK3 := Lib.hid (HB2.out.trans hk3)
        have HJ3 := Lib.hid hJ3
        clear hk3 hJ3
        gi_wp2_with fail
        go_roundw
        case rel => exact ⟨k + 1, by first | rfl | rw [← w9], by omega, Lib.hid (by rw [HT.out]; exact HJ3.out), HK3⟩
        case measure => simp [intOf]; omega
      · have HJX := Lib.hid hJx3
        clear hJx3
        gi_wp2_with fail
        refine bodyPost_ret (results_none rfl _ _ _) rfl ?_
        exact ⟨⟨_, rfl⟩, .inr ⟨_, by rw [← HT.out]; exact List.take_prefix _ _, HJX.out⟩⟩
    · have HE := Lib.hid (show J M wr by
        have := hJs.out
        rw [List.take_of_length_le (by omega)] at this
        exact this)
      have hge : ¬ (k : Int) < (L.length : Int) := by omega
      gi_wp2_with fail
      go_end0
      exact ⟨⟨_, rfl⟩, .inl HE.out⟩
theorem secNames_any (o : Obj') (w : World) (ho : ObjO w o) :
    Calls Try.prog 39 #[obV o] w fun e w' => (∃ v, e = .returned v ∧ NamesIt w' v (o.secs.map (·.name))) ∧ Below w.heap.size w w' := by
  have HO := Lib.hid ho.1
  obtain ⟨sv, yv, secs, syms⟩ := o
  unfold obV
  simp only
  have hs1 := ho.1.slice
  simp only at hs1
  obtain ⟨sa, sc, rfl⟩ := hs1
  have IT := Lib.hid (fun n B1 B2 W v L α f M hM => secIt_tells n B1 B2 W v L α f M hM)
  clear ho
  go_enter Try.func39, Try.ntmps39
  go_wp2_with fail
  refine (show Calls Try.prog 64 #[.slice sa secs.length sc, .func (.func 65) #[] #[]] (w.alloc (.cells #[.slice sa secs.length sc, yv] 25)) (fun e w' => e = .returned (.func (.func 83) #[] #[.pointer (some ⟨w.heap.size + 1, 0, none⟩), .pointer (some ⟨w.heap.size + 2, 0, none⟩)]) ∧ w' = (((w.alloc (.cells #[.slice sa secs.length sc, yv] 25)).alloc (.cells #[.slice sa secs.length sc] 22)).alloc (.cells #[.func (.func 65) #[] #[]] 84))) from ?hm).mono ?_
  case hm =>
    clear HO IT
    go_enter Try.func64, Try.ntmps64
    go_wp2_with fail
    go_ret
    exact ⟨by simp, rfl⟩
  rintro e w2 ⟨rfl, hw2⟩
  have hb2 : Below w.heap.size w w2 := by rw [hw2]; exact (((Below.refl _ w).alloc (Nat.le_refl _) _).alloc (by simp) _).alloc (by simp; omega) _
  have hz2 : w2.heap.size = w.heap.size + 3 := by rw [hw2]; simp
  have k1 : w2.cell? ⟨w.heap.size + 1, 0, none⟩ = some (.slice sa secs.length sc) := by
    rw [hw2]
    have := cells_new (w.alloc (.cells #[.slice sa secs.length sc, yv] 25)) #[.slice sa secs.length sc] 22 0 _ rfl
    rw [World.size_alloc] at this
    exact ((bcell (below1 _ _)).1 _ _ (by simp)).trans this
  have k2 : w2.cell? ⟨w.heap.size + 2, 0, none⟩ = some (.func (.func 65) #[] #[]) := by
    rw [hw2]
    have := cells_new ((w.alloc (.cells #[.slice sa secs.length sc, yv] 25)).alloc (.cells #[.slice sa secs.length sc] 22)) #[.func (.func 65) #[] #[]] 84 0 _ rfl
    rw [World.size_alloc, World.size_alloc] at this
    exact this
  have HF := Lib.hid (show (∃ v, Ending.returned (.func (.func 83) #[] #[.pointer (some ⟨w.heap.size + 1, 0, none⟩), .pointer (some ⟨w.heap.size + 2, 0, none⟩)]) = Ending.returned v ∧ NamesIt w2 v (secs.map (·.name))) ∧ Below w.heap.size w w2 from
    ⟨⟨_, rfl, _, _, rfl, enters_of Try.func83 (by kernel_rfl) rfl, fun α f M hM n => IT.out n _ _ w2 _ _ α f M hM (HO.out.keep hb2) k1 k2 (by omega) (by omega)⟩, hb2⟩)
  clear hw2 hb2 hz2 k1 k2 HO IT
  go_wp2_with fail
  go_ret
  exact HF.out

theorem symOf_any (s : Sy) (w : World) : Calls Try.prog 67 #[syV s] w fun e w' => e = .returned (.string s.name) ∧ Below w.heap.size w w' := by
  unfold syV
  go_enter Try.func67, Try.ntmps67
  go_wp2_with fail
  go_ret
  exact ⟨rfl, below1 w _⟩
set_option maxRecDepth 100000 in
set_option maxHeartbeats 2000000 in
theorem symIt_tells (n B1 B2 : Nat) (w : World) (v : Value) (L : List Sy) (α : Type) (f : α → BA) (M : List α) (hM : M.map f = L.map (·.name)) (hL : SymsO w v L) (h1 : w.cell? ⟨B1, 0, none⟩ = some v) (h2 : w.cell? ⟨B2, 0, none⟩ = some (.func (.func 67) #[] #[])) (hB1 : B1 < w.heap.size) (hB2 : B2 < w.heap.size) :
    SeqStopsK Fence.wide n Try.prog 84 #[.pointer (some ⟨B1, 0, none⟩), .pointer (some ⟨B2, 0, none⟩)] (encN f) (Below w.heap.size) (fun xs => xs = M) (fun pre => pre <+: M) M.length w :=
  fun l J Jx W hW hJ hJx hY h0 => by
  have hMl : M.length = L.length := by have := congrArg List.length hM; simpa using this
  have HM := Lib.hid hM
  clear hM
  have HL := Lib.hid hL
  have hlen := hL.len
  unfold maxLen at hlen
  obtain ⟨al, cl, rfl⟩ := hL.slice
  clear hL
  have NA := Lib.hid (fun s V => symOf_any s V)
  have HW := Lib.hid hW
  have e1 := ((bcell hW).1 B1 0 hB1).trans h1
  have H2 := Lib.hid (fun V (hb : Below w.heap.size w V) => ((bcell hb).1 B2 0 hB2).trans h2)
  have HY := Lib.hid hY
  have HJ := Lib.hid hJ
  have H0 := Lib.hid h0
  clear hJ hJx hY hW h1 h2 h0
  simp only [List.singleton_append, List.append_toArray, List.cons_append, List.nil_append]
  refine callsIn_of_wp Try.func84 rfl trivial ?_ rfl
  simp only [Try.ntmps84, List.size_toArray, List.length_cons, List.length_nil, Nat.reduceAdd, Nat.reduceSub, Array.replicate_succ, Array.replicate_zero, List.push_toArray, List.append_toArray, List.nil_append, List.cons_append]
  gi_wp2_with fail
  gi_loopw [8] (fun p wr => ∃ k : Nat, p = .int .i64 (k : Int) ∧ k ≤ L.length ∧ Hid (J (M.take k) wr) ∧ Hid (Below w.heap.size w wr))
    (fun p _ => L.length - (intOf p).toNat)
  case atStart => exact ⟨0, rfl, Nat.zero_le _, Lib.hid H0.out, HW⟩
  case round =>
    obtain ⟨k, rfl, hk, hJs, hbr⟩ := hrel
    clear e1
    by_cases hlt : k < L.length
    · have hlti : (k : Int) < (L.length : Int) := by omega
      obtain ⟨g, off, cap, x, hx, hv, hg, x0, x1, x2, x3⟩ := (HL.out.keep hbr.out).at hlt
      cases hv
      have e2 := H2.out _ hbr.out
      have NX := Lib.hid (NA.out x)
      have w9 : IntKind.i64.wrap ((k : Int) + 1) = ((k + 1 : Nat) : Int) := by rw [IntWalk.i64_in _ (by omega)]; omega
      obtain ⟨z, hz⟩ : ∃ z, M[k]? = some z := ⟨_, List.getElem?_eq_getElem (by omega)⟩
      have hfz : f z = x.name := by
        have h1 := congrArg (fun l => l[k]?) HM.out
        simp only [List.getElem?_map, hx, hz, Option.map_some, Option.some.injEq] at h1
        exact h1
      have HT := Lib.hid (show M.take (k + 1) = M.take k ++ [z] by
        have := List.take_add_one (l := M) (i := k); rw [hz] at this; exact this)
      have hlm : (M.take k).length < M.length := by rw [List.length_take]; omega
      unfold syV at NX
      obtain ⟨name, sec, val, gl⟩ := x
      simp only at x0 x1 x2 x3 NX hfz
      have hne2 : B2 ≠ wr.heap.size := by have := hbr.out.size; omega
      clear hx hne2 hz
      have hB2r : B2 < wr.heap.size := by have := hbr.out.size; omega
      gi_wp2_with fail
      refine ⟨trivial, fun h => absurd h (by decide), ?_⟩
      refine (callsIn_wide.2 (NX.out _)).mono ?_
      rintro e W2 ⟨rfl, hb2⟩
      have hb3 := Below.thn (below1 wr _) (by simp) hb2
      have HB2 := Lib.hid (Below.thn hbr.out hbr.out.size hb3)
      have hJ2 : J (M.take k) W2 := HJ.out _ wr W2 none hJs.out (below_grown hb3) (fun r e => by cases e)
      clear hb2 hb3
      obtain ⟨fn, tmps, assign, body, hy1, hR⟩ := yield_any (F := Fence.wide) rfl (n - 1) (HY.out (M.take k) z W2 hJ2 hlm)
      dsimp only [encN] at hy1
      rw [hfz] at hy1
      have HJ2 := Lib.hid hJ2
      clear hJ2
      gi_wp2_with fail
      refine ⟨fun h => absurd h (by decide), ?_⟩
      refine hR.mono ?_
      rintro e W3 (⟨rfl, hJ3, hk3⟩ | ⟨rfl, hJx3⟩)
      · have HK3 := Lib.hid (HB2.out.trans hk3)
        have HJ3 := Lib.hid hJ3
        clear hk3 hJ3
        gi_wp2_with fail
        go_roundw
        case rel => exact ⟨k + 1, by first | rfl | rw [← w9], by omega, Lib.hid (by rw [HT.out]; exact HJ3.out), HK3⟩
        case measure => simp [intOf]; omega
      · have HJX := Lib.hid hJx3
        clear hJx3
        gi_wp2_with fail
        refine bodyPost_ret (results_none rfl _ _ _) rfl ?_
        exact ⟨⟨_, rfl⟩, .inr ⟨_, by rw [← HT.out]; exact List.take_prefix _ _, HJX.out⟩⟩
    · have HE := Lib.hid (show J M wr by
        have := hJs.out
        rw [List.take_of_length_le (by omega)] at this
        exact this)
      have hge : ¬ (k : Int) < (L.length : Int) := by omega
      gi_wp2_with fail
      go_end0
      exact ⟨⟨_, rfl⟩, .inl HE.out⟩
theorem symNames_any (o : Obj') (w : World) (ho : ObjO w o) :
    Calls Try.prog 40 #[obV o] w fun e w' => (∃ v, e = .returned v ∧ NamesIt w' v (o.syms.map (·.name))) ∧ Below w.heap.size w w' := by
  have HO := Lib.hid ho.2
  obtain ⟨sv, yv, secs, syms⟩ := o
  unfold obV
  simp only
  have hs1 := ho.2.slice
  simp only at hs1
  obtain ⟨sa, sc, rfl⟩ := hs1
  have IT := Lib.hid (fun n B1 B2 W v L α f M hM => symIt_tells n B1 B2 W v L α f M hM)
  clear ho
  go_enter Try.func40, Try.ntmps40
  go_wp2_with fail
  refine (show Calls Try.prog 66 #[.slice sa syms.length sc, .func (.func 67) #[] #[]] (w.alloc (.cells #[sv, .slice sa syms.length sc] 25)) (fun e w' => e = .returned (.func (.func 84) #[] #[.pointer (some ⟨w.heap.size + 1, 0, none⟩), .pointer (some ⟨w.heap.size + 2, 0, none⟩)]) ∧ w' = (((w.alloc (.cells #[sv, .slice sa syms.length sc] 25)).alloc (.cells #[.slice sa syms.length sc] 23)).alloc (.cells #[.func (.func 67) #[] #[]] 86))) from ?hm).mono ?_
  case hm =>
    clear HO IT
    go_enter Try.func66, Try.ntmps66
    go_wp2_with fail
    go_ret
    exact ⟨by simp, rfl⟩
  rintro e w2 ⟨rfl, hw2⟩
  have hb2 : Below w.heap.size w w2 := by rw [hw2]; exact (((Below.refl _ w).alloc (Nat.le_refl _) _).alloc (by simp) _).alloc (by simp; omega) _
  have hz2 : w2.heap.size = w.heap.size + 3 := by rw [hw2]; simp
  have k1 : w2.cell? ⟨w.heap.size + 1, 0, none⟩ = some (.slice sa syms.length sc) := by
    rw [hw2]
    have := cells_new (w.alloc (.cells #[sv, .slice sa syms.length sc] 25)) #[.slice sa syms.length sc] 23 0 _ rfl
    rw [World.size_alloc] at this
    exact ((bcell (below1 _ _)).1 _ _ (by simp)).trans this
  have k2 : w2.cell? ⟨w.heap.size + 2, 0, none⟩ = some (.func (.func 67) #[] #[]) := by
    rw [hw2]
    have := cells_new ((w.alloc (.cells #[sv, .slice sa syms.length sc] 25)).alloc (.cells #[.slice sa syms.length sc] 23)) #[.func (.func 67) #[] #[]] 86 0 _ rfl
    rw [World.size_alloc, World.size_alloc] at this
    exact this
  have HF := Lib.hid (show (∃ v, Ending.returned (.func (.func 84) #[] #[.pointer (some ⟨w.heap.size + 1, 0, none⟩), .pointer (some ⟨w.heap.size + 2, 0, none⟩)]) = Ending.returned v ∧ NamesIt w2 v (syms.map (·.name))) ∧ Below w.heap.size w w2 from
    ⟨⟨_, rfl, _, _, rfl, enters_of Try.func84 (by kernel_rfl) rfl, fun α f M hM n => IT.out n _ _ w2 _ _ α f M hM (HO.out.keep hb2) k1 k2 (by omega) (by omega)⟩, hb2⟩)
  clear hw2 hb2 hz2 k1 k2 HO IT
  go_wp2_with fail
  go_ret
  exact HF.out
end Go.Proofs.Ytopghgoheaaceaa
