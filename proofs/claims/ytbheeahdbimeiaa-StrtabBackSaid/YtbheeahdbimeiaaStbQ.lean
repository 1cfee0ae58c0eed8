/-
  The program's Names: what it returns, and what the iterator tells. Conditions: how the argument lies, and its size.
-/
import Derived.Test.YtbheeahdbimeiaaStbClone
import Derived.Test.YtbheeahdbimeiaaRoundBelow
namespace Go.Proofs.Ytbheeahdbimeiaa
open Go.RowKit Go.Shelf Go.Maps
set_option linter.unusedVariables false
set_option linter.unusedSimpArgs false
attribute [local go_sem] Oper.semAt_some

theorem enters_names : ∀ args w, (callFunc 38 args).run Try.prog w = .ok (.enter 38 args) w := enters_of Try.func38 (by kernel_rfl) rfl
theorem OwnFrom.more {β : Type} {B B' : Nat} {I : β → World → Prop} (h : OwnFrom B I) (hB : B ≤ B') : OwnFrom B' I := fun s A C row hs hg hr => h s A C row hs hg (fun r e => ⟨Nat.le_trans hB (hr r e).1, (hr r e).2⟩)
theorem keeps_weak {B B' : Nat} {W W' : World} (h : KeepsFrom B W W') (hB : B ≤ B') : KeepsFrom B' W W' := ⟨h.size, fun k o hk => h.same k o (Nat.le_trans hB hk)⟩
set_option maxRecDepth 100000 in
set_option maxHeartbeats 8000000 in
theorem names_tells (n bl : Nat) (w : World) (T : BA) (L : List BA) (hT : TabN T L ∨ (T.size = 0 ∧ L = [])) (hs : T.size ≤ 1048576) (hbl : w.heap[bl]? = some (.cells #[.string T] 9 (0, 0))) :
    TellsX KT n Try.prog 38 #[.pointer (some ⟨bl, 0, none⟩)] encP Ok (fun xs => xs = laidB 1 L) (fun pre => pre <+: laidB 1 L) L.length w := by
  intro l J Jx V hV hJ hJx hY h0
  have hbV := (hV.block bl (heap_lt hbl)).trans hbl
  have hblV := heap_lt hbV
  have clr : (V.alloc (.cells #[.func (.yield l) #[] #[]] 60)).cell? ⟨bl, 0, none⟩ = some (.string T) := by
    rw [Lib.cell_of_heap ((Below.heap_alloc _ _ _ hblV).trans hbV)]; rfl
  have PA := Lib.hid (fun W => pieces_any T W)
  have PT := Lib.hid (fun n bl W h => pieces_tells n bl W T L hT hs h)
  have CL := Lib.hid (fun s W h => clone_any s W h)
  have YH := Lib.hid hY
  have hJ0 := hJ.alloc (.cells #[.string T] 9) (hJ.alloc (.cells #[.func (.yield l) #[] #[]] 60) h0)
  have hB0 : Below V.heap.size V ((V.alloc (.cells #[.func (.yield l) #[] #[]] 60)).alloc (.cells #[.string T] 9)) := ((Below.refl _ V).alloc (Nat.le_refl _) _).alloc (by simp) _
  have hy0 : ((V.alloc (.cells #[.func (.yield l) #[] #[]] 60)).alloc (.cells #[.string T] 9)).heap[V.heap.size]? = some (.cells #[.func (.yield l) #[] #[]] 60 (0, 0)) := (Below.heap_alloc _ _ _ (by simp)).trans (World.alloc_heap_new V _)
  have hl0 : ((V.alloc (.cells #[.func (.yield l) #[] #[]] 60)).alloc (.cells #[.string T] 9)).heap[V.heap.size + 1]? = some (.cells #[.string T] 9 (0, 0)) := by
    have := World.alloc_heap_new (V.alloc (.cells #[.func (.yield l) #[] #[]] 60)) (.cells #[.string T] 9)
    rwa [World.size_alloc] at this
  have hz0 : ((V.alloc (.cells #[.func (.yield l) #[] #[]] 60)).alloc (.cells #[.string T] 9)).heap.size = V.heap.size + 2 := by simp
  refine callsIn_of_wp_marks Try.func38 rfl trivial ?_ rfl
  simp only [Try.ntmps38, List.size_toArray, List.length_cons, List.length_nil, Nat.reduceAdd, Nat.reduceSub, Array.replicate_succ, Array.replicate_zero, List.push_toArray, List.append_toArray, List.nil_append, List.cons_append]
  clear hY hV hbl
  gi_wp2_with fail
  refine ⟨trivial, (fun h => absurd h (by decide)), ?_⟩
  refine (callsIn_wide.2 (PA.out _)).mono ?_
  rintro e w1 ⟨rfl, rfl⟩
  gi_wp2_with fail
  generalize (V.alloc (.cells #[.func (.yield l) #[] #[]] 60)).alloc (.cells #[.string T] 9) = W0 at *
  refine' range_tellsX (Fr := KT) KT.trans (fun W l o o' hl h ho _ => kt_put h ho) (gf := 37) (lb := #[.pointer (some ⟨V.heap.size + 1, 0, none⟩)]) rfl enters_pieces
    (PT.out _ _ W0 hl0) (Below.refl _ _) (fun _ => rfl)
    (fun pre X => (X.heap[V.heap.size]? = some (.cells #[.func (.yield l) #[] #[]] 60 (0, 0))) ∧ J pre X)
    (fun c pre X => c = .ret ∧ Jx pre X)
    (OwnFrom.and (Own.from (fun s A C row hs hg hr => cells_kept hs hg hr) _) (OwnFrom.more hJ (by omega)))
    (fun c s A C row hs hg hr => ⟨hs.1, (OwnFrom.more (B' := W0.heap.size) hJx (by omega)) s A C row hs.2 hg hr⟩)
    ⟨hy0, hJ0⟩
    (fun A B hA hAB => kt_below hAB)
    (fun x a₁ X => a₁ = { tmps := #[.func (.yield l) #[] #[], .pointer (some ⟨bl, 0, none⟩), .pointer (some ⟨V.heap.size, 0, none⟩), .int .i64 (x.1 : Int), .string x.2, .string T, .func (.func 37) #[] #[.pointer (some ⟨V.heap.size + 1, 0, none⟩)], .int .i64 (x.1 : Int), .string x.2, undef, undef, undef, undef, undef, undef], defers := [] })
    ?hAs ?hassign ?hbody ?hdone ?hstop
  case hAs =>
    refine Own.from ?_ _
    rintro s A C row hs hg hr
    exact hs
  case hassign =>
    intro m l x X K hX hK
    simp only [encP]
    gi_wp2
    exact hK _ _ (Below.refl _ _) rfl
  case hbody =>
    rintro m l2 pre x a1 X hl ⟨hy, hj⟩ rfl hlt hok
    have HYB := Lib.hid hy
    have HJJ := Lib.hid hj
    have d2 : X.cell? ⟨V.heap.size, 0, none⟩ = some (.func (.yield l) #[] #[]) := Lib.cell_of_heap hy 0
    have hd2 := fun p : BW X => bw_cell d2 p
    have CL2 := Lib.hid (fun p : BW X => calls_bw (CL.out x.2 p.W (by have := hok.2; omega)))
    clear hy hj
    gi_wp2_with fail
    refine cut_below 4 rfl (by kernel_rfl) (by kernel_rfl) (by kernel_rfl) (by kernel_rfl) (by kernel_rfl) (by kernel_rfl) ?_
    simp only [List.take_succ_cons, List.take_zero, List.drop_succ_cons, List.drop_zero]
    refine BigFrame.wpQuietIn_want (fun _ _ _ _ => trivial) rfl ?_
    intro K hK
    gi_big_quiet_op
    refine hK _ ?_
    clear hK K
    refine BigFrame.wpQuietIn_want (fun _ _ _ _ => trivial) rfl ?_
    intro K hK
    gi_big_quiet_op
    refine hK _ ?_
    clear hK K
    refine BigFrame.wpQuietIn_want (fun _ _ _ _ => trivial) rfl ?_
    intro K hK
    gi_big_quiet_op
    refine hK _ ?_
    clear hK K
    refine BigFrame.wpQuietIn_want (fun _ _ _ _ => trivial) rfl ?_
    intro K hK
    gi_big_quiet_op
    refine ⟨_, fun q => ⟨fun h => absurd h (by decide), callsIn_wide.2 (CL2.out q)⟩, hK _ ?_⟩
    clear hK K
    refine wpQuietIn_nil ?_
    rintro X3 ⟨p, hp⟩
    have hX3 : Below X.heap.size X X3 := by rw [hp]; exact p.h
    clear hp p
    have hJ3 : J pre X3 := hJ _ X X3 none HJJ.out ⟨hX3.os, hX3.tape, hX3.output, hX3.size, fun k hk _ => hX3.block k hk⟩ (fun r e => by cases e)
    have HY3 := Lib.hid ((hX3.block _ (heap_lt HYB.out)).trans HYB.out)
    obtain ⟨fn, tmps, assign, body, hy1, hRd⟩ := YH.out (m - 1) pre x X3 hok hJ3 hlt
    dsimp only [encP] at hy1
    have RD1 : RoundIn (Fence.wide.inRound l2) (m - 1) Try.prog l fn tmps assign body X3 _ := hRd
    have RD := Lib.hid RD1
    have HX3 := Lib.hid hX3
    clear RD1 hRd hX3 hJ3 hd2 d2 CL2
    gi_wp2_with fail
    refine ⟨fun h => absurd h (by decide), RD.out.mono ?_⟩
    rintro e W3 (⟨rfl, hJ3, hk3, ho3⟩ | ⟨rfl, hJ3, hk3⟩)
    · have J3 := Lib.hid hJ3
      have K3 := Lib.hid (KeepsFrom.trans ⟨HX3.out.size, fun k o _ hk _ => (HX3.out.block k (heap_lt hk)).trans hk⟩ (keeps_weak hk3 (show V.heap.size ≤ W0.heap.size by omega)))
      have O3 := Lib.hid ho3
      clear hJ3 hk3 ho3 RD hy1
      gi_wp2_with fail
      exact ⟨K3.out, (kt_below HX3.out).trans O3.out, O3.out _ _ _ _ (by decide) HY3.out, J3.out⟩
    · have J3 := Lib.hid hJ3
      have K3 := Lib.hid (KeepsFrom.trans ⟨HX3.out.size, fun k o _ hk _ => (HX3.out.block k (heap_lt hk)).trans hk⟩ (keeps_weak hk3 (show V.heap.size ≤ W0.heap.size by omega)))
      clear hJ3 hk3 RD hy1
      gi_wp2_with fail
      exact ⟨K3.out, rfl, J3.out⟩
  case hdone =>
    rintro D ys X hD rfl ⟨hy, hj⟩ hK
    gi_wp2
    refine ⟨by simp, .inl ⟨_, _, rfl, run_takeDeferred hK, ?_⟩⟩
    exact ⟨_, results_none rfl _ _ _, ⟨_, rfl⟩, .inl ⟨_, rfl, OwnFrom.putObj hJ _ hj (by omega) hK rfl⟩⟩
  case hstop =>
    rintro D c ys X hD hS ⟨rfl, hj⟩ hK
    gi_wp2
    refine ⟨by simp, .inl ⟨_, _, rfl, run_takeDeferred hK, ?_⟩⟩
    exact ⟨_, results_none rfl _ _ _, ⟨_, rfl⟩, .inr ⟨_, hS, OwnFrom.putObj hJx _ hj (by omega) hK rfl⟩⟩
/-- an iterator over a table's names -/
def NamIt (w' : World) (T : BA) (e : Ending) : Prop := ∃ (bl : Nat) (TT : BA) (L : List BA), e = .returned (.func (.func 38) #[] #[.pointer (some ⟨bl, 0, none⟩)]) ∧ w'.heap[bl]? = some (.cells #[.string TT] 9 (0, 0)) ∧
  (TabN TT L ∨ (TT.size = 0 ∧ L = [])) ∧ TT.size ≤ 1048576 ∧ namR T = laidB 1 L
set_option maxRecDepth 100000 in
set_option maxHeartbeats 4000000 in
theorem names_any (v : Value) (T : BA) (w : World) (ht : BysO w v (nmOf T)) (hl : T.size ≤ 1048576) :
    Calls Try.prog 33 #[v] w fun e w' => NamIt w' T e ∧ Below w.heap.size w w' := by
  have hb0 := below1 w (.cells #[.string ⟨#[]⟩] 9)
  have CK := Lib.hid (check_any v T (w.alloc (.cells #[.string ⟨#[]⟩] 9)) (ht.keep hb0) hl)
  have HCV := Lib.hid (fun W (hb : Below w.heap.size w W) => by have := conv_any (ht.keep hb); rwa [str_nm] at this)
  have h0 := heap_alloc_new w (.cells #[.string ⟨#[]⟩] 9)
  have HG : Hid (chkE T = 0 → ∃ L, TabN T L ∧ namR T = laidB 1 L) := Lib.hid (fun h => by
    obtain ⟨_, L, hL, _⟩ := chk_inv h
    exact ⟨L, hL, by unfold namR; rw [if_pos h, rowsB_tab hL]⟩)
  have HN : Hid (chkE T ≠ 0 → namR T = laidB 1 []) := Lib.hid (fun h => by unfold namR; rw [if_neg h]; rfl)
  unfold NamIt
  obtain ⟨aa, ca, rfl⟩ := ht.slice
  clear ht
  go_enter Try.func33, Try.ntmps33
  go_wp2_with fail
  generalize w.alloc (.cells #[.string ⟨#[]⟩] 9) = W0 at *
  refine CK.out.mono ?_
  rintro e w1 ⟨rfl, hb1⟩
  have k0 := (hb1.block _ (heap_lt h0)).trans h0
  have c0 : w1.cell? ⟨w.heap.size, 0, none⟩ = some (.string ⟨#[]⟩) := Lib.cell_of_heap k0 0
  have f0 := Lib.frozen_of_heap k0 0
  have hB1 := Below.thn hb0 hb0.size hb1
  have hcv := HCV.out w1 hB1
  have HB1 := Lib.hid hB1
  have HK := Lib.hid k0
  clear hb1 hb0 h0 k0 hB1 CK
  by_cases hE : chkE T = 0
  · obtain ⟨L, hL, hn⟩ := HG.out hE
    have HE := Lib.hid (And.intro hL hn)
    rw [hE]
    clear hE hL hn HN HG
    have hset : (w1.setCell ⟨w.heap.size, 0, none⟩ (.string T)).heap[w.heap.size]? = some (.cells #[.string T] 9 (0, 0)) := heap_setCell_same _ _ _ _ _ _ HK.out
    have HS := Lib.hid hset
    clear hset
    go_wp2_with fail
    go_ret
    exact ⟨⟨_, T, L, rfl, HS.out, .inl HE.out.1, hl, HE.out.2⟩, HB1.out.setCell (p := ⟨w.heap.size, 0, none⟩) (Nat.le_refl _) _⟩
  · have hne : (chkE T == 0) = false := not_beq hE
    have HE := Lib.hid (HN.out hE)
    clear hE HN HG
    generalize chkE T = E at *
    go_wp2_with fail
    go_ret
    exact ⟨⟨_, ⟨#[]⟩, [], rfl, HK.out, .inr ⟨rfl, rfl⟩, by decide, HE.out⟩, HB1.out⟩
end Go.Proofs.Ytbheeahdbimeiaa
