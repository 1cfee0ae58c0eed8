/-
  The iterator over runs of ones: what it tells its loop, for any loop body that touches only its own box and the row to which that leads.
-/
import Derived.Test.YtfpaambihjijoaaDoorRunsA
import Derived.Test.YtfpaambihjijoaaDoorTells
import Derived.Test.YtfpaambihjijoaaDoorRoundCut
namespace Go.Proofs.YtfpaambihjijoaaDoor
open Go.RowKit Go.Shelf BM
attribute [local go_sem] Oper.semAt_some

set_option maxHeartbeats 400000 in
theorem places_any (x : Int) (w : World) :
    Calls Tryd.prog 29 #[.int .u64 x] w fun e w' => e = .returned (.func (.func 31) #[] #[.pointer (some ⟨w.heap.size, 0, none⟩)]) ∧ w.alloc (.cells #[.int .u64 x] 22) = w' := by
  go_enter Tryd.func29, Tryd.ntmps29
  go_wp2
  go_ret
  exact ⟨rfl, rfl⟩

def encR (p : Nat × Nat) : Array Value := #[.int .i64 (p.1 : Int), .int .i64 (p.2 : Int)]
/-- the table is nobody's -/
def TabOff (Bl : Nat) (W : World) : Prop := Tab W ∧ Alone Bl W 0
theorem TabOff.only {Bl : Nat} {A B : World} (h : TabOff Bl A) (k : Only Bl A B) : TabOff Bl B :=
  ⟨fun j hj => by rw [h.2.cell k]; exact h.1 j hj, h.2.only k⟩

theorem xor_val {v p : Nat} (hv : v < 18446744073709551616) : bits .xor .u64 18446744073709551615 ((v : Int) / 2 ^ p) = ((18446744073709551615 - v / 2 ^ p : Nat) : Int) := by
  have hd : v / 2 ^ p < 18446744073709551616 := Nat.lt_of_le_of_lt (Nat.div_le_self _ _) hv
  have c : ((v : Int) / 2 ^ p) = ((v / 2 ^ p : Nat) : Int) := by simp
  have h := u64_xor_nat 18446744073709551615 (v / 2 ^ p) (by omega) hd
  have c2 : ((18446744073709551615 : Nat) : Int) = 18446744073709551615 := by omega
  rw [c2] at h
  rw [c, h]
  congr 1
  apply Nat.eq_of_testBit_eq; intro i
  have e : 2 ^ 64 = 18446744073709551616 := by decide
  have hb := not_bit 64 (v / 2 ^ p) i (by omega)
  rw [show 2 ^ 64 - 1 = 18446744073709551615 by decide] at hb
  rw [hb, Nat.testBit_xor, show (18446744073709551615 : Nat) = 2 ^ 64 - 1 by decide, Nat.testBit_two_pow_sub_one]
  by_cases g : i < 64
  · simp [g]
  · rw [Nat.testBit_lt_two_pow (Nat.lt_of_lt_of_le (show v / 2 ^ p < 2 ^ 64 by omega) (Nat.pow_le_pow_right (by decide) (by omega)))]
    simp [g]
theorem umax : IntKind.u64.max = 18446744073709551615 := by decide
theorem xor_bd {v p : Nat} (hv : v < 18446744073709551616) : 0 ≤ bits .xor .u64 IntKind.u64.max ((v : Int) / 2 ^ p) ∧ bits .xor .u64 IntKind.u64.max ((v : Int) / 2 ^ p) < 18446744073709551616 := by
  rw [umax, xor_val hv]; exact ⟨Int.natCast_nonneg _, by have := Nat.sub_le 18446744073709551615 (v / 2 ^ p); omega⟩
theorem xor_len {v p : Nat} (hv : v < 18446744073709551616) (hp : p < 64) : Lib.ctz 64 (bits .xor .u64 IntKind.u64.max ((v : Int) / 2 ^ p)).toNat = lenFrom (64 - p) v p := by
  have e : 2 ^ 64 = 18446744073709551616 := by decide
  have h := tz_len (v := v) (p := p) (by omega) hp
  rw [show 2 ^ 64 - 1 = 18446744073709551615 by decide] at h
  rw [umax, xor_val hv, Int.toNat_natCast, h]

/-- what the loop over places may rely on: the table, the box with yield, the box with v -/
def Mid (Bl By Bv v l : Nat) (W : World) : Prop :=
  TabOff Bl W ∧ (Alone Bl W By ∧ W.cell? ⟨By, 0, none⟩ = some (.func (.yield l) #[] #[])) ∧ (Alone Bl W Bv ∧ W.cell? ⟨Bv, 0, none⟩ = some (.int .u64 v))
theorem Mid.only {Bl By Bv v l : Nat} {A B : World} (h : Mid Bl By Bv v l A) (k : Only Bl A B) : Mid Bl By Bv v l B :=
  ⟨h.1.only k, ⟨h.2.1.1.only k, by rw [h.2.1.1.cell k]; exact h.2.1.2⟩, ⟨h.2.2.1.only k, by rw [h.2.2.1.cell k]; exact h.2.2.2⟩⟩
theorem Mid.own {Bl By Bv v l : Nat} {α : Type} (B : Nat) : OwnFrom B (fun (_ : α) W => Mid Bl By Bv v l W) := fun _ W W' row h hg hr => by
  have hr' : ∀ r, row = some r → ∃ o : Obj, W.heap[r]? = some o ∧ o.isCells = false := fun r e => (hr r e).2
  exact ⟨⟨fun j hj => cell_kept (h.1.1 j hj) hg hr', h.1.2.grown hg hr'⟩, ⟨h.2.1.1.grown hg hr', cell_kept h.2.1.2 hg hr'⟩, ⟨h.2.2.1.grown hg hr', cell_kept h.2.2.2 hg hr'⟩⟩
/-- the box holds something that leads to what is there -/
def Rooted (Bl : Nat) (W : World) : Prop := Bl < W.heap.size ∧ ∃ s, W.cell? ⟨Bl, 0, none⟩ = some s ∧ ∀ a len cap, s = .slice (some a) len cap → a.block < W.heap.size
theorem Rooted.below {Bl : Nat} {W W' : World} (h : Rooted Bl W) (hb : Below W.heap.size W W') : Rooted Bl W' := by
  obtain ⟨hB, s, hs, hf⟩ := h
  have := hb.size
  exact ⟨by omega, s, by rw [hb.cell (p := ⟨Bl, 0, none⟩) hB]; exact hs, fun a len cap e => by have := hf a len cap e; omega⟩
theorem Rooted.alone {Bl : Nat} {W W' : World} {b : Nat} (h : Rooted Bl W) (hb : Below W.heap.size W W') (h1 : W.heap.size ≤ b) (h2 : b < W'.heap.size) : Alone Bl W' b := by
  obtain ⟨hB, s, hs, hf⟩ := h
  exact ⟨h2, by omega, s, by rw [hb.cell (p := ⟨Bl, 0, none⟩) hB]; exact hs, fun a len cap e => by have := hf a len cap e; omega⟩

set_option maxRecDepth 100000 in
set_option maxHeartbeats 1000000 in
theorem runs1_tells (n Bl Bb Bv v : Nat) (w : World) (hn : 3 ≤ n) (hR : Rooted Bl w) (hT : TabOff Bl w) (hb : Alone Bl w Bb) (hv : Alone Bl w Bv) (hlt : v < 18446744073709551616)
    (cb : w.cell? ⟨Bb, 0, none⟩ = some (.int .u64 ((v &&& (2 ^ 64 - 1 - v * 2 % 2 ^ 64) : Nat) : Int))) (cv : w.cell? ⟨Bv, 0, none⟩ = some (.int .u64 v)) :
    Tells (Only Bl) n Tryd.prog 28 #[.pointer (some ⟨Bb, 0, none⟩), .pointer (some ⟨Bv, 0, none⟩)] encR (fun xs => xs = runsC v) 64 w := fun l J W hW hJ hY h0 => by
  have oW : Only Bl w W := Only.of_below hR.1 hW
  have hRW := hR.below hW
  have hTW := hT.only oW
  have hbW := hb.only oW
  have hvW := hv.only oW
  have cbW : W.cell? ⟨Bb, 0, none⟩ = _ := (hb.cell oW).trans cb
  have cvW : W.cell? ⟨Bv, 0, none⟩ = _ := (hv.cell oW).trans cv
  have HT := Lib.hid hTW
  have HB := Lib.hid hbW
  have HV := Lib.hid hvW
  have HY := Lib.hid hY
  have H0 := Lib.hid h0
  have HN := Lib.hid hn
  have zb := hbW.1
  have zv := hvW.1
  have nb : Bb ≠ W.heap.size := by omega
  have nv : Bv ≠ W.heap.size := by omega
  have HR := Lib.hid hRW
  clear hR hRW hT hb hv cb cv hTW hbW hvW hY h0 oW hW hn
  have HJ' := Lib.hid (show OwnFrom W.heap.size J ∨ False from .inl hJ)
  clear hJ
  generalize hbeg : (v &&& (2 ^ 64 - 1 - v * 2 % 2 ^ 64) : Nat) = g at *
  have HG := Lib.hid hbeg
  clear hbeg
  refine callsIn_of_wp_marks Tryd.func28 rfl trivial ?_ rfl
  simp only [Tryd.ntmps28, List.size_toArray, List.length_cons, List.length_nil, Nat.reduceAdd, Nat.reduceSub, Array.replicate_succ, Array.replicate_zero, List.push_toArray, List.append_toArray, List.nil_append, List.cons_append]
  gi_wp2_with fail
  refine ⟨trivial, (fun h => absurd h (by decide)), ?_⟩
  refine (callsIn_wide.2 (places_any _ _)).mono ?_
  rintro e w1 ⟨rfl, rfl⟩
  gi_wp2_with fail
  obtain ⟨W2, hW2⟩ : ∃ W2, (W.alloc (.cells #[.func (.yield l) #[] #[]] 57)).alloc (.cells #[.int .u64 g] 22) = W2 := ⟨_, rfl⟩
  have b2 : Below W.heap.size W W2 := by rw [← hW2]; exact ((Below.refl _ W).alloc (Nat.le_refl _) _).alloc (by simp) _
  have z2 : W2.heap.size = W.heap.size + 2 := by rw [← hW2]; simp
  have o2 : Only Bl W W2 := Only.of_below HR.out.1 b2
  have cy : W2.cell? ⟨W.heap.size, 0, none⟩ = some (.func (.yield l) #[] #[]) := by rw [← hW2]; simp [go_sem]
  have cg : W2.cell? ⟨W.heap.size + 1, 0, none⟩ = some (.int .u64 g) := by rw [← hW2]; simp [go_sem]
  have mid2 : Mid Bl W.heap.size Bv v l W2 := ⟨HT.out.only o2, ⟨HR.out.alone b2 (Nat.le_refl _) (by omega), cy⟩, ⟨HV.out.only o2, by rw [HV.out.cell o2]; exact cvW⟩⟩
  have gl : g < 18446744073709551616 := by rw [← HG.out]; exact Nat.lt_of_le_of_lt Nat.and_le_left hlt
  have HJ : OwnFrom W.heap.size J := HJ'.out.elim id (fun h => h.elim)
  have j2 : J [] W2 := by
    rw [← hW2]; exact HJ.alloc _ (HJ.alloc _ H0.out)
  rw [hW2]
  clear hW2
  refine range_tells (Fr := Only Bl) Only.trans (fun W l o o' _ h ho ho' => Only.put h ho ho') (gf := 31) (lb := #[.pointer (some ⟨W.heap.size + 1, 0, none⟩)]) rfl (enters_of Tryd.func31 (by kernel_rfl) rfl)
    (Tells.of_stops (places_stops (T := TabOff Bl) (fun _ h => h.1) (fun _ _ h k => h.only k) (n - 1) (W.heap.size + 1) g W2 gl (by omega) cg (fun Wx hx => mid2.1.only (Only.of_below (by have := HR.out.1; omega) hx)))) (Below.refl _ _) (fun _ => rfl)
    (fun (pre : List (Fin 64)) Wx => J (pre.map fun p => fullRun v p.1) Wx ∧ Mid Bl W.heap.size Bv v l Wx)
    (OwnFrom.and (fun (s : List (Fin 64)) A B row hs hg hr => OwnFrom.more (B' := W2.heap.size) HJ (by omega) (s.map fun p => fullRun v p.1) A B row hs hg hr) (Mid.own _)) ⟨j2, mid2⟩
    (fun p : Fin 64 => { tmps := #[.func (.yield l) #[] #[], .pointer (some ⟨Bb, 0, none⟩), .pointer (some ⟨Bv, 0, none⟩), .pointer (some ⟨W.heap.size, 0, none⟩), .int .i64 (p.1 : Int), .int .u64 g, .func (.func 31) #[] #[.pointer (some ⟨W.heap.size + 1, 0, none⟩)], .int .i64 (p.1 : Int), undef, undef, undef, undef, undef, undef, undef, undef, undef], defers := [] }) ?assign ?body ?done
  case assign =>
    intro m l2 x Wx K hK
    unfold encK
    gi_wp2
    exact hK
  case body =>
    rintro m l2 pre ⟨p, hp⟩ Wx hl2 ⟨hj, hmid⟩ hlen
    have cy1 := hmid.2.1.2
    have cv1 := hmid.2.2.2
    have JD := Lib.hid (fun q => show J (pre.map fun p => fullRun v p.1) (Wx.drewN q) from HJ _ _ _ none hj ⟨rfl, rfl, rfl, Nat.le_refl _, fun _ _ _ => rfl⟩ (fun r e => by cases e))
    have tzq : ∀ q, Calls Tryd.prog 30 #[.int .u64 (bits .xor .u64 IntKind.u64.max ((v : Int) / 2 ^ p))] (Wx.drewN q) fun e w' => e = .returned (.int .i64 ((lenFrom (64 - p) v p : Nat) : Int)) ∧ Wx.drewN q = w' := fun q => by
      have TZ := tz_any (bits .xor .u64 IntKind.u64.max ((v : Int) / 2 ^ p)) (Wx.drewN q) (xor_bd hlt).1 (xor_bd hlt).2 hmid.1.1
      rw [xor_len hlt hp] at TZ
      exact TZ
    have TZ' := Lib.hid tzq
    have HM := Lib.hid hmid
    have hp' : (p : Int) ≤ 64 := by omega
    clear HT HB H0 HJ' HN HG HR hlt gl cvW zb zv nb nv
    clear hmid hj HJ j2 mid2 cg cy o2 b2 tzq
    gi_wp2_with fail
    refine cut_at 7 rfl (by kernel_rfl) (by kernel_rfl) (by kernel_rfl) (by kernel_rfl) (by kernel_rfl) (by kernel_rfl) ?_
    simp only [List.take_succ_cons, List.take_zero, List.drop_succ_cons, List.drop_zero]
    repeat (gi_big_quiet_step (fail))
    refine BigFrame.wpQuietIn_want (fun _ _ _ _ => trivial) rfl ?_
    intro K hK
    gi_big_quiet_op
    rw [if_neg (show ¬ IntKind.u64.signed = true by decide)]
    refine ⟨_, fun q => ⟨fun h => absurd h (by decide), callsIn_wide.2 (quiet_eq (TZ'.out q))⟩, hK _ ?_⟩
    clear hK K
    refine wpQuietIn_nil ?_
    rintro _ ⟨nq, rfl⟩
    obtain ⟨fn, tmps, assign, body, hy, hRd⟩ := HY.out (m - 1) (pre.map fun p => fullRun v p.1) (fullRun v p) (Wx.drewN nq) (JD.out nq) (by rw [List.length_map]; exact hlen)
    dsimp only [encR, fullRun] at hy
    have RD1 : RoundIn (Fence.wide.inRound l2) (m - 1) Tryd.prog l fn tmps assign body (Wx.drewN nq) _ := hRd
    have RD := Lib.hid RD1
    clear RD1 hRd HY JD TZ'
    gi_wp2_with fail
    refine ⟨fun h => absurd h (by decide), RD.out.mono ?_⟩
    rintro e W3 ⟨rfl, hJ3, hk3, ho3⟩
    have J3 := Lib.hid hJ3
    have oq : Only Bl Wx (Wx.drewN nq) := ⟨Nat.le_refl _, fun _ _ _ => rfl, fun _ _ h => h, fun h => h⟩
    have kq : KeepsOthers Wx (Wx.drewN nq) := ⟨Nat.le_refl _, fun _ _ h _ => h⟩
    have o3 := Lib.hid (oq.trans ho3)
    have k3 := Lib.hid (kq.trans hk3)
    clear hJ3 ho3 hk3 oq kq RD hy
    gi_wp2
    refine ⟨k3.out, o3.out, ?_, ?_⟩
    · rw [List.map_append]; exact J3.out
    · exact HM.out.only o3.out
  case done =>
    rintro D xs Wx hD hxs ⟨hj, _⟩ hk
    gi_wp2
    refine ⟨by simp, .inl ⟨_, _, rfl, run_takeDeferred hk, ?_⟩⟩
    have hx : J (runsC v) Wx := by
      have e : (xs.map fun p => fullRun v p.1) = runsC v := by
        have e1 : (xs.map fun p => fullRun v p.1) = (xs.map (·.1)).map (fullRun v) := by rw [List.map_map]; rfl
        have e2 : posOf g = (List.range 64).filter (begB v) := by rw [← HG.out, pos_begins]
        rw [e1, hxs, e2]; rfl
      rw [← e]; exact hj
    exact ⟨_, results_none rfl _ _ _, ⟨_, rfl⟩, _, rfl, OwnFrom.putObj HJ _ hx (by omega) hk rfl⟩
end Go.Proofs.YtfpaambihjijoaaDoor
