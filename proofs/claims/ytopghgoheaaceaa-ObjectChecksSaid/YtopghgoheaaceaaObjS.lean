/-
  The document's Check: what each call returns. Conditions: how the object lies, the names' sizes.
-/
import Derived.Test.YtopghgoheaaceaaObjR
import Derived.Test.YtopghgoheaaceaaObjT
namespace Go.Proofs.Ytopghgoheaaceaa
open Go.RowKit
set_option linter.unusedVariables false
set_option linter.unusedSimpArgs false

def goodS (o : Obj') (i : Nat) : Bool := match o.secs[i]? with
  | some s => decide (findL (secNs o) s.name = some i) && secOk s (o.syms.length : Int)
  | none => true
def prevOk (o : Obj') (i : Nat) (y : Sy) : Bool := match i with
  | 0 => true
  | j + 1 => match o.syms[j]? with
    | some x => aheadB x y
    | none => true
def goodY (o : Obj') (i : Nat) : Bool := match o.syms[i]? with
  | some y => decide (findL (symNs o) y.name = some i) && (symOk y o.secs && prevOk o i y)
  | none => true
def docB (o : Obj') : Bool := !(decide (64 < (o.secs.length : Int)) || (decide (4096 < (o.syms.length : Int)) || (!(List.range o.secs.length).all (goodS o) || !(List.range o.syms.length).all (goodY o))))
theorem range_no {n i : Nat} {p : Nat → Bool} (hi : i < n) (h : p i = false) : (List.range n).all p = false := by
  rw [← Bool.not_eq_true, List.all_eq_true]
  intro f
  rw [f i (List.mem_range.2 hi)] at h; cases h
theorem range_yes {n : Nat} {p : Nat → Bool} (h : ∀ j, j < n → p j = true) : (List.range n).all p = true := by
  rw [List.all_eq_true]; exact fun j hj => h j (List.mem_range.1 hj)
theorem goodS_at {o : Obj'} {k : Nat} {s : Sc} (h : o.secs[k]? = some s) : goodS o k = (decide (findL (secNs o) s.name = some k) && secOk s (o.syms.length : Int)) := by unfold goodS; rw [h]
theorem goodY_at {o : Obj'} {k : Nat} {y : Sy} (h : o.syms[k]? = some y) : goodY o k = (decide (findL (symNs o) y.name = some k) && (symOk y o.secs && prevOk o k y)) := by unfold goodY; rw [h]
theorem findL_some_le {L : List BA} {s : BA} {k : Nat} (h : L[k]? = some s) : ∃ q, findL L s = some q ∧ q ≤ k := by
  induction L generalizing k with
  | nil => simp at h
  | cons x L ih =>
    by_cases e : x = s
    · exact ⟨0, by show (if x = s then some 0 else (findL L s).map (· + 1)) = some 0; rw [if_pos e], Nat.zero_le _⟩
    · cases k with
      | zero => rw [List.getElem?_cons_zero] at h; cases h; exact absurd rfl e
      | succ k =>
        rw [List.getElem?_cons_succ] at h
        obtain ⟨q, h1, h2⟩ := ih h
        exact ⟨q + 1, by show (if x = s then some 0 else (findL L s).map (· + 1)) = some (q + 1); rw [if_neg e, h1]; rfl, by omega⟩
theorem cells3 {W W' : World} (hb : Below W.heap.size W W') {p1 p2 p3 : Addr} {v1 v2 v3 : Value} (h : W.cell? p1 = some v1 ∧ W.cell? p2 = some v2 ∧ W.cell? p3 = some v3) : W'.cell? p1 = some v1 ∧ W'.cell? p2 = some v2 ∧ W'.cell? p3 = some v3 := by
  have k : ∀ {p : Addr} {v : Value}, W.cell? p = some v → W'.cell? p = some v := fun h => (hb.cell (World.block_lt_of_cell? W _ h)).trans h
  obtain ⟨a, b, c⟩ := h
  exact ⟨k a, k b, k c⟩
theorem cellsP6 {W W' : World} (hb : Below W.heap.size W W') {p0 p1 p2 p3 p4 p5 : Addr} {v0 v1 v2 v3 v4 v5 : Value} (h : W.cell? p0 = some v0 ∧ W.cell? p1 = some v1 ∧ W.cell? p2 = some v2 ∧ W.cell? p3 = some v3 ∧ W.cell? p4 = some v4 ∧ W.cell? p5 = some v5) : W'.cell? p0 = some v0 ∧ W'.cell? p1 = some v1 ∧ W'.cell? p2 = some v2 ∧ W'.cell? p3 = some v3 ∧ W'.cell? p4 = some v4 ∧ W'.cell? p5 = some v5 := by
  have k : ∀ {p : Addr} {v : Value}, W.cell? p = some v → W'.cell? p = some v := fun h => (hb.cell (World.block_lt_of_cell? W _ h)).trans h
  obtain ⟨a0, a1, a2, a3, a4, a5⟩ := h
  exact ⟨k a0, k a1, k a2, k a3, k a4, k a5⟩
theorem cellsP10 {W W' : World} (hb : Below W.heap.size W W') {p0 p1 p2 p3 p4 p5 p6 p7 p8 p9 : Addr} {v0 v1 v2 v3 v4 v5 v6 v7 v8 v9 : Value} (h : W.cell? p0 = some v0 ∧ W.cell? p1 = some v1 ∧ W.cell? p2 = some v2 ∧ W.cell? p3 = some v3 ∧ W.cell? p4 = some v4 ∧ W.cell? p5 = some v5 ∧ W.cell? p6 = some v6 ∧ W.cell? p7 = some v7 ∧ W.cell? p8 = some v8 ∧ W.cell? p9 = some v9) : W'.cell? p0 = some v0 ∧ W'.cell? p1 = some v1 ∧ W'.cell? p2 = some v2 ∧ W'.cell? p3 = some v3 ∧ W'.cell? p4 = some v4 ∧ W'.cell? p5 = some v5 ∧ W'.cell? p6 = some v6 ∧ W'.cell? p7 = some v7 ∧ W'.cell? p8 = some v8 ∧ W'.cell? p9 = some v9 := by
  have k : ∀ {p : Addr} {v : Value}, W.cell? p = some v → W'.cell? p = some v := fun h => (hb.cell (World.block_lt_of_cell? W _ h)).trans h
  obtain ⟨a0, a1, a2, a3, a4, a5, a6, a7, a8, a9⟩ := h
  exact ⟨k a0, k a1, k a2, k a3, k a4, k a5, k a6, k a7, k a8, k a9⟩
theorem cellsP8 {W W' : World} (hb : Below W.heap.size W W') {p1 p2 p3 p4 p5 p6 p7 p8 : Addr} {v1 v2 v3 v4 v5 v6 v7 v8 : Value} (h : W.cell? p1 = some v1 ∧ W.cell? p2 = some v2 ∧ W.cell? p3 = some v3 ∧ W.cell? p4 = some v4 ∧ W.cell? p5 = some v5 ∧ W.cell? p6 = some v6 ∧ W.cell? p7 = some v7 ∧ W.cell? p8 = some v8) : W'.cell? p1 = some v1 ∧ W'.cell? p2 = some v2 ∧ W'.cell? p3 = some v3 ∧ W'.cell? p4 = some v4 ∧ W'.cell? p5 = some v5 ∧ W'.cell? p6 = some v6 ∧ W'.cell? p7 = some v7 ∧ W'.cell? p8 = some v8 := by
  have k : ∀ {p : Addr} {v : Value}, W.cell? p = some v → W'.cell? p = some v := fun h => (hb.cell (World.block_lt_of_cell? W _ h)).trans h
  obtain ⟨a1, a2, a3, a4, a5, a6, a7, a8⟩ := h
  exact ⟨k a1, k a2, k a3, k a4, k a5, k a6, k a7, k a8⟩
theorem cellk {W W' : World} (hb : Below W.heap.size W W') {p : Addr} {v : Value} (h : W.cell? p = some v) : W'.cell? p = some v := (hb.cell (World.block_lt_of_cell? W _ h)).trans h
set_option maxRecDepth 100000 in
set_option maxHeartbeats 16000000 in
theorem rcheck_any (o : Obj') (w : World) (ho : ObjO w o) (hs : Sized o) :
    Calls Try.prog 15 #[obV o] w fun e w' => e = .returned (.int .i64 (errI (docB o))) ∧ Below w.heap.size w w' := by
  have E : Hid (docB o = !(decide (64 < (o.secs.length : Int)) || (decide (4096 < (o.syms.length : Int)) || (!(List.range o.secs.length).all (goodS o) || !(List.range o.syms.length).all (goodY o))))) := Lib.hid rfl
  generalize docB o = R at *
  have hl1 := ho.1.len
  have hl2 := ho.2.len
  have HS1 := Lib.hid hs.1
  have HS2 := Lib.hid hs.2
  have FS := Lib.hid (fun n W (hb : Below w.heap.size w W) => rsec_any o n W (ho.keep hb))
  have FY := Lib.hid (fun n W (hb : Below w.heap.size w W) => rfind_any o n W (ho.keep hb))
  have C1 := Lib.hid (fun s m W h1 h2 => rsection_any s m W h1 h2)
  have C2 := Lib.hid (fun y v l W h1 h2 => rsymbol_any y v l W h1 h2)
  have C3 := Lib.hid (fun a b W => rahead_any a b W)
  have GS := Lib.hid (fun (k : Nat) (s : Sc) (h : o.secs[k]? = some s) => goodS_at h)
  have GY := Lib.hid (fun (k : Nat) (y : Sy) (h : o.syms[k]? = some y) => goodY_at h)
  have NS : Hid (∀ (k : Nat) s, o.secs[k]? = some s → ∃ q, findL (secNs o) s.name = some q ∧ q ≤ k) := Lib.hid (fun k s h => findL_some_le (k := k) (by unfold secNs; rw [List.getElem?_map, h]; rfl))
  have NY : Hid (∀ (k : Nat) s, o.syms[k]? = some s → ∃ q, findL (symNs o) s.name = some q ∧ q ≤ k) := Lib.hid (fun k s h => findL_some_le (k := k) (by unfold symNs; rw [List.getElem?_map, h]; rfl))
  have PV : Hid (∀ y, prevOk o 0 y = true) := Lib.hid (fun y => rfl)
  have PW : Hid (∀ (j : Nat) x y, o.syms[j]? = some x → prevOk o (j + 1) y = aheadB x y) := Lib.hid (fun j x y h => by unfold prevOk; simp only [h])
  generalize goodS o = gS at *
  generalize goodY o = gY at *
  generalize secNs o = nS at *
  generalize symNs o = nY at *
  generalize hPP : prevOk o = PP at *
  clear hPP
  have HO := Lib.hid ho
  obtain ⟨sv, yv, secs, syms⟩ := o
  obtain ⟨sa, sc, h1⟩ := ho.1.slice
  obtain ⟨ya, yc, h2⟩ := ho.2.slice
  unfold maxLen at hl1 hl2
  simp only at h1 h2 hl1 hl2 E HS1 HS2 FS FY GS GY NS NY PV PW
  subst h1 h2
  clear ho hs
  unfold obV at FS FY ⊢
  simp only at FS FY ⊢
  obtain ⟨W1, hW1⟩ : ∃ W1, w.alloc (.cells #[.slice sa secs.length sc, .slice ya syms.length yc] 25) = W1 := ⟨_, rfl⟩
  have HB1 : Hid (Below w.heap.size w W1) := Lib.hid (by rw [← hW1]; exact below1 w _)
  have hz1 : w.heap.size < W1.heap.size := by rw [← hW1]; simp
  have c0 : W1.cell? ⟨w.heap.size, 0, none⟩ = some (.slice sa secs.length sc) := by rw [← hW1]; exact cells_new w _ _ 0 _ rfl
  have c1 : W1.cell? ⟨w.heap.size, 1, none⟩ = some (.slice ya syms.length yc) := by rw [← hW1]; exact cells_new w _ _ 1 _ rfl
  by_cases a1 : (64 : Int) < (secs.length : Int)
  · have HE := Lib.hid (show R = false by rw [E.out, decide_eq_true a1, Bool.true_or, Bool.not_true])
    clear E
    go_enter Try.func15, Try.ntmps15
    go_wp2_with fail
    go_ret
    exact ⟨ret1 (by rw [HE.out]; rfl), HB1.out⟩
  by_cases a2 : (4096 : Int) < (syms.length : Int)
  · have HE := Lib.hid (show R = false by rw [E.out, decide_eq_true a2, Bool.true_or, Bool.or_true, Bool.not_true])
    clear E
    go_enter Try.func15, Try.ntmps15
    go_wp2_with fail
    go_ret
    exact ⟨ret1 (by rw [HE.out]; rfl), HB1.out⟩
  have E2 := Lib.hid (E.out.trans (by rw [decide_eq_false a1, decide_eq_false a2, Bool.false_or, Bool.false_or]))
  clear E
  have BAD1 := Lib.hid (fun (i : Nat) (hi : i < secs.length) (h : gS i = false) => show R = false by rw [E2.out, range_no hi h]; rfl)
  have BAD2 := Lib.hid (fun (i : Nat) (hi : i < syms.length) (h : gY i = false) => show R = false by rw [E2.out, range_no hi h, Bool.not_false, Bool.or_true, Bool.not_true])
  have FIN := Lib.hid (fun (h1 : ∀ j, j < secs.length → gS j = true) (h2 : ∀ j, j < syms.length → gY j = true) => show R = true by rw [E2.out, range_yes h1, range_yes h2]; rfl)
  clear E2
  go_enter Try.func15, Try.ntmps15
  go_wp2_with fail
  clear hW1
  go_loopw [3] (fun iv wr => ∃ k : Nat, k ≤ secs.length ∧ iv = .int .i64 (k : Int) ∧ Hid (∀ j, j < k → gS j = true) ∧ Hid (Below W1.heap.size W1 wr)) (fun iv _ => secs.length - (intOf iv).toNat)
  case atStart => exact ⟨0, Nat.zero_le _, rfl, Lib.hid (fun j hj => by omega), Lib.hid (Below.refl _ _)⟩
  case round =>
    obtain ⟨k, hk, rfl, hst, hbr⟩ := hrel
    have g0 := (bcell hbr.out).1 w.heap.size 0 hz1 |>.trans c0
    have g1 := (bcell hbr.out).1 w.heap.size 1 hz1 |>.trans c1
    have hz2 := Nat.lt_of_lt_of_le hz1 hbr.out.size
    have HBR := Lib.hid (Below.thn HB1.out HB1.out.size hbr.out)
    clear c0 c1 hz1
    by_cases hlt : (k : Int) < (secs.length : Int)
    · have hlt' : k < secs.length := by omega
      obtain ⟨g, off, cap, x, hx, hv, hg, hin, x0, x1, x2, x3, x4, x5⟩ := (HO.out.keep HBR.out).1.at hlt'
      cases hv
      have w9 : IntKind.i64.wrap ((k : Int) + 1) = ((k + 1 : Nat) : Int) := by rw [IntWalk.i64_in _ (by omega)]; omega
      obtain ⟨q, hq, hqk⟩ := NS.out k x hx
      have GX := Lib.hid (GS.out k x hx)
      have hn := HS1.out x (List.mem_of_getElem? hx)
      have FX := Lib.hid (fun W hb => FS.out x.name W hb)
      rw [hq] at FX GX
      unfold findO at FX
      have CX := Lib.hid (fun W (hb : Below wr.heap.size wr W) => C1.out x (syms.length : Int) W (hin.keep hb) hn)
      have hrest := Lib.hid (show wr.cell? ⟨g, off + k * 6 + 1, none⟩ = some (.int .i64 x.kind) ∧ wr.cell? ⟨g, off + k * 6 + 2, none⟩ = some (.int .i64 x.align) ∧ wr.cell? ⟨g, off + k * 6 + 3, none⟩ = some (.int .i64 x.size) ∧ wr.cell? ⟨g, off + k * 6 + 4, none⟩ = some x.dv ∧ wr.cell? ⟨g, off + k * 6 + 5, none⟩ = some x.rv from ⟨x1, x2, x3, x4, x5⟩)
      obtain ⟨ok, hok⟩ : ∃ b, secOk x (syms.length : Int) = b := ⟨_, rfl⟩
      rw [hok] at CX GX
      obtain ⟨ad, cd, hd⟩ := hin.1.slice
      obtain ⟨ar, cr, hr⟩ := hin.2.slice
      clear hx hin hok x1 x2 x3 x4 x5 hn hq
      obtain ⟨name, kind, align, size, dv, rv, data, rel⟩ := x
      unfold scV at CX
      simp only at hd hr x0 FX CX hrest
      subst hd hr
      have q0 := fun p : BW wr => bw_cell g0 p
      have q1 := fun p : BW wr => bw_cell g1 p
      have q2 := fun p : BW wr => bw_cell x0 p
      go_wp2_with fail
      clear g0 g1 x0
      refine wp_region_below (by kernel_rfl) (by kernel_rfl) ?_
      iterate 13
        (refine hq_step ?_
         intro K hK
         go_simp
         first
           | (refine hK _ ?_
              clear hK K)
           | (apply Exists.intro
              refine ⟨fun _ => ?_, hK _ ?_⟩
              (go_at_call 25; exact calls_bw (FX.out _ (Below.thn HBR.out HBR.out.size (BW.h _))))
              clear hK K))
      refine hq_nil ?_
      rintro _ ⟨pq, rfl⟩
      all_goals
        have HQ1p := pq.h
        have g0 := q0 pq
        have g1 := q1 pq
        have x0 := q2 pq
        generalize pq.W = w1 at HQ1p g0 g1 x0 ⊢
        have HQ1 := Lib.hid HQ1p
        clear q0 q1 q2 HQ1p pq
        obtain ⟨x1, x2, x3, x4, x5⟩ := hrest.out
        have x1 := cellk HQ1.out x1
        have x2 := cellk HQ1.out x2
        have x3 := cellk HQ1.out x3
        have x4 := cellk HQ1.out x4
        have x5 := cellk HQ1.out x5
        have HBW := Lib.hid (Below.thn HBR.out HBR.out.size HQ1.out)
        by_cases hqe : q = k
        · subst hqe
          have hqb : ((q : Int) != (q : Int)) = false := by simp
          have GX2 := Lib.hid (GX.out.trans (by rw [decide_eq_true rfl, Bool.true_and]))
          clear GX
          cases ok with
          | false =>
            have HE := Lib.hid (BAD1.out q hlt' GX2.out)
            have q0 := fun p : BW w1 => bw_cell g0 p
            have q1 := fun p : BW w1 => bw_cell g1 p
            have q2 := fun p : BW w1 => bw_cell x0 p
            have q3 := fun p : BW w1 => bw_cell x1 p
            have q4 := fun p : BW w1 => bw_cell x2 p
            have q5 := fun p : BW w1 => bw_cell x3 p
            have q6 := fun p : BW w1 => bw_cell x4 p
            have q7 := fun p : BW w1 => bw_cell x5 p

            go_wp2_with fail
            clear g0 g1 x0 x1 x2 x3 x4 x5
            refine wp_region_below (by kernel_rfl) (by kernel_rfl) ?_
            iterate 15
              (refine hq_step ?_
               intro K hK
               go_simp
               first
                 | (refine hK _ ?_
                    clear hK K)
                 | (apply Exists.intro
                    refine ⟨fun _ => ?_, hK _ ?_⟩
                    (go_at_call 43; exact calls_bw (CX.out _ (Below.thn HQ1.out HQ1.out.size (BW.h _))))
                    clear hK K))
            refine hq_nil ?_
            rintro _ ⟨pq, rfl⟩
            have HQ2p := pq.h
            generalize pq.W = w2 at HQ2p ⊢
            have HQ2 := Lib.hid HQ2p
            clear HQ2p q0 q1 q2 q3 q4 q5 q6 q7 pq
            all_goals
              go_wp2_with fail
              go_ret
              exact ⟨ret1 (by rw [HE.out]; rfl), Below.thn HBW.out HBW.out.size HQ2.out⟩
          | true =>
            have HN := Lib.hid (show ∀ j, j < q + 1 → gS j = true from fun j hj => by
              by_cases e : j = q
              · rw [e]; exact GX2.out
              · exact hst.out j (by omega))
            have q0 := fun p : BW w1 => bw_cell g0 p
            have q1 := fun p : BW w1 => bw_cell g1 p
            have q2 := fun p : BW w1 => bw_cell x0 p
            have q3 := fun p : BW w1 => bw_cell x1 p
            have q4 := fun p : BW w1 => bw_cell x2 p
            have q5 := fun p : BW w1 => bw_cell x3 p
            have q6 := fun p : BW w1 => bw_cell x4 p
            have q7 := fun p : BW w1 => bw_cell x5 p

            go_wp2_with fail
            clear g0 g1 x0 x1 x2 x3 x4 x5
            refine wp_region_below (by kernel_rfl) (by kernel_rfl) ?_
            iterate 15
              (refine hq_step ?_
               intro K hK
               go_simp
               first
                 | (refine hK _ ?_
                    clear hK K)
                 | (apply Exists.intro
                    refine ⟨fun _ => ?_, hK _ ?_⟩
                    (go_at_call 43; exact calls_bw (CX.out _ (Below.thn HQ1.out HQ1.out.size (BW.h _))))
                    clear hK K))
            refine hq_nil ?_
            rintro _ ⟨pq, rfl⟩
            have HQ2p := pq.h
            generalize pq.W = w2 at HQ2p ⊢
            have HQ2 := Lib.hid HQ2p
            clear HQ2p q0 q1 q2 q3 q4 q5 q6 q7 pq
            all_goals
              go_wp2_with fail
              go_roundw
              case rel => exact ⟨q + 1, by omega, by first | rfl | rw [← w9], HN, Lib.hid (Below.thn hbr.out hbr.out.size (Below.thn HQ1.out HQ1.out.size HQ2.out))⟩
              case measure => simp [intOf]; omega
        · have hqb : ((q : Int) != (k : Int)) = true := by rw [bne_iff_ne]; omega
          have hqn : (q != k) = true := by rw [bne_iff_ne]; exact hqe
          have HE := Lib.hid (BAD1.out k hlt' (GX.out.trans (by rw [decide_eq_false (fun h => hqe (Option.some.inj h)), Bool.false_and])))
          clear GX
          go_wp2_with fail
          go_quiet (fail)
          go_wp2_with fail
          go_ret
          exact ⟨ret1 (by rw [HE.out]; rfl), below_drewN HBW.out _⟩
    · have HS := Lib.hid (show ∀ j, j < secs.length → gS j = true from fun j hj => hst.out j (by omega))
      clear BAD1 hst GS NS C1 HS1 FS
      go_wp2_with fail
      clear hbr hk hlt
      generalize wr = W5 at *
      go_loopw [6] (fun iv wr2 => ∃ k : Nat, k ≤ syms.length ∧ iv = .int .i64 (k : Int) ∧ Hid (∀ j, j < k → gY j = true) ∧ Hid (Below W5.heap.size W5 wr2)) (fun iv _ => syms.length - (intOf iv).toNat)
      case atStart => exact ⟨0, Nat.zero_le _, rfl, Lib.hid (fun j hj => by omega), Lib.hid (Below.refl _ _)⟩
      case round =>
        obtain ⟨k, hk, rfl, hst, hbr2⟩ := hrel
        have g0 := (bcell hbr2.out).1 w.heap.size 0 hz2 |>.trans g0
        have g1 := (bcell hbr2.out).1 w.heap.size 1 hz2 |>.trans g1
        have HBR2 := Lib.hid (Below.thn HBR.out HBR.out.size hbr2.out)
        by_cases hlt : (k : Int) < (syms.length : Int)
        · have hlt' : k < syms.length := by omega
          obtain ⟨g, off, cap, x, hx, hv, hg, x0, x1, x2, x3⟩ := (HO.out.keep HBR2.out).2.at hlt'
          cases hv
          have w9 : IntKind.i64.wrap ((k : Int) + 1) = ((k + 1 : Nat) : Int) := by rw [IntWalk.i64_in _ (by omega)]; omega
          obtain ⟨q, hq, hqk⟩ := NY.out k x hx
          have GX := Lib.hid (GY.out k x hx)
          have hn := HS2.out x (List.mem_of_getElem? hx)
          have FX := Lib.hid (fun W hb => FY.out x.name W hb)
          rw [hq] at FX GX
          unfold findO at FX
          have CX := Lib.hid (fun W (hb : Below wr.heap.size wr W) => C2.out x _ secs W ((HO.out.keep HBR2.out).1.keep hb) hn)
          obtain ⟨ok, hok⟩ : ∃ b, symOk x secs = b := ⟨_, rfl⟩
          rw [hok] at CX GX
          have SYO := Lib.hid ((HO.out.keep HBR2.out).2)
          simp only at SYO
          have S0 : wr.cell? ⟨w.heap.size, 0, none⟩ = some (.slice sa secs.length sc) ∧ wr.cell? ⟨w.heap.size, 1, none⟩ = some (.slice (some ⟨g, off, none⟩) syms.length yc) ∧ wr.cell? ⟨g, off + k * 4, none⟩ = some (.string x.name) ∧ wr.cell? ⟨g, off + k * 4 + 1, none⟩ = some (.int .i64 x.sec) ∧ wr.cell? ⟨g, off + k * 4 + 2, none⟩ = some (.int .i64 x.val) ∧ wr.cell? ⟨g, off + k * 4 + 3, none⟩ = some (.bool x.gl) := ⟨g0, g1, x0, x1, x2, x3⟩
          have AXX := Lib.hid (fun p W => C3.out p x W)
          clear hok hn hq g0 g1 x0 x1 x2 x3
          have hxx := Lib.hid hx
          clear hx
          obtain ⟨name, sec, val, gl⟩ := x
          unfold syV at CX
          simp only at FX CX S0
          have q0 := fun p : BW wr => bw_cell S0.1 p
          have q1 := fun p : BW wr => bw_cell S0.2.1 p
          have q2 := fun p : BW wr => bw_cell S0.2.2.1 p
          have q3 := fun p : BW wr => bw_cell S0.2.2.2.1 p
          have q4 := fun p : BW wr => bw_cell S0.2.2.2.2.1 p
          have q5 := fun p : BW wr => bw_cell S0.2.2.2.2.2 p
          go_wp2_with fail
          refine wp_region_below (by kernel_rfl) (by kernel_rfl) ?_
          iterate 13
            (refine hq_step ?_
             intro K hK
             go_simp
             first
               | (refine hK _ ?_
                  clear hK K)
               | (apply Exists.intro
                  refine ⟨fun _ => ?_, hK _ ?_⟩
                  (go_at_call 23; exact calls_bw (FX.out _ (Below.thn HBR2.out HBR2.out.size (BW.h _))))
                  clear hK K))
          refine hq_nil ?_
          rintro _ ⟨pq, rfl⟩
          all_goals
            have HQ1p := pq.h
            generalize pq.W = w1 at HQ1p ⊢
            have HQ1 := Lib.hid HQ1p
            have S1 := cellsP6 HQ1.out S0
            clear q0 q1 q2 q3 q4 q5 HQ1p pq
            have HBW := Lib.hid (Below.thn HBR2.out HBR2.out.size HQ1.out)
            clear S0
            by_cases hqe : q = k
            · subst hqe
              have hqb : ((q : Int) != (q : Int)) = false := by simp
              have GX2 := Lib.hid (GX.out.trans (by rw [decide_eq_true rfl, Bool.true_and]))
              clear GX
              cases ok with
              | false =>
                have HE := Lib.hid (BAD2.out q hlt' (GX2.out.trans (Bool.false_and _)))
                have S1b := S1
                clear S1
                obtain ⟨z0, z1, z2, z3, z4, z5⟩ := S1b
                have q0 := fun p : BW w1 => bw_cell z0 p
                have q1 := fun p : BW w1 => bw_cell z1 p
                have q2 := fun p : BW w1 => bw_cell z2 p
                have q3 := fun p : BW w1 => bw_cell z3 p
                have q4 := fun p : BW w1 => bw_cell z4 p
                have q5 := fun p : BW w1 => bw_cell z5 p
                go_wp2_with fail
                clear z0 z1 z2 z3 z4 z5
                refine wp_region_below (by kernel_rfl) (by kernel_rfl) ?_
                iterate 33
                  (refine hq_step ?_
                   intro K hK
                   go_simp
                   first
                     | (refine hK _ ?_
                        clear hK K)
                     | (apply Exists.intro
                        refine ⟨fun _ => ?_, hK _ ?_⟩
                        (first | (go_at_call 44; exact calls_bw (CX.out _ (Below.thn HQ1.out HQ1.out.size (BW.h _)))))
                        clear hK K))
                refine hq_nil ?_
                rintro _ ⟨pq, rfl⟩
                have HQ2p := pq.h
                generalize pq.W = w2 at HQ2p ⊢
                have HQ2 := Lib.hid HQ2p
                clear pq HQ2p q0 q1 q2 q3 q4 q5
                all_goals
                  go_wp2_with fail
                  go_ret
                  exact ⟨ret1 (by rw [HE.out]; rfl), Below.thn HBW.out HBW.out.size HQ2.out⟩
              | true =>
                by_cases hq0 : q = 0
                · have HN := Lib.hid (show ∀ j, j < q + 1 → gY j = true from fun j hj => by
                    obtain rfl : j = q := by omega
                    rw [GX2.out, Bool.true_and, hq0, PV.out])
                  have hqn : decide (0 < q) = false := by rw [decide_eq_false_iff_not]; omega
                  have hqz : ¬ 0 < q := by omega
                  have S1b := S1
                  clear S1 hq0
                  obtain ⟨z0, z1, z2, z3, z4, z5⟩ := S1b
                  have q0 := fun p : BW w1 => bw_cell z0 p
                  have q1 := fun p : BW w1 => bw_cell z1 p
                  have q2 := fun p : BW w1 => bw_cell z2 p
                  have q3 := fun p : BW w1 => bw_cell z3 p
                  have q4 := fun p : BW w1 => bw_cell z4 p
                  have q5 := fun p : BW w1 => bw_cell z5 p
                  go_wp2_with fail
                  clear z0 z1 z2 z3 z4 z5
                  refine wp_region_below (by kernel_rfl) (by kernel_rfl) ?_
                  iterate 33
                    (refine hq_step ?_
                     intro K hK
                     go_simp
                     first
                       | (refine hK _ ?_
                          clear hK K)
                       | (apply Exists.intro
                          refine ⟨fun _ => ?_, hK _ ?_⟩
                          (first | (go_at_call 44; exact calls_bw (CX.out _ (Below.thn HQ1.out HQ1.out.size (BW.h _)))))
                          clear hK K))
                  refine hq_nil ?_
                  rintro _ ⟨pq, rfl⟩
                  have HQ2p := pq.h
                  generalize pq.W = w2 at HQ2p ⊢
                  have HQ2 := Lib.hid HQ2p
                  clear pq HQ2p q0 q1 q2 q3 q4 q5
                  all_goals
                    go_wp2_with fail
                    go_roundw
                    case rel => exact ⟨q + 1, by omega, by first | rfl | rw [← w9], HN, Lib.hid (Below.thn hbr2.out hbr2.out.size (Below.thn HQ1.out HQ1.out.size HQ2.out))⟩
                    case measure => simp [intOf]; omega
                · obtain ⟨m, hmq⟩ : ∃ m, q = m + 1 := ⟨q - 1, by omega⟩
                  obtain ⟨g', off', cap', p, hp, hv, _, p0, p1, p2, p3⟩ := (SYO.out.keep HQ1.out).at (k := m) (by omega)
                  cases hv
                  have AX := Lib.hid (fun W => AXX.out p W)
                  have GX3 := Lib.hid (show gY q = aheadB p ⟨name, sec, val, gl⟩ by rw [GX2.out, Bool.true_and, hmq]; exact PW.out m p _ hp)
                  obtain ⟨ah, hah⟩ : ∃ b, aheadB p ⟨name, sec, val, gl⟩ = b := ⟨_, rfl⟩
                  rw [hah] at AX GX3
                  have w7 : IntKind.i64.wrap ((q : Int) - 1) = (m : Int) := by rw [IntWalk.i64_in _ (by omega)]; omega
                  have hml : (m : Int) < (syms.length : Int) := by omega
                  have hpp : 0 < q := by omega
                  have HK := Lib.hid hmq
                  clear hah hp GX2 hmq hq0
                  obtain ⟨pn, psc, pv, pg⟩ := p
                  unfold syV at AX
                  simp only at AX p0 p1 p2 p3
                  obtain ⟨s0, s1, s2, s3, s4, s5⟩ := S1
                  have S1b : w1.cell? ⟨w.heap.size, 0, none⟩ = some (.slice sa secs.length sc) ∧ w1.cell? ⟨w.heap.size, 1, none⟩ = some (.slice (some ⟨g, off, none⟩) syms.length yc) ∧ w1.cell? ⟨g, off + q * 4, none⟩ = some (.string name) ∧ w1.cell? ⟨g, off + q * 4 + 1, none⟩ = some (.int .i64 sec) ∧ w1.cell? ⟨g, off + q * 4 + 2, none⟩ = some (.int .i64 val) ∧ w1.cell? ⟨g, off + q * 4 + 3, none⟩ = some (.bool gl) ∧ w1.cell? ⟨g, off + m * 4, none⟩ = some (.string pn) ∧ w1.cell? ⟨g, off + m * 4 + 1, none⟩ = some (.int .i64 psc) ∧ w1.cell? ⟨g, off + m * 4 + 2, none⟩ = some (.int .i64 pv) ∧ w1.cell? ⟨g, off + m * 4 + 3, none⟩ = some (.bool pg) := ⟨s0, s1, s2, s3, s4, s5, p0, p1, p2, p3⟩
                  clear s0 s1 s2 s3 s4 s5 p0 p1 p2 p3
                  cases ah with
                  | false =>
                    have HE := Lib.hid (BAD2.out q hlt' GX3.out)
                    obtain ⟨z0, z1, z2, z3, z4, z5, z6, z7, z8, z9⟩ := S1b
                    have q0 := fun p : BW w1 => bw_cell z0 p
                    have q1 := fun p : BW w1 => bw_cell z1 p
                    have q2 := fun p : BW w1 => bw_cell z2 p
                    have q3 := fun p : BW w1 => bw_cell z3 p
                    have q4 := fun p : BW w1 => bw_cell z4 p
                    have q5 := fun p : BW w1 => bw_cell z5 p
                    have q6 := fun p : BW w1 => bw_cell z6 p
                    have q7 := fun p : BW w1 => bw_cell z7 p
                    have q8 := fun p : BW w1 => bw_cell z8 p
                    have q9 := fun p : BW w1 => bw_cell z9 p
                    go_wp2_with fail
                    clear z0 z1 z2 z3 z4 z5 z6 z7 z8 z9
                    refine wp_region_below (by kernel_rfl) (by kernel_rfl) ?_
                    iterate 33
                      (refine hq_step ?_
                       intro K hK
                       go_simp
                       first
                         | (refine hK _ ?_
                            clear hK K)
                         | (apply Exists.intro
                            refine ⟨fun _ => ?_, hK _ ?_⟩
                            (first | (go_at_call 44; exact calls_bw (CX.out _ (Below.thn HQ1.out HQ1.out.size (BW.h _)))) | (go_at_call 45; exact calls_bw (AX.out _)))
                            clear hK K))
                    refine hq_nil ?_
                    rintro _ ⟨pq, rfl⟩
                    have HQ2p := pq.h
                    generalize pq.W = w2 at HQ2p ⊢
                    have HQ2 := Lib.hid HQ2p
                    clear pq HQ2p q0 q1 q2 q3 q4 q5 q6 q7 q8 q9
                    all_goals
                      go_wp2_with fail
                      go_ret
                      exact ⟨ret1 (by rw [HE.out]; rfl), Below.thn HBW.out HBW.out.size HQ2.out⟩
                  | true =>
                    have HN := Lib.hid (show ∀ j, j < q + 1 → gY j = true from fun j hj => by
                      by_cases e : j = q
                      · rw [e]; exact GX3.out
                      · exact hst.out j (by omega))
                    obtain ⟨z0, z1, z2, z3, z4, z5, z6, z7, z8, z9⟩ := S1b
                    have q0 := fun p : BW w1 => bw_cell z0 p
                    have q1 := fun p : BW w1 => bw_cell z1 p
                    have q2 := fun p : BW w1 => bw_cell z2 p
                    have q3 := fun p : BW w1 => bw_cell z3 p
                    have q4 := fun p : BW w1 => bw_cell z4 p
                    have q5 := fun p : BW w1 => bw_cell z5 p
                    have q6 := fun p : BW w1 => bw_cell z6 p
                    have q7 := fun p : BW w1 => bw_cell z7 p
                    have q8 := fun p : BW w1 => bw_cell z8 p
                    have q9 := fun p : BW w1 => bw_cell z9 p
                    go_wp2_with fail
                    clear z0 z1 z2 z3 z4 z5 z6 z7 z8 z9
                    refine wp_region_below (by kernel_rfl) (by kernel_rfl) ?_
                    iterate 33
                      (refine hq_step ?_
                       intro K hK
                       go_simp
                       first
                         | (refine hK _ ?_
                            clear hK K)
                         | (apply Exists.intro
                            refine ⟨fun _ => ?_, hK _ ?_⟩
                            (first | (go_at_call 44; exact calls_bw (CX.out _ (Below.thn HQ1.out HQ1.out.size (BW.h _)))) | (go_at_call 45; exact calls_bw (AX.out _)))
                            clear hK K))
                    refine hq_nil ?_
                    rintro _ ⟨pq, rfl⟩
                    have HQ2p := pq.h
                    generalize pq.W = w2 at HQ2p ⊢
                    have HQ2 := Lib.hid HQ2p
                    clear pq HQ2p q0 q1 q2 q3 q4 q5 q6 q7 q8 q9
                    all_goals
                      go_wp2_with fail
                      go_roundw
                      case rel => exact ⟨q + 1, by omega, by first | rfl | rw [← w9], HN, Lib.hid (Below.thn hbr2.out hbr2.out.size (Below.thn HQ1.out HQ1.out.size HQ2.out))⟩
                      case measure => simp [intOf]; omega
            · have hqb : ((q : Int) != (k : Int)) = true := by rw [bne_iff_ne]; omega
              have hqn : (q != k) = true := by rw [bne_iff_ne]; exact hqe
              have HE := Lib.hid (BAD2.out k hlt' (GX.out.trans (by rw [decide_eq_false (fun h => hqe (Option.some.inj h)), Bool.false_and])))
              clear GX
              go_wp2_with fail
              go_quiet (fail)
              go_wp2_with fail
              go_ret
              exact ⟨ret1 (by rw [HE.out]; rfl), below_drewN HBW.out _⟩
        · have HE := Lib.hid (FIN.out HS.out (fun j hj => hst.out j (by omega)))
          go_wp2_with fail
          go_ret
          exact ⟨ret1 (by rw [HE.out]; rfl), HBR2.out⟩
end Go.Proofs.Ytopghgoheaaceaa
