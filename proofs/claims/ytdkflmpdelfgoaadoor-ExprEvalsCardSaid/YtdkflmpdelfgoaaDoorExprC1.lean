/-
  caught, and Parse's deferred call: what each call returns. Conditions: none.
-/
import Derived.Test.YtdkflmpdelfgoaaDoorExprY
import Derived.Recover
namespace Go.Proofs.YtdkflmpdelfgoaaDoor
open Go.RowKit Go.Shelf
set_option linter.unusedVariables false
set_option linter.unusedSimpArgs false
attribute [local go_sem] Oper.semAt_some

theorem assert_fault (x : Int) (V : World) : (Instr.typeAssert (.iface 114 (.agg #[.int .i64 x])) 20 114 true).run Tryd.prog V = .ok (.tuple #[.agg #[.int .i64 x], .bool true]) V := by
  show _ = _
  kernel_rfl
set_option maxRecDepth 100000 in
set_option maxHeartbeats 4000000 in
theorem caught_any (x : Int) (w : World) :
    Calls Tryd.prog 53 #[.iface 114 (.agg #[.int .i64 x])] w fun e w' => e = .returned (.int .i64 x) ∧ Below w.heap.size w w' := by
  have TA := assert_fault x
  go_enter Tryd.func53, Tryd.ntmps53
  go_wp2_with fail
  go_ret
  exact ⟨rfl, below1 w _⟩
/-- the three results' boxes -/
def Res3 (B : Nat) (v : Value) (n x : Int) (W : World) : Prop := W.heap[B]? = some (.cells #[v] 22 (0, 0)) ∧ W.heap[B + 1]? = some (.cells #[.int .i64 n] 3 (0, 0)) ∧ W.heap[B + 2]? = some (.cells #[.int .i64 x] 27 (0, 0))
theorem one_set {W : World} {B : Nat} {T : TypeId} {z : Nat × Nat} {a : Value} (h : W.heap[B]? = some (.cells #[a] T z)) (x : Value) : (W.setCell ⟨B, 0, none⟩ x).heap[B]? = some (.cells #[x] T z) := by
  simp only [World.setCell, Array.getElem?_modify, if_true, h, Option.map_some]; rfl
theorem cell1 {W : World} {B : Nat} {T : TypeId} {z : Nat × Nat} {a : Value} (h : W.heap[B]? = some (.cells #[a] T z)) : W.cell? ⟨B, 0, none⟩ = some a := by rw [Lib.cell_of_heap h]; rfl
theorem Res3.set {B : Nat} {v : Value} {n x : Int} {W : World} (h : Res3 B v n x W) (v' : Value) (n' x' : Int) : Res3 B v' n' x' (((W.setCell ⟨B, 0, none⟩ v').setCell ⟨B + 1, 0, none⟩ (.int .i64 n')).setCell ⟨B + 2, 0, none⟩ (.int .i64 x')) :=
  ⟨set_far (set_far (one_set h.1 _) (by omega)) (by omega), set_far (one_set (set_far h.2.1 (by omega)) _) (by omega), one_set (set_far (set_far h.2.2 (by omega)) (by omega)) _⟩
theorem Res3.thn {B : Nat} {v : Value} {n x : Int} {W W' : World} (h : Res3 B v n x W) {b : Nat} (hb : Below b W W') (hB : B + 2 < b) : Res3 B v n x W' :=
  ⟨(hb.block _ (by omega)).trans h.1, (hb.block _ (by omega)).trans h.2.1, (hb.block _ (by omega)).trans h.2.2⟩
set_option maxRecDepth 100000 in
set_option maxHeartbeats 4000000 in
theorem catch_panicking (B : Nat) (x : Int) (older : List PanicEntry) (w : World) (v : Value) (n y : Int) (h : Res3 B v n y w) :
    CallsD Tryd.prog 52 #[.pointer (some ⟨B, 0, none⟩), .pointer (some ⟨B + 1, 0, none⟩), .pointer (some ⟨B + 2, 0, none⟩)] (.panicking ({ v := .iface 114 (.agg #[.int .i64 x]), recovered := false } :: older)) w fun e u' w' =>
      e = .returned (.tuple #[]) ∧ u' = .panicking ({ v := .iface 114 (.agg #[.int .i64 x]), recovered := true } :: older) ∧ Res3 B (.slice none 0 0) 0 x w' ∧ Below B w w' := by
  have CG := Lib.hid (fun V => caught_any x V)
  have H := Lib.hid h
  clear h
  refine callsD_of_wpS Tryd.func52 rfl fun c₀ cs hu => ?_
  apply wpS_seq
  apply wpS_region
  simp [wpOpsS, go_sem, recoverD, hu, Tryd.ntmps52, Exit.thenS]
  refine (show Code.wpS _ _ _ ⟨#[.pointer (some ⟨B, 0, none⟩), .pointer (some ⟨B + 1, 0, none⟩), .pointer (some ⟨B + 2, 0, none⟩), .iface 114 (.agg #[.int .i64 x]), .iface 114 (.agg #[.int .i64 x]), undef, undef, undef, undef], []⟩ _ _ from ?_)
  refine wpS_of_wp ?_
  go_wp2_with fail
  refine (CG.out _).mono ?_
  rintro e w1 ⟨rfl, hb⟩
  have H1 := Lib.hid (H.out.thn hb (heap_lt H.out.2.2))
  have HB := Lib.hid (show Below B w w1 from hb.mono (by have := heap_lt H.out.2.2; omega))
  have c0 := cell1 H1.out.1
  have c1 := cell1 H1.out.2.1
  have c2 := cell1 H1.out.2.2
  have f0 := fz_of H1.out.1
  have f1 := fz_of H1.out.2.1
  have f2 := fz_of H1.out.2.2
  clear hb
  go_wp2_with fail
  simp [bodyPostS, results, Tryd.results52]
  exact ⟨H1.out.set _ _ _, ((HB.out.setCell (p := ⟨B, 0, none⟩) (Nat.le_refl _) _).setCell (p := ⟨B + 1, 0, none⟩) (by show B ≤ B + 1; omega) _).setCell (p := ⟨B + 2, 0, none⟩) (by show B ≤ B + 2; omega) _⟩
theorem catch_idle (a b c : Addr) (w : World) :
    CallsD Tryd.prog 52 #[.pointer (some a), .pointer (some b), .pointer (some c)] .returning w fun e u' w' => e = .returned (.tuple #[]) ∧ u' = .returning ∧ w' = w := by
  refine callsD_of_wpS Tryd.func52 rfl fun c₀ cs hu => ?_
  apply wpS_seq
  apply wpS_region
  simp [wpOpsS, go_sem, recoverD, hu, Tryd.ntmps52, Exit.thenS]
  refine (show Code.wpS _ _ _ ⟨#[.pointer (some a), .pointer (some b), .pointer (some c), .nilIface, .nilIface, undef, undef, undef, undef], []⟩ _ _ from ?_)
  refine wpS_of_wp ?_
  go_wp2_with fail
  cases c₀
  simp_all [bodyPostS, results, Tryd.results52]
end Go.Proofs.YtdkflmpdelfgoaaDoor
namespace Go.Proofs.YtdkflmpdelfgoaaDoor
open Go.RowKit Go.Shelf
set_option linter.unusedVariables false
set_option linter.unusedSimpArgs false
attribute [local go_sem] Oper.semAt_some

def parseT (T : List Tok) : List Tm × Nat × Int := match runP T (3 * T.length + 2) (.row 6) ⟨0, [], 0, 0⟩ with
  | .ok s => (s.tms, s.at_, 0)
  | .error x => ([], 0, x)
theorem tri_of_own {W : World} {base : Nat} {v : Value} {l : List Tm} (h : W.ownsRow base 57 3 v l.length (tmC l)) : TriO tmF W v l := by
  rcases h.2 with ⟨h1, h2⟩ | ⟨g, cap, cur, h1, h2, h3, h4, h5, h6⟩
  · exact .inl ⟨.inl h1, List.eq_nil_of_length_eq_zero h2⟩
  · refine .inr ⟨g, 0, cap, h1, h4, h5, (Array.getElem?_eq_some_iff.1 h3).1, fun k x hx => ?_⟩
    subst h1
    have hk : k < l.length := by
      rcases Nat.lt_or_ge k l.length with g | g
      · exact g
      · rw [List.getElem?_eq_none g] at hx; cases hx
    have hat : ∀ (T : List Tm) (k : Nat) (x : Tm), T[k]? = some x → (tmC T)[k * 3]? = some (.int .i64 x.k) ∧ (tmC T)[k * 3 + 1]? = some (.int .i64 x.n) ∧ (tmC T)[k * 3 + 2]? = some (.string x.s) := by
      intro T
      induction T with
      | nil => intro k x h; simp at h
      | cons y T ih =>
        intro k x h
        cases k with
        | zero => simp at h; subst h; exact ⟨rfl, rfl, rfl⟩
        | succ k =>
          have := ih k x (by simpa using h)
          rw [show (k + 1) * 3 = k * 3 + 1 + 1 + 1 by omega]
          exact this
    obtain ⟨a, b, c⟩ := hat l k x hx
    have hlen : (tmC l).length = l.length * 3 := h.1
    refine ⟨?_, ?_, ?_⟩
    · rw [h.cellAt _ (by omega), show 0 + k * 3 = k * 3 by omega]; exact a
    · rw [h.cellAt _ (by omega), show 0 + k * 3 + 1 = k * 3 + 1 by omega]; exact b
    · rw [h.cellAt _ (by omega), show 0 + k * 3 + 2 = k * 3 + 2 by omega]; exact c
theorem three_new (w : World) : Res3 w.heap.size (.slice none 0 0) 0 0 (((w.alloc (.cells #[.slice none 0 0] 22)).alloc (.cells #[.int .i64 0] 3)).alloc (.cells #[.int .i64 0] 27)) ∧ Below w.heap.size w (((w.alloc (.cells #[.slice none 0 0] 22)).alloc (.cells #[.int .i64 0] 3)).alloc (.cells #[.int .i64 0] 27)) ∧ (((w.alloc (.cells #[.slice none 0 0] 22)).alloc (.cells #[.int .i64 0] 3)).alloc (.cells #[.int .i64 0] 27)).heap.size = w.heap.size + 3 := by
  obtain ⟨n1, n2, n3, n4⟩ := two_new w (.cells #[.slice none 0 0] 22) (.cells #[.int .i64 0] 3)
  generalize (w.alloc (.cells #[.slice none 0 0] 22)).alloc (.cells #[.int .i64 0] 3) = W at *
  have hn := heap_alloc_new W (.cells #[.int .i64 0] 27)
  rw [n4] at hn
  exact ⟨⟨block_kept (below1 W _) n1, block_kept (below1 W _) n2, hn⟩, n3.alloc (by omega) _, by simp [n4]⟩
set_option maxRecDepth 100000 in
set_option maxHeartbeats 8000000 in
theorem parse_any (v : Value) (T : List Tok) (w : World) (hG : GoodE w) (hT : TokO w v T) (hl : T.length ≤ 1000000) (hu : ∀ x ∈ T, x.n < 18446744073709551616) (ht : ∀ x ∈ T, x.t.length ≤ 281474976710656) :
    Calls Tryd.prog 27 #[v] w fun e w' => (∃ v', e = .returned (.tuple #[v', .int .i64 ((parseT T).2.1 : Int), .int .i64 (parseT T).2.2]) ∧ TriO tmF w' v' (parseT T).1) ∧ Below w.heap.size w w' := by
  have hmf : ∀ (fn : Fn) (first cap : Array Value) (w : World), (Instr.makeFunc fn first cap).run Tryd.prog w = .ok (.func fn first cap) w := fun _ _ _ _ => rfl
  unfold parseT
  obtain ⟨r, hr⟩ : ∃ r, runP T (3 * T.length + 2) (.row 6) ⟨0, [], 0, 0⟩ = r := ⟨_, rfl⟩
  simp only [hr]
  replace hr := Lib.hid hr
  obtain ⟨A, c, rfl⟩ := hT.slice
  replace hT := Lib.hid hT
  obtain ⟨r3, rb, rz⟩ := three_new w
  have R3 := Lib.hid r3
  have RB := Lib.hid rb
  have RZ := Lib.hid rz
  go_enter_defers Tryd.func27, Tryd.ntmps27
  go_upto_region 1 with fail
  generalize ((w.alloc (.cells #[.slice none 0 0] 22)).alloc (.cells #[.int .i64 0] 3)).alloc (.cells #[.int .i64 0] 27) = w0 at *
  clear r3 rb rz
  have BASE := Lib.hid (show Base w0 (.slice A T.length c) T from ⟨hG.thn RB.out, hT.out.keep RB.out, hl, hu, ht⟩)
  have PS0 := Lib.hid (show PS w0 (.slice A T.length c) ⟨0, [], 0, 0⟩ (w0.alloc (.cells #[.slice A T.length c, .int .i64 0, .slice none 0 0, .int .i64 0, .int .i64 0] 94)) from ⟨⟨_, heap_alloc_new w0 _, World.ownsRow_nil _ _ _ _⟩, below1 w0 _⟩)
  have RW := Lib.hid (row_any BASE.out (3 * T.length + 2) 6 ⟨0, [], 0, 0⟩ _ PS0.out ⟨Nat.zero_le _, Nat.le_refl _, Nat.le_refl _, by decide⟩ (by show 3 * (T.length - 0) + 2 ≤ _; omega) (by decide))
  have FIN := Lib.hid (fun s' h => runP_fin (T := T) (3 * T.length + 2) (.row 6) ⟨0, [], 0, 0⟩ s' h (Nat.zero_le _))
  rw [hr.out] at RW FIN
  clear hG hu ht hT
  go_wp2_with fail
  generalize w0.alloc (.cells #[.slice A T.length c, .int .i64 0, .slice none 0 0, .int .i64 0, .int .i64 0] 94) = w1 at *
  refine RW.out.mono ?_
  rintro e w2 ho
  rcases out_end ho with ⟨s', rfl, rfl, hs⟩ | ⟨x, rfl, rfl, hb⟩
  · have R2 := Lib.hid (R3.out.thn hs.bel (by have := RZ.out; omega))
    have HS := Lib.hid hs
    obtain ⟨sv, g1, hown⟩ := hs.box
    obtain ⟨vb, vc, rfl⟩ := own_sliceN hown
    have HOWN := Lib.hid hown
    obtain ⟨c0, c1, c2, c3, c4⟩ := cells5 g1
    have r0 := cell1 R2.out.1
    have r1 := cell1 R2.out.2.1
    have r2 := cell1 R2.out.2.2
    have f0 := fz_of R2.out.1
    have f1 := fz_of R2.out.2.1
    have f2 := fz_of R2.out.2.2
    clear hs g1 hown c0 c3 c4 ho
    go_upto_region 4 with fail
    rw [RZ.out] at c1 c2 ⊢
    have R4 := Lib.hid (show Res3 w.heap.size (.slice vb s'.tms.length vc) (s'.at_ : Int) 0 (((w2.setCell ⟨w.heap.size, 0, none⟩ (.slice vb s'.tms.length vc)).setCell ⟨w.heap.size + 1, 0, none⟩ (.int .i64 (s'.at_ : Int))).setCell ⟨w.heap.size + 1 + 1, 0, none⟩ (.int .i64 0)).drew from R2.out.set _ _ _)
    have HB4 := Lib.hid (show Below w.heap.size w (((w2.setCell ⟨w.heap.size, 0, none⟩ (.slice vb s'.tms.length vc)).setCell ⟨w.heap.size + 1, 0, none⟩ (.int .i64 (s'.at_ : Int))).setCell ⟨w.heap.size + 1 + 1, 0, none⟩ (.int .i64 0)).drew from ((((Below.thn RB.out RB.out.size HS.out.bel).setCell (p := ⟨w.heap.size, 0, none⟩) (Nat.le_refl _) _).setCell (p := ⟨w.heap.size + 1, 0, none⟩) (by show w.heap.size ≤ w.heap.size + 1; omega) _).setCell (p := ⟨w.heap.size + 1 + 1, 0, none⟩) (by show w.heap.size ≤ w.heap.size + 1 + 1; omega) _).drew)
    have TR4 := Lib.hid (show TriO tmF (((w2.setCell ⟨w.heap.size, 0, none⟩ (.slice vb s'.tms.length vc)).setCell ⟨w.heap.size + 1, 0, none⟩ (.int .i64 (s'.at_ : Int))).setCell ⟨w.heap.size + 1 + 1, 0, none⟩ (.int .i64 0)).drew (.slice vb s'.tms.length vc) s'.tms from tri_of_own (own_far (own_far (own_far HOWN.out (show w.heap.size < w0.heap.size + 1 by have := RZ.out; omega)) (show w.heap.size + 1 < w0.heap.size + 1 by have := RZ.out; omega)) (show w.heap.size + 1 + 1 < w0.heap.size + 1 by have := RZ.out; omega)))
    go_region
    all_goals
      go_wp2_with fail
      generalize (((w2.setCell ⟨w.heap.size, 0, none⟩ (.slice vb s'.tms.length vc)).setCell ⟨w.heap.size + 1, 0, none⟩ (.int .i64 (s'.at_ : Int))).setCell ⟨w.heap.size + 1 + 1, 0, none⟩ (.int .i64 0)).drew = V at *
      refine leaves_cons (f := 52) (args := #[.pointer (some ⟨w.heap.size, 0, none⟩), .pointer (some ⟨w.heap.size + 1, 0, none⟩), .pointer (some ⟨w.heap.size + 1 + 1, 0, none⟩)]) (by simp) (by simp [go_sem]) ?_
      refine (catch_idle _ _ _ _).mono ?_
      rintro e u' w'' ⟨rfl, rfl, rfl⟩
      have q0 := cell1 R4.out.1
      have q1 := cell1 R4.out.2.1
      have q2 : w''.cell? ⟨w.heap.size + 1 + 1, 0, none⟩ = _ := cell1 R4.out.2.2
      simp [Leaves, settle, results, Tryd.results27, go_sem, q0, q1, q2]
      exact ⟨TR4.out, HB4.out⟩
  · have R2 := Lib.hid (R3.out.thn hb (by have := RZ.out; omega))
    have HB2 := Lib.hid (show Below w.heap.size w w2 from Below.thn RB.out RB.out.size hb)
    unfold panV
    go_wp2_with fail
    refine leaves_cons (f := 52) (args := #[.pointer (some ⟨w.heap.size, 0, none⟩), .pointer (some ⟨w.heap.size + 1, 0, none⟩), .pointer (some ⟨w.heap.size + 1 + 1, 0, none⟩)]) (by simp) (by simp [go_sem]) ?_
    refine (catch_panicking w.heap.size x [] _ _ _ _ R2.out).mono ?_
    rintro e u' w'' ⟨rfl, rfl, R4, hb4⟩
    have q0 := cell1 R4.1
    have q1 := cell1 R4.2.1
    have q2 : w''.cell? ⟨w.heap.size + 1 + 1, 0, none⟩ = _ := cell1 R4.2.2
    simp [Leaves, settle, results, Tryd.results27, go_sem, q0, q1, q2]
    exact ⟨.inl ⟨.inl rfl, rfl⟩, Below.trans HB2.out hb4⟩
end Go.Proofs.YtdkflmpdelfgoaaDoor
