/-
  caught, and Parse's deferred call: what each call returns. Conditions: none.
-/
import Derived.Test.YtdkflmpdelfgoaaGreatDoorExprZ
import Derived.Recover
import Derived.Test.YtdkflmpdelfgoaaGreatDoorExprQ
import Derived.Test.YtdkflmpdelfgoaaGreatDoorExprJ
import Derived.Test.YtdkflmpdelfgoaaGreatDoorExprRefA
import Derived.Laws.Closers25b
namespace Go.Proofs.YtdkflmpdelfgoaaGreatDoor
open Go.RowKit Go.Shelf
set_option linter.unusedVariables false
set_option linter.unusedSimpArgs false
attribute [local go_sem] Oper.semAt_some

theorem assert_fault (x : Int) (V : World) : (Instr.typeAssert (.iface 91 (.agg #[.int .i64 x])) 20 91 true).run Tryz.prog V = .ok (.tuple #[.agg #[.int .i64 x], .bool true]) V := by
  show _ = _
  kernel_rfl
set_option maxRecDepth 100000 in
set_option maxHeartbeats 4000000 in
theorem caught_any (x : Int) (w : World) :
    Calls Tryz.prog 21 #[.iface 91 (.agg #[.int .i64 x])] w fun e w' => e = .returned (.int .i64 x) ∧ Below w.heap.size w w' := by
  have TA := assert_fault x
  go_enter Tryz.func21, Tryz.ntmps21
  go_wp2_with fail
  go_ret
  exact ⟨rfl, below1 w _⟩
/-- the three results' boxes -/
def Res3 (B : Nat) (v : Value) (n x : Int) (W : World) : Prop := W.heap[B]? = some (.cells #[v] 22 (0, 0)) ∧ W.heap[B + 1]? = some (.cells #[.int .i64 n] 3 (0, 0)) ∧ W.heap[B + 2]? = some (.cells #[.int .i64 x] 25 (0, 0))
theorem one_set {W : World} {B : Nat} {T : TypeId} {z : Nat × Nat} {a : Value} (h : W.heap[B]? = some (.cells #[a] T z)) (x : Value) : (W.setCell ⟨B, 0, none⟩ x).heap[B]? = some (.cells #[x] T z) := by
  simp only [World.setCell, Array.getElem?_modify, if_true, h, Option.map_some]; rfl
theorem cell1 {W : World} {B : Nat} {T : TypeId} {z : Nat × Nat} {a : Value} (h : W.heap[B]? = some (.cells #[a] T z)) : W.cell? ⟨B, 0, none⟩ = some a := by rw [Lib.cell_of_heap h]; rfl
theorem Res3.set {B : Nat} {v : Value} {n x : Int} {W : World} (h : Res3 B v n x W) (v' : Value) (n' x' : Int) : Res3 B v' n' x' (((W.setCell ⟨B, 0, none⟩ v').setCell ⟨B + 1, 0, none⟩ (.int .i64 n')).setCell ⟨B + 2, 0, none⟩ (.int .i64 x')) :=
  ⟨set_far (set_far (one_set h.1 _) (by omega)) (by omega), set_far (one_set (set_far h.2.1 (by omega)) _) (by omega), one_set (set_far (set_far h.2.2 (by omega)) (by omega)) _⟩
theorem Res3.thn {B : Nat} {v : Value} {n x : Int} {W W' : World} (h : Res3 B v n x W) {b : Nat} (hb : Below b W W') (hB : B + 2 < b) : Res3 B v n x W' :=
  ⟨(hb.block _ (by omega)).trans h.1, (hb.block _ (by omega)).trans h.2.1, (hb.block _ (by omega)).trans h.2.2⟩
set_option maxRecDepth 100000 in
set_option maxHeartbeats 4000000 in
theorem catch_panicking (B : Nat) (x : Int) (older : List PanicEntry) (w : World) (v : Value) (n y : Int) (h : Res3 B v n y w) :
    CallsD Tryz.prog 20 #[.pointer (some ⟨B, 0, none⟩), .pointer (some ⟨B + 1, 0, none⟩), .pointer (some ⟨B + 2, 0, none⟩)] (.panicking ({ v := .iface 91 (.agg #[.int .i64 x]), recovered := false } :: older)) w fun e u' w' =>
      e = .returned (.tuple #[]) ∧ u' = .panicking ({ v := .iface 91 (.agg #[.int .i64 x]), recovered := true } :: older) ∧ Res3 B (.slice none 0 0) 0 x w' ∧ Below B w w' := by
  have CG := Lib.hid (fun V => caught_any x V)
  have H := Lib.hid h
  clear h
  refine callsD_of_wpS Tryz.func20 rfl fun c₀ cs hu => ?_
  apply wpS_seq
  apply wpS_region
  simp [wpOpsS, go_sem, recoverD, hu, Tryz.ntmps20, Exit.thenS]
  refine (show Code.wpS _ _ _ ⟨#[.pointer (some ⟨B, 0, none⟩), .pointer (some ⟨B + 1, 0, none⟩), .pointer (some ⟨B + 2, 0, none⟩), .iface 91 (.agg #[.int .i64 x]), .iface 91 (.agg #[.int .i64 x]), undef, undef, undef, undef], []⟩ _ _ from ?_)
  refine wpS_of_wp ?_
  go_wp2_with fail
  refine (CG.out _).mono ?_
  rintro e w1 ⟨rfl, hb⟩
  have H1 := Lib.hid (H.out.thn hb (heap_lt H.out.2.2))
  have HB := Lib.hid (show Below B w w1 from hb.mono (by have := heap_lt H.out.2.2; omega))
  have c0 := cell1 H1.out.1
  have c1 := cell1 H1.out.2.1
  have c2 := cell1 H1.out.2.2
  have f0 := fz_of H1.out.1
  have f1 := fz_of H1.out.2.1
  have f2 := fz_of H1.out.2.2
  clear hb
  go_wp2_with fail
  simp [bodyPostS, results, Tryz.results20]
  exact ⟨H1.out.set _ _ _, ((HB.out.setCell (p := ⟨B, 0, none⟩) (Nat.le_refl _) _).setCell (p := ⟨B + 1, 0, none⟩) (by show B ≤ B + 1; omega) _).setCell (p := ⟨B + 2, 0, none⟩) (by show B ≤ B + 2; omega) _⟩
theorem catch_idle (a b c : Addr) (w : World) :
    CallsD Tryz.prog 20 #[.pointer (some a), .pointer (some b), .pointer (some c)] .returning w fun e u' w' => e = .returned (.tuple #[]) ∧ u' = .returning ∧ w' = w := by
  refine callsD_of_wpS Tryz.func20 rfl fun c₀ cs hu => ?_
  apply wpS_seq
  apply wpS_region
  simp [wpOpsS, go_sem, recoverD, hu, Tryz.ntmps20, Exit.thenS]
  refine (show Code.wpS _ _ _ ⟨#[.pointer (some a), .pointer (some b), .pointer (some c), .nilIface, .nilIface, undef, undef, undef, undef], []⟩ _ _ from ?_)
  refine wpS_of_wp ?_
  go_wp2_with fail
  cases c₀
  simp_all [bodyPostS, results, Tryz.results20]
end Go.Proofs.YtdkflmpdelfgoaaGreatDoor
namespace Go.Proofs.YtdkflmpdelfgoaaGreatDoor
open Go.RowKit Go.Shelf
set_option linter.unusedVariables false
set_option linter.unusedSimpArgs false
attribute [local go_sem] Oper.semAt_some

def parseT (T : List Tok) : List Tm × Nat × Int := match runP T (3 * T.length + 2) (.row 6) ⟨0, [], 0, 0⟩ with
  | .ok s => (s.tms, s.at_, 0)
  | .error x => ([], 0, x)
theorem tri_of_own {W : World} {base : Nat} {v : Value} {l : List Tm} (h : W.ownsRow base 42 3 v l.length (tmC l)) : TriO tmF W v l := by
  rcases h.2 with ⟨h1, h2⟩ | ⟨g, cap, cur, h1, h2, h3, h4, h5, h6⟩
  · exact .inl ⟨.inl h1, List.eq_nil_of_length_eq_zero h2⟩
  · refine .inr ⟨g, 0, cap, h1, h4, h5, (Array.getElem?_eq_some_iff.1 h3).1, fun k x hx => ?_⟩
    subst h1
    have hk : k < l.length := by
      rcases Nat.lt_or_ge k l.length with g | g
      · exact g
      · rw [List.getElem?_eq_none g] at hx; cases hx
    have hat : ∀ (T : List Tm) (k : Nat) (x : Tm), T[k]? = some x → (tmC T)[k * 3]? = some (.int .i64 x.k) ∧ (tmC T)[k * 3 + 1]? = some (.int .i64 x.n) ∧ (tmC T)[k * 3 + 2]? = some (.string x.s) := by
      intro T
      induction T with
      | nil => intro k x h; simp at h
      | cons y T ih =>
        intro k x h
        cases k with
        | zero => simp at h; subst h; exact ⟨rfl, rfl, rfl⟩
        | succ k =>
          have := ih k x (by simpa using h)
          rw [show (k + 1) * 3 = k * 3 + 1 + 1 + 1 by omega]
          exact this
    obtain ⟨a, b, c⟩ := hat l k x hx
    have hlen : (tmC l).length = l.length * 3 := h.1
    refine ⟨?_, ?_, ?_⟩
    · rw [h.cellAt _ (by omega), show 0 + k * 3 = k * 3 by omega]; exact a
    · rw [h.cellAt _ (by omega), show 0 + k * 3 + 1 = k * 3 + 1 by omega]; exact b
    · rw [h.cellAt _ (by omega), show 0 + k * 3 + 2 = k * 3 + 2 by omega]; exact c
theorem three_new (w : World) : Res3 w.heap.size (.slice none 0 0) 0 0 (((w.alloc (.cells #[.slice none 0 0] 22)).alloc (.cells #[.int .i64 0] 3)).alloc (.cells #[.int .i64 0] 25)) ∧ Below w.heap.size w (((w.alloc (.cells #[.slice none 0 0] 22)).alloc (.cells #[.int .i64 0] 3)).alloc (.cells #[.int .i64 0] 25)) ∧ (((w.alloc (.cells #[.slice none 0 0] 22)).alloc (.cells #[.int .i64 0] 3)).alloc (.cells #[.int .i64 0] 25)).heap.size = w.heap.size + 3 := by
  obtain ⟨n1, n2, n3, n4⟩ := two_new w (.cells #[.slice none 0 0] 22) (.cells #[.int .i64 0] 3)
  generalize (w.alloc (.cells #[.slice none 0 0] 22)).alloc (.cells #[.int .i64 0] 3) = W at *
  have hn := heap_alloc_new W (.cells #[.int .i64 0] 25)
  rw [n4] at hn
  exact ⟨⟨block_kept (below1 W _) n1, block_kept (below1 W _) n2, hn⟩, n3.alloc (by omega) _, by simp [n4]⟩
set_option maxRecDepth 100000 in
set_option maxHeartbeats 8000000 in
theorem parse_any (v : Value) (T : List Tok) (w : World) (hG : GoodE w) (hT : TokO w v T) (hl : T.length ≤ 1000000) (hu : ∀ x ∈ T, x.n < 18446744073709551616) (ht : ∀ x ∈ T, x.t.length ≤ 281474976710656) :
    Calls Tryz.prog 10 #[v] w fun e w' => (∃ v', e = .returned (.tuple #[v', .int .i64 ((parseT T).2.1 : Int), .int .i64 (parseT T).2.2]) ∧ TriO tmF w' v' (parseT T).1) ∧ Below w.heap.size w w' := by
  have hmf : ∀ (fn : Fn) (first cap : Array Value) (w : World), (Instr.makeFunc fn first cap).run Tryz.prog w = .ok (.func fn first cap) w := fun _ _ _ _ => rfl
  unfold parseT
  obtain ⟨r, hr⟩ : ∃ r, runP T (3 * T.length + 2) (.row 6) ⟨0, [], 0, 0⟩ = r := ⟨_, rfl⟩
  simp only [hr]
  replace hr := Lib.hid hr
  obtain ⟨A, c, rfl⟩ := hT.slice
  replace hT := Lib.hid hT
  obtain ⟨r3, rb, rz⟩ := three_new w
  have R3 := Lib.hid r3
  have RB := Lib.hid rb
  have RZ := Lib.hid rz
  go_enter_defers Tryz.func10, Tryz.ntmps10
  go_upto_region 1 with fail
  generalize ((w.alloc (.cells #[.slice none 0 0] 22)).alloc (.cells #[.int .i64 0] 3)).alloc (.cells #[.int .i64 0] 25) = w0 at *
  clear r3 rb rz
  have BASE := Lib.hid (show Base w0 (.slice A T.length c) T from ⟨hG.thn RB.out, hT.out.keep RB.out, hl, hu, ht⟩)
  have PS0 := Lib.hid (show PS w0 (.slice A T.length c) ⟨0, [], 0, 0⟩ (w0.alloc (.cells #[.slice A T.length c, .int .i64 0, .slice none 0 0, .int .i64 0, .int .i64 0] 67)) from ⟨⟨_, heap_alloc_new w0 _, World.ownsRow_nil _ _ _ _⟩, below1 w0 _⟩)
  have RW := Lib.hid (row_any BASE.out (3 * T.length + 2) 6 ⟨0, [], 0, 0⟩ _ PS0.out ⟨Nat.zero_le _, Nat.le_refl _, Nat.le_refl _, by decide⟩ (by show 3 * (T.length - 0) + 2 ≤ _; omega) (by decide))
  have FIN := Lib.hid (fun s' h => runP_fin (T := T) (3 * T.length + 2) (.row 6) ⟨0, [], 0, 0⟩ s' h (Nat.zero_le _))
  rw [hr.out] at RW FIN
  clear hG hu ht hT
  go_wp2_with fail
  generalize w0.alloc (.cells #[.slice A T.length c, .int .i64 0, .slice none 0 0, .int .i64 0, .int .i64 0] 67) = w1 at *
  refine RW.out.mono ?_
  rintro e w2 ho
  rcases out_end ho with ⟨s', rfl, rfl, hs⟩ | ⟨x, rfl, rfl, hb⟩
  · have R2 := Lib.hid (R3.out.thn hs.bel (by have := RZ.out; omega))
    have HS := Lib.hid hs
    obtain ⟨sv, g1, hown⟩ := hs.box
    obtain ⟨vb, vc, rfl⟩ := own_sliceN hown
    have HOWN := Lib.hid hown
    obtain ⟨c0, c1, c2, c3, c4⟩ := cells5 g1
    have r0 := cell1 R2.out.1
    have r1 := cell1 R2.out.2.1
    have r2 := cell1 R2.out.2.2
    have f0 := fz_of R2.out.1
    have f1 := fz_of R2.out.2.1
    have f2 := fz_of R2.out.2.2
    clear hs g1 hown c0 c3 c4 ho
    go_upto_region 4 with fail
    rw [RZ.out] at c1 c2 ⊢
    have R4 := Lib.hid (show Res3 w.heap.size (.slice vb s'.tms.length vc) (s'.at_ : Int) 0 (((w2.setCell ⟨w.heap.size, 0, none⟩ (.slice vb s'.tms.length vc)).setCell ⟨w.heap.size + 1, 0, none⟩ (.int .i64 (s'.at_ : Int))).setCell ⟨w.heap.size + 1 + 1, 0, none⟩ (.int .i64 0)).drew from R2.out.set _ _ _)
    have HB4 := Lib.hid (show Below w.heap.size w (((w2.setCell ⟨w.heap.size, 0, none⟩ (.slice vb s'.tms.length vc)).setCell ⟨w.heap.size + 1, 0, none⟩ (.int .i64 (s'.at_ : Int))).setCell ⟨w.heap.size + 1 + 1, 0, none⟩ (.int .i64 0)).drew from ((((Below.thn RB.out RB.out.size HS.out.bel).setCell (p := ⟨w.heap.size, 0, none⟩) (Nat.le_refl _) _).setCell (p := ⟨w.heap.size + 1, 0, none⟩) (by show w.heap.size ≤ w.heap.size + 1; omega) _).setCell (p := ⟨w.heap.size + 1 + 1, 0, none⟩) (by show w.heap.size ≤ w.heap.size + 1 + 1; omega) _).drew)
    have TR4 := Lib.hid (show TriO tmF (((w2.setCell ⟨w.heap.size, 0, none⟩ (.slice vb s'.tms.length vc)).setCell ⟨w.heap.size + 1, 0, none⟩ (.int .i64 (s'.at_ : Int))).setCell ⟨w.heap.size + 1 + 1, 0, none⟩ (.int .i64 0)).drew (.slice vb s'.tms.length vc) s'.tms from tri_of_own (own_far (own_far (own_far HOWN.out (show w.heap.size < w0.heap.size + 1 by have := RZ.out; omega)) (show w.heap.size + 1 < w0.heap.size + 1 by have := RZ.out; omega)) (show w.heap.size + 1 + 1 < w0.heap.size + 1 by have := RZ.out; omega)))
    go_region
    all_goals
      go_wp2_with fail
      generalize (((w2.setCell ⟨w.heap.size, 0, none⟩ (.slice vb s'.tms.length vc)).setCell ⟨w.heap.size + 1, 0, none⟩ (.int .i64 (s'.at_ : Int))).setCell ⟨w.heap.size + 1 + 1, 0, none⟩ (.int .i64 0)).drew = V at *
      refine leaves_cons (f := 20) (args := #[.pointer (some ⟨w.heap.size, 0, none⟩), .pointer (some ⟨w.heap.size + 1, 0, none⟩), .pointer (some ⟨w.heap.size + 1 + 1, 0, none⟩)]) (by simp) (by simp [go_sem]) ?_
      refine (catch_idle _ _ _ _).mono ?_
      rintro e u' w'' ⟨rfl, rfl, rfl⟩
      have q0 := cell1 R4.out.1
      have q1 := cell1 R4.out.2.1
      have q2 : w''.cell? ⟨w.heap.size + 1 + 1, 0, none⟩ = _ := cell1 R4.out.2.2
      simp [Leaves, settle, results, Tryz.results10, go_sem, q0, q1, q2]
      exact ⟨TR4.out, HB4.out⟩
  · have R2 := Lib.hid (R3.out.thn hb (by have := RZ.out; omega))
    have HB2 := Lib.hid (show Below w.heap.size w w2 from Below.thn RB.out RB.out.size hb)
    unfold panV
    go_wp2_with fail
    refine leaves_cons (f := 20) (args := #[.pointer (some ⟨w.heap.size, 0, none⟩), .pointer (some ⟨w.heap.size + 1, 0, none⟩), .pointer (some ⟨w.heap.size + 1 + 1, 0, none⟩)]) (by simp) (by simp [go_sem]) ?_
    refine (catch_panicking w.heap.size x [] _ _ _ _ R2.out).mono ?_
    rintro e u' w'' ⟨rfl, rfl, R4, hb4⟩
    have q0 := cell1 R4.1
    have q1 := cell1 R4.2.1
    have q2 : w''.cell? ⟨w.heap.size + 1 + 1, 0, none⟩ = _ := cell1 R4.2.2
    simp [Leaves, settle, results, Tryz.results10, go_sem, q0, q1, q2]
    exact ⟨.inl ⟨.inl rfl, rfl⟩, Below.trans HB2.out hb4⟩
end Go.Proofs.YtdkflmpdelfgoaaGreatDoor
namespace Go.Proofs.YtdkflmpdelfgoaaGreatDoor
open Go.RowKit Go.Shelf
set_option linter.unusedVariables false
set_option linter.unusedSimpArgs false

theorem checkF_app : ∀ (A B : List Tm) (h : Nat), checkF h (A ++ B) = (checkF h A).bind fun n => checkF n B
  | [], B, h => rfl
  | a :: A, B, h => by
    rw [List.cons_append, checkF, checkF]
    split
    · exact checkF_app A B _
    · rfl
theorem mayB_op {k : Nat} (h1 : k < 15) (h2 : takesN (k : Int) = 1 ∨ takesN (k : Int) = 2) : mayB ⟨(k : Int), 0, E0⟩ = true := by
  have hk : 3 ≤ k := by
    rcases Nat.lt_or_ge k 3 with g | g
    · exfalso
      have : k = 0 ∨ k = 1 ∨ k = 2 := by omega
      rcases this with rfl | rfl | rfl <;> revert h2 <;> decide
    · exact g
  unfold mayB
  rw [if_neg (by show ¬ ((k : Int) = 1); omega), if_neg (by show ¬ ((k : Int) = 2); omega), decide_eq_true (show (3 : Int) ≤ (k : Int) by omega), decide_eq_true (show (k : Int) ≤ 14 by omega)]
  rfl
/-- the terms that a job adds -/
def Adds (d : Nat) (s s' : St) : Prop := ∃ l, s'.tms = s.tms ++ l ∧ (∀ h, 1 ≤ h + d → checkF h l = some (h + d)) ∧ (d = 1 → s'.cnt ≤ 256)
theorem adds_leaf {s s' : St} {t : Tm} (h : leafF s t = .ok s') (hm : mayB t = true) (ht : takesN t.k = 0) : Adds 1 s s' := by
  obtain ⟨rfl, h2⟩ := leafF_ok h
  exact ⟨[t], rfl, fun h _ => by rw [checkF, if_pos ⟨hm, by omega⟩, ht]; rfl, fun _ => h2⟩
theorem runP_adds {T : List Tok} : ∀ (f : Nat) (j : Job) (s s' : St), runP T f j s = .ok s' → (match j with | .loop _ => s.cnt ≤ 256 | _ => True) → Adds j.adv s s' ∧ (match j with | .loop _ => s'.cnt ≤ 256 | _ => True)
  | 0, j, s, s', h, _ => by cases j <;> cases h
  | f + 1, .row g, s, s', h, _ => by
    rw [runP] at h
    obtain ⟨s1, h1, h2⟩ := bind_ok h
    obtain ⟨⟨l1, e1, c1, b1⟩, _⟩ := runP_adds f .opd _ _ h1 trivial
    obtain ⟨⟨l2, e2, c2, _⟩, b2⟩ := runP_adds f (.loop g) _ _ h2 (b1 rfl)
    refine ⟨⟨l1 ++ l2, by rw [e2, e1, List.append_assoc], fun h hh => ?_, fun _ => b2⟩, trivial⟩
    rw [checkF_app, c1 h (by simp [Job.adv])]
    exact c2 (h + 1) (by simp [Job.adv])
  | f + 1, .loop g, s, s', h, hc => by
    rw [runP] at h
    split at h
    · cases h; exact ⟨⟨[], (List.append_nil _).symm, fun h _ => rfl, fun h => by cases h⟩, hc⟩
    · rename_i k hk
      obtain ⟨k1, k2⟩ := opOf_lt hk
      split at h
      · cases h; exact ⟨⟨[], (List.append_nil _).symm, fun h _ => rfl, fun h => by cases h⟩, hc⟩
      · obtain ⟨s1, h1, h2⟩ := bind_ok h
        obtain ⟨⟨l1, e1, c1, b1⟩, _⟩ := runP_adds f (.row _) _ _ h1 trivial
        obtain ⟨⟨l2, e2, c2, _⟩, b2⟩ := runP_adds f (.loop g) _ _ h2 (b1 rfl)
        refine ⟨⟨l1 ++ ([⟨k, 0, E0⟩] ++ l2), by rw [e2]; simp only [e1, List.append_assoc], fun h hh => ?_, fun h => by cases h⟩, b2⟩
        simp only [Job.adv] at hh c1 c2 ⊢
        rw [checkF_app, c1 h (by omega)]
        show checkF (h + 1) ([⟨k, 0, E0⟩] ++ l2) = _
        rw [checkF_app, checkF, if_pos ⟨mayB_op k1 (.inr k2), by show takesN (k : Int) ≤ h + 1; omega⟩]
        show (checkF (h + 1 + 1 - takesN (k : Int)) []).bind _ = _
        rw [k2]
        exact c2 h hh
  | f + 1, .opd, s, s', h, _ => by
    rw [runP] at h
    refine ⟨?_, trivial⟩
    split at h
    · exact adds_leaf h (by rfl) (by rfl)
    · rename_i hr
      refine adds_leaf h ?_ (by rfl)
      unfold mayB
      rw [if_neg (by show ¬ ((2 : Int) = 1); decide), if_pos rfl]
      simp only [List.toList_toArray]
      rw [(readF_sym hr).2]; rfl
    · obtain ⟨s1, h1, h2⟩ := bind_ok h
      obtain ⟨rfl, _⟩ := enterF_ok h1
      obtain ⟨s2, h3, h4⟩ := bind_ok h2
      obtain ⟨⟨l1, e1, c1, b1⟩, _⟩ := runP_adds f (.row _) _ _ h3 trivial
      split at h4
      · cases h4; exact ⟨l1, e1, c1, b1⟩
      · cases h4
    · rename_i k hr
      obtain ⟨k1, k2⟩ := opOf_lt (readF_beh hr)
      obtain ⟨s1, h1, h2⟩ := bind_ok h
      obtain ⟨rfl, _⟩ := enterF_ok h1
      obtain ⟨s2, h3, h4⟩ := bind_ok h2
      obtain ⟨⟨l1, e1, c1, b1⟩, _⟩ := runP_adds f .opd _ _ h3 trivial
      cases h4
      refine ⟨l1 ++ [⟨k, 0, E0⟩], by simp only [e1, List.append_assoc], fun h hh => ?_, b1⟩
      simp only [Job.adv] at c1 ⊢
      rw [checkF_app, c1 h (by omega)]
      show checkF (h + 1) [⟨k, 0, E0⟩] = _
      rw [checkF, if_pos ⟨mayB_op k1 (.inl k2), by show takesN (k : Int) ≤ h + 1; omega⟩]
      show some (h + 1 + 1 - takesN (k : Int)) = _
      rw [k2]
      congr 1
    · cases h
theorem bind_err {x : Except Int St} {k : St → Except Int St} {e : Int} (h : x.bind k = .error e) : x = .error e ∨ ∃ s1, x = .ok s1 ∧ k s1 = .error e := by
  cases x with
  | ok s1 => exact .inr ⟨s1, rfl, h⟩
  | error y => cases h; exact .inl rfl
theorem leafF_err {s : St} {t : Tm} {x : Int} (h : leafF s t = .error x) : x = 93 := by
  unfold leafF at h; split at h
  · cases h; rfl
  · cases h
theorem enterF_err {s : St} {x : Int} (h : enterF s = .error x) : x = 93 := by
  unfold enterF at h; split at h
  · cases h; rfl
  · cases h
theorem runP_err {T : List Tok} : ∀ (f : Nat) (j : Job) (s : St) (x : Int), runP T f j s = .error x → x = 90 ∨ x = 93
  | 0, j, s, x, h => by cases j <;> (cases h; exact .inl rfl)
  | f + 1, .row g, s, x, h => by
    rw [runP] at h
    rcases bind_err h with h | ⟨s1, _, h⟩
    · exact runP_err f _ _ _ h
    · exact runP_err f _ _ _ h
  | f + 1, .loop g, s, x, h => by
    rw [runP] at h
    split at h
    · cases h
    · split at h
      · cases h
      · rcases bind_err h with h | ⟨s1, _, h⟩
        · exact runP_err f _ _ _ h
        · exact runP_err f _ _ _ h
  | f + 1, .opd, s, x, h => by
    rw [runP] at h
    split at h
    · exact .inr (leafF_err h)
    · exact .inr (leafF_err h)
    · rcases bind_err h with h | ⟨s1, _, h⟩
      · exact .inr (enterF_err h)
      · rcases bind_err h with h | ⟨s2, _, h⟩
        · exact runP_err f _ _ _ h
        · split at h
          · cases h
          · cases h; exact .inl rfl
    · rcases bind_err h with h | ⟨s1, _, h⟩
      · exact .inr (enterF_err h)
      · rcases bind_err h with h | ⟨s2, _, h⟩
        · exact runP_err f _ _ _ h
        · cases h
    · cases h; exact .inl rfl
/-- what Parse tells: terms that are an expression, and how many tokens; or an error, and nothing -/
theorem parseT_ok (T : List Tok) : ((parseT T).2.2 = 0 ∧ checkT (parseT T).1 = 0 ∧ 1 ≤ (parseT T).2.1 ∧ (parseT T).2.1 ≤ T.length) ∨ ((parseT T).2.2 ≠ 0 ∧ (parseT T).1 = [] ∧ (parseT T).2.1 = 0) := by
  unfold parseT
  cases h : runP T (3 * T.length + 2) (.row 6) ⟨0, [], 0, 0⟩ with
  | ok s =>
    left
    obtain ⟨a1, a2, a3, a4, a5⟩ := runP_fin _ _ _ _ h (Nat.zero_le _)
    obtain ⟨⟨l, e1, c1, b1⟩, _⟩ := runP_adds _ _ _ _ h trivial
    simp only [Job.adv, List.length_nil] at a1 a4 e1 c1 b1 ⊢
    refine ⟨trivial, ?_, by omega, a2⟩
    have hl : s.tms = l := by rw [e1]; rfl
    unfold checkT
    rw [hl, if_pos (c1 0 (by omega)), if_pos (by have := b1 trivial; rw [← hl]; omega)]
  | error x =>
    right
    refine ⟨?_, rfl, rfl⟩
    rcases runP_err _ _ _ _ h with rfl | rfl <;> decide
/-! ### what a value may be -/
def vOk (v : V3) : Prop := partB v.2.1 = true ∧ partB v.2.2 = true ∧ (v.2.1 = E0 ∨ v.2.1 ≠ v.2.2)
theorem partB_e : partB E0 = true := rfl
theorem vOk_num (n : Int) : vOk (n, E0, E0) := ⟨rfl, rfl, .inl rfl⟩
theorem vOk_neg {v : V3} (h : vOk v) : vOk (negV v) := by
  obtain ⟨n, p, m⟩ := v
  obtain ⟨a, b, c⟩ := h
  refine ⟨b, a, ?_⟩
  show m = E0 ∨ m ≠ p
  simp only at c
  by_cases hm : m = E0
  · exact .inl hm
  · right
    rintro rfl
    rcases c with c | c
    · exact hm c
    · exact c rfl
theorem vOk_add {x y : V3} (hx : vOk x) (hy : vOk y) : vOk (sumR x y).1 := by
  rw [← docAdd_eq]
  obtain ⟨a, ap, am⟩ := x
  obtain ⟨b, bp, bm⟩ := y
  obtain ⟨x1, x2, x3⟩ := hx
  obtain ⟨y1, y2, y3⟩ := hy
  simp only at x1 x2 x3 y1 y2 y3
  have hz : vOk Z3 := vOk_num 0
  have ex : ∀ {x y : BA}, x ≠ y → ¬ (y = x) := fun h e => h e.symm
  by_cases h1 : ap = E0 <;> by_cases h2 : am = E0 <;> by_cases h3 : bp = E0 <;> by_cases h4 : bm = E0 <;> by_cases h5 : ap = bm <;> by_cases h6 : am = bp <;> simp_all [docAdd, crossV, clearV, oneV, vOk, partB_e]
theorem vOk_getD {T : List V3} (h : ∀ y ∈ T, vOk y) (i : Nat) : vOk (T.getD i Z3) := by
  rw [List.getD_eq_getElem?_getD]
  cases hq : T[i]? with
  | none => exact vOk_num 0
  | some y => exact h y (List.mem_of_getElem? hq)
theorem vOk_reckon {t : Tm} {T : List V3} (hm : mayB t = true) (hT : ∀ y ∈ T, vOk y) : vOk (reckonT t T).1 := by
  have a := vOk_getD hT 0
  have b := vOk_getD hT 1
  unfold reckonT
  split
  · exact vOk_num _
  split
  · rename_i h1 h2
    unfold mayB at hm
    rw [if_neg h1, if_pos h2, Bool.and_eq_true] at hm
    refine ⟨by show partB t.s = true; unfold partB; rw [hm.2, Bool.or_true], rfl, ?_⟩
    show t.s = E0 ∨ t.s ≠ E0
    exact Classical.em _
  split
  · exact vOk_neg a
  split
  · exact vOk_add a b
  split
  · exact vOk_add a (vOk_neg b)
  split
  · exact vOk_num 0
  split
  · exact vOk_num _
  · exact vOk_num _
theorem vOk_fold : ∀ (T : List Tm) (st : List V3), (∀ x ∈ T, mayB x = true) → (∀ y ∈ st, vOk y) → ∀ y ∈ (foldF st T).1, vOk y
  | [], st, _, h => h
  | t :: T, st, hT, h => by
    rw [foldF]
    split
    · refine vOk_fold T _ (fun x hx => hT x (List.mem_cons_of_mem _ hx)) (fun y hy => ?_)
      rcases List.mem_append.1 hy with hy | hy
      · exact h y (List.mem_of_mem_take hy)
      · rw [List.mem_singleton.1 hy]
        exact vOk_reckon (hT t List.mem_cons_self) (fun z hz => h z (List.mem_of_mem_drop hz))
    · intro y hy; cases hy
theorem evalT_ok (T : List Tm) : vOk (evalT T).1 := by
  unfold evalT
  split
  · rename_i h
    obtain ⟨h1, _⟩ := checkT_ok h
    have hm := checkF_may _ _ _ h1
    have hf := vOk_fold T [] hm (fun y hy => by cases hy)
    unfold foldT
    split
    · exact vOk_getD hf 0
    · exact vOk_num 0
  · exact vOk_num 0
theorem printV_ok {v : V3} (h : vOk v) : (printV v).2 = 0 := by
  obtain ⟨a, b, c⟩ := h
  unfold printV
  rw [if_pos]
  unfold pvOk
  rw [a, b]
  rcases c with c | c
  · rw [decide_eq_true c]; rfl
  · rw [decide_eq_false c]; simp
/-! ### numbers of 64 bits -/
def InB (n : Int) : Prop := -9223372036854775808 ≤ n ∧ n ≤ 9223372036854775807
theorem inB_wrap (n : Int) : InB (wrap64 n) := by unfold InB wrap64; omega
theorem inB_zero : InB 0 := by unfold InB; omega
theorem inB_w (n : Int) : InB (IntKind.i64.wrap n) := by
  have := wrap_within .i64 n
  have e1 : IntKind.i64.min = -9223372036854775808 := by decide
  have e2 : IntKind.i64.max = 9223372036854775807 := by decide
  rw [e1, e2] at this
  exact this
theorem inB_bits (op : BinOp) (a b : Int) : InB (bits op .i64 a b) := by
  have := bits_within op .i64 a b
  have e1 : IntKind.i64.min = -9223372036854775808 := by decide
  have e2 : IntKind.i64.max = 9223372036854775807 := by decide
  rw [e1, e2] at this
  exact this
theorem inB_tmod {a : Int} (h : InB a) (b : Int) : InB (a.tmod b) := by
  unfold InB at *
  have hle : ∀ c : Int, 0 ≤ c → 0 ≤ c.tmod b ∧ c.tmod b ≤ c := fun c hc => by
    refine ⟨Int.tmod_nonneg b hc, ?_⟩
    have h1 := Int.natAbs_tmod c b
    have h2 : c.natAbs % b.natAbs ≤ c.natAbs := Nat.mod_le _ _
    have h3 := Int.tmod_nonneg b hc
    omega
  rcases Int.lt_or_le a 0 with g | g
  · have h1 := hle (-a) (by omega)
    rw [Int.neg_tmod] at h1
    omega
  · have h1 := hle a g
    omega
theorem inB_num {a : Int} (h : InB a) (k b : Int) : InB (numZ k a b).1 := by
  unfold numZ divZ shfZ
  repeat' split
  all_goals dsimp only
  all_goals first | with_reducible exact inB_wrap _ | with_reducible exact inB_bits _ _ _ | with_reducible exact inB_tmod h _ | with_reducible exact inB_zero
theorem inB_sumV {a b : Int} {ap am bp bm : BA} {z : Int × BA × BA} (h : sumV a b ap am bp bm = some z) : InB z.1 := by
  unfold sumV at h
  simp only at h
  split at h
  · cases h; exact inB_wrap _
  · cases h
theorem inB_sum (x y : V3) : InB (sumR x y).1.1 := by
  unfold sumR
  cases h : sumV x.1 y.1 x.2.1 x.2.2 y.2.1 y.2.2 with
  | none => exact inB_zero
  | some z => obtain ⟨n, p, m⟩ := z; exact inB_sumV h
theorem inB_getD {T : List V3} (h : ∀ y ∈ T, InB y.1) (i : Nat) : InB (T.getD i Z3).1 := by
  rw [List.getD_eq_getElem?_getD]
  cases hq : T[i]? with
  | none => exact inB_zero
  | some y => exact h y (List.mem_of_getElem? hq)
theorem inB_reckon {t : Tm} {T : List V3} (hm : InB t.n) (hT : ∀ y ∈ T, InB y.1) : InB (reckonT t T).1.1 := by
  have a0 := inB_getD hT 0
  unfold reckonT
  split
  · exact hm
  split
  · exact inB_zero
  split
  · show InB (wrap64 (-(T.getD 0 Z3).1)); exact inB_wrap _
  split
  · show InB (sumR (T.getD 0 Z3) (T.getD 1 Z3)).1.1; exact inB_sum _ _
  split
  · show InB (sumR (T.getD 0 Z3) (negV (T.getD 1 Z3))).1.1; exact inB_sum _ _
  split
  · exact inB_zero
  split
  · show InB (bits BinOp.xor IntKind.i64 (-1) (T.getD 0 Z3).1); exact inB_bits _ _ _
  · show InB (numZ t.k (T.getD 0 Z3).1 (T.getD 1 Z3).1).1; exact inB_num a0 _ _
theorem inB_fold : ∀ (T : List Tm) (st : List V3), (∀ x ∈ T, InB x.n) → (∀ y ∈ st, InB y.1) → ∀ y ∈ (foldF st T).1, InB y.1
  | [], st, _, h => h
  | t :: T, st, hT, h => by
    rw [foldF]
    split
    · refine inB_fold T _ (fun x hx => hT x (List.mem_cons_of_mem _ hx)) (fun y hy => ?_)
      rcases List.mem_append.1 hy with hy | hy
      · exact h y (List.mem_of_mem_take hy)
      · rw [List.mem_singleton.1 hy]
        exact inB_reckon (hT t List.mem_cons_self) (fun z hz => h z (List.mem_of_mem_drop hz))
    · intro y hy; cases hy
theorem inB_eval {T : List Tm} (hT : ∀ x ∈ T, InB x.n) : InB (evalT T).1.1 := by
  unfold evalT foldT
  split
  · split
    · exact inB_getD (inB_fold T [] hT (fun y hy => by cases hy)) 0
    · exact inB_zero
  · exact inB_zero
theorem inB_push {l : List Tm} {t : Tm} (h : ∀ x ∈ l, InB x.n) (ht : InB t.n) : ∀ x ∈ l ++ [t], InB x.n := fun x hx => by
  rcases List.mem_append.1 hx with hx | hx
  · exact h x hx
  · rw [List.mem_singleton.1 hx]; exact ht
theorem runP_in {T : List Tok} : ∀ (f : Nat) (j : Job) (s s' : St), runP T f j s = .ok s' → (∀ x ∈ s.tms, InB x.n) → ∀ x ∈ s'.tms, InB x.n
  | 0, j, s, s', h, _ => by cases j <;> cases h
  | f + 1, .row g, s, s', h, hs => by
    rw [runP] at h
    obtain ⟨s1, h1, h2⟩ := bind_ok h
    exact runP_in f _ _ _ h2 (runP_in f _ _ _ h1 hs)
  | f + 1, .loop g, s, s', h, hs => by
    rw [runP] at h
    split at h
    · cases h; exact hs
    · split at h
      · cases h; exact hs
      · obtain ⟨s1, h1, h2⟩ := bind_ok h
        exact runP_in f _ _ _ h2 (inB_push (runP_in f _ _ _ h1 hs) inB_zero)
  | f + 1, .opd, s, s', h, hs => by
    rw [runP] at h
    split at h
    · obtain ⟨rfl, _⟩ := leafF_ok h; exact inB_push hs (inB_w _)
    · obtain ⟨rfl, _⟩ := leafF_ok h; exact inB_push hs inB_zero
    · obtain ⟨s1, h1, h2⟩ := bind_ok h
      obtain ⟨rfl, _⟩ := enterF_ok h1
      obtain ⟨s2, h3, h4⟩ := bind_ok h2
      have := runP_in f _ _ _ h3 hs
      split at h4
      · cases h4; exact this
      · cases h4
    · obtain ⟨s1, h1, h2⟩ := bind_ok h
      obtain ⟨rfl, _⟩ := enterF_ok h1
      obtain ⟨s2, h3, h4⟩ := bind_ok h2
      have := runP_in f _ _ _ h3 hs
      cases h4
      exact inB_push this inB_zero
    · cases h
theorem parseT_in (T : List Tok) : ∀ x ∈ (parseT T).1, InB x.n := by
  unfold parseT
  cases h : runP T (3 * T.length + 2) (.row 6) ⟨0, [], 0, 0⟩ with
  | ok s => exact runP_in _ _ _ _ h (fun x hx => by cases hx)
  | error x => intro x hx; cases hx
end Go.Proofs.YtdkflmpdelfgoaaGreatDoor
