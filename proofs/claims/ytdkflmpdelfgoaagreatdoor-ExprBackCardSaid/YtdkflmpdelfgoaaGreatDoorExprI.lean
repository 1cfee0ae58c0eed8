/-
  fold over values: what each call returns. Conditions: what the variable of operators holds (GoodE), terms that are an expression.
-/
import Derived.Test.YtdkflmpdelfgoaaGreatDoorExprH
import Derived.Laws.OwnMore
import Derived.Deep.AppendLies
import Derived.Deep.CutRange
import Derived.Deep.RegionLaw
namespace Go.Proofs.YtdkflmpdelfgoaaGreatDoor
open Go.RowKit Go.Shelf
set_option linter.unusedVariables false
attribute [local go_sem] Oper.semAt_some

theorem infoVal : (Tryz.prog.info? 36).map (fun i => (i.zero, i.size, i.bytes)) = some (some (.agg #[.int .i64 0, .string ⟨#[]⟩, .string ⟨#[]⟩]), 3, 40) := by kernel_rfl
def foldF : List V3 → List Tm → List V3 × Int
  | st, [] => (st, 0)
  | st, t :: r => if (reckonT t (st.drop (st.length - takesN t.k))).2 = 0 then foldF (st.take (st.length - takesN t.k) ++ [(reckonT t (st.drop (st.length - takesN t.k))).1]) r else ([], (reckonT t (st.drop (st.length - takesN t.k))).2)
def foldT (T : List Tm) : V3 × Int := if (foldF [] T).2 = 0 then ((foldF [] T).1.getD 0 Z3, 0) else (Z3, (foldF [] T).2)
theorem foldF_snoc : ∀ (A : List Tm) (st st' : List V3) (x : Tm), foldF st A = (st', 0) → foldF st (A ++ [x]) = if (reckonT x (st'.drop (st'.length - takesN x.k))).2 = 0 then (st'.take (st'.length - takesN x.k) ++ [(reckonT x (st'.drop (st'.length - takesN x.k))).1], 0) else ([], (reckonT x (st'.drop (st'.length - takesN x.k))).2)
  | [], st, st', x, h => by
    simp only [foldF, Prod.mk.injEq] at h
    obtain ⟨rfl, -⟩ := h
    rfl
  | a :: A, st, st', x, h => by
    rw [List.cons_append, foldF]
    rw [foldF] at h
    split
    · rename_i hh
      rw [if_pos hh] at h
      exact foldF_snoc A _ _ x h
    · rename_i hh
      rw [if_neg hh, Prod.mk.injEq] at h
      exact absurd h.2 hh
theorem foldF_err : ∀ (A B : List Tm) (st : List V3), (foldF st A).2 ≠ 0 → foldF st (A ++ B) = foldF st A
  | [], B, st, h => absurd rfl h
  | a :: A, B, st, h => by
    rw [List.cons_append, foldF, foldF]
    rw [foldF] at h
    split
    · rename_i hh
      rw [if_pos hh] at h
      exact foldF_err A B _ h
    · rfl
def valC (l : List V3) : List Value := l.flatMap fun x => [.int .i64 x.1, .string x.2.1, .string x.2.2]
theorem valC_length : ∀ l : List V3, (valC l).length = l.length * 3
  | [] => rfl
  | x :: l => by
    have ih := valC_length l
    unfold valC at ih ⊢
    rw [List.flatMap_cons, List.length_append, ih, List.length_cons, List.length_cons, List.length_cons, List.length_cons, List.length_nil]
    omega
theorem valC_at : ∀ (T : List V3) (k : Nat) (x : V3), T[k]? = some x → (valC T)[k * 3]? = some (.int .i64 x.1) ∧ (valC T)[k * 3 + 1]? = some (.string x.2.1) ∧ (valC T)[k * 3 + 2]? = some (.string x.2.2)
  | [], k, x, h => by simp at h
  | y :: T, 0, x, h => by simp at h; subst h; exact ⟨rfl, rfl, rfl⟩
  | y :: T, k + 1, x, h => by
    have := valC_at T k x (by simpa using h)
    rw [show (k + 1) * 3 = k * 3 + 1 + 1 + 1 by omega]
    exact this
theorem valC_take (T : List V3) (m : Nat) : (valC T).take (m * 3) = valC (T.take m) := by
  induction T generalizing m with
  | nil => simp [valC]
  | cons x T ih =>
    cases m with
    | zero => simp [valC]
    | succ m =>
      have h := ih m
      unfold valC at h ⊢
      rw [List.flatMap_cons, List.take_succ_cons, List.flatMap_cons, show (m + 1) * 3 = 3 + m * 3 by omega, List.take_append]
      rw [show ([Value.int .i64 x.1, .string x.2.1, .string x.2.2] : List Value).take (3 + m * 3) = [.int .i64 x.1, .string x.2.1, .string x.2.2] from List.take_of_length_le (by simp)]
      rw [show 3 + m * 3 - ([Value.int .i64 x.1, .string x.2.1, .string x.2.2] : List Value).length = m * 3 by simp, h]
theorem own_sliceN {W : World} {base size N : Nat} {t : TypeId} {v : Value} {xs : List Value} (h : W.ownsRow base t size v N xs) : ∃ b c, v = .slice b N c := by
  rcases h.2 with ⟨h1, h2⟩ | ⟨g, cap, cur, h1, _⟩
  · exact ⟨_, 0, by rw [h1, h2]⟩
  · exact ⟨_, _, h1⟩
theorem own_take {W : World} {base size n m cap : Nat} {e : TypeId} {A : Option Addr} {xs : List Value} (h : W.ownsRow base e size (.slice A n cap) n xs) (hm : m ≤ n) : W.ownsRow base e size (.slice A m cap) m (xs.take (m * size)) := by
  refine ⟨?_, ?_⟩
  · rw [List.length_take, h.1]
    exact Nat.min_eq_left (Nat.mul_le_mul_right _ hm)
  · rcases h.2 with ⟨h1, h2⟩ | ⟨g, cap', cur, h1, h2, h3, h4, h5, h6, h7⟩
    · cases h1
      exact .inl ⟨by rw [show m = 0 by omega], by omega⟩
    · cases h1
      refine .inr ⟨g, cap, cur, rfl, h2, h3, by omega, h5, h6, ?_⟩
      rw [← h7, List.take_take, Nat.min_eq_left (Nat.mul_le_mul_right _ hm)]
theorem tri_cut {W : World} {base m tk cap : Nat} {A : Option Addr} {st : List V3} (h : W.ownsRow base 36 3 (.slice A (m + tk) cap) (m + tk) (valC st)) (hl : st.length = m + tk) : TriO vlF W (.slice (if cap = m then A else Option.map (fun x => x.add (m * 3)) A) tk (cap - m)) (st.drop m) := by
  have hdl : (st.drop m).length = tk := by rw [List.length_drop]; omega
  rcases Nat.eq_zero_or_pos tk with h0 | h0
  · subst h0
    rw [List.length_eq_zero_iff.1 hdl]
    rcases h.2 with ⟨h1, h2⟩ | ⟨g, cap', cur, h1, h2⟩
    · cases h1
      refine .inl ⟨.inl ?_, rfl⟩
      split <;> rfl
    · cases h1
      refine .inl ⟨.inr ?_, rfl⟩
      by_cases hc : cap = m
      · rw [if_pos hc]; exact ⟨_, _, rfl⟩
      · rw [if_neg hc]; exact ⟨_, _, rfl⟩
  · rcases h.2 with ⟨h1, h2⟩ | ⟨g, cap', cur, h1, h2, h3, h4, h5, h6, h7⟩
    · omega
    · cases h1
      rw [if_neg (by omega)]
      simp only [Option.map_some]
      rw [Go.WideShapes.add_plain]
      refine .inr ⟨g, 0 + m * 3, cap - m, by rw [hdl], by omega, by omega, (Array.getElem?_eq_some_iff.1 h3).1, fun k x hx => ?_⟩
      rw [List.getElem?_drop] at hx
      obtain ⟨a, b, c⟩ := valC_at st _ _ hx
      have hk : m + k < st.length := by
        rcases Nat.lt_or_ge (m + k) st.length with g | g
        · exact g
        · rw [List.getElem?_eq_none g] at hx; cases hx
      refine ⟨?_, ?_, ?_⟩
      · rw [h.cellAt _ (by omega), show 0 + m * 3 + k * 3 = (m + k) * 3 by omega]; exact a
      · rw [h.cellAt _ (by omega), show 0 + m * 3 + k * 3 + 1 = (m + k) * 3 + 1 by omega]; exact b
      · rw [h.cellAt _ (by omega), show 0 + m * 3 + k * 3 + 2 = (m + k) * 3 + 2 by omega]; exact c
theorem keep3 {W W' : World} (hb : Below W.heap.size W W') {b : Nat} {v0 v1 v2 : Value} (h : W.cell? ⟨b, 0, none⟩ = some v0 ∧ W.cell? ⟨b, 1, none⟩ = some v1 ∧ W.cell? ⟨b, 2, none⟩ = some v2) : W'.cell? ⟨b, 0, none⟩ = some v0 ∧ W'.cell? ⟨b, 1, none⟩ = some v1 ∧ W'.cell? ⟨b, 2, none⟩ = some v2 :=
  ⟨cell_kept hb h.1, cell_kept hb h.2.1, cell_kept hb h.2.2⟩
theorem own_cap {W : World} {base size n cap : Nat} {e : TypeId} {A : Option Addr} {xs : List Value} (h : W.ownsRow base e size (.slice A n cap) n xs) : n ≤ cap := by
  rcases h.2 with ⟨h1, h2⟩ | ⟨g, cap', cur, h1, h2, h3, h4, _⟩
  · omega
  · cases h1; exact h4
theorem own_mono {W W' : World} {base size n : Nat} {e : TypeId} {v : Value} {xs : List Value} (h : W.ownsRow base e size v n xs) {B : Nat} (hb : Below B W W') (hB : ∀ g, v.ownBlock = some g → g < B) : W'.ownsRow base e size v n xs := by
  refine ⟨h.1, ?_⟩
  rcases h.2 with h1 | ⟨g, cap, cur, rfl, h2, h3, h4⟩
  · exact .inl h1
  · exact .inr ⟨g, cap, cur, rfl, h2, (hb.block g (hB g rfl)).trans h3, h4⟩
theorem valC_snoc (l : List V3) (x : V3) : valC (l ++ [x]) = valC l ++ [.int .i64 x.1, .string x.2.1, .string x.2.2] := by
  unfold valC; rw [List.flatMap_append]; rfl
theorem sumR_size {L : Nat} {x y : V3} (h1 : x.2.1.size ≤ L) (h2 : x.2.2.size ≤ L) (h3 : y.2.1.size ≤ L) (h4 : y.2.2.size ≤ L) : (sumR x y).1.2.1.size ≤ L ∧ (sumR x y).1.2.2.size ≤ L := by
  unfold sumR
  cases h : sumV x.1 y.1 x.2.1 x.2.2 y.2.1 y.2.2 with
  | none => exact ⟨Nat.zero_le _, Nat.zero_le _⟩
  | some z =>
    obtain ⟨n, p, m⟩ := z
    exact sumV_size h1 h2 h3 h4 h
theorem getD_size {L : Nat} {T : List V3} (hT : ∀ y ∈ T, y.2.1.size ≤ L ∧ y.2.2.size ≤ L) (i : Nat) : (T.getD i Z3).2.1.size ≤ L ∧ (T.getD i Z3).2.2.size ≤ L := by
  rw [List.getD_eq_getElem?_getD]
  cases h : T[i]? with
  | none => exact ⟨Nat.zero_le _, Nat.zero_le _⟩
  | some y => exact hT y (List.mem_of_getElem? h)
theorem reckonT_size {L : Nat} {t : Tm} {T : List V3} (hs : t.s.size ≤ L) (hT : ∀ y ∈ T, y.2.1.size ≤ L ∧ y.2.2.size ≤ L) : (reckonT t T).1.2.1.size ≤ L ∧ (reckonT t T).1.2.2.size ≤ L := by
  have z : E0.size ≤ L := Nat.zero_le _
  obtain ⟨a0, b0⟩ := getD_size hT 0
  obtain ⟨a1, b1⟩ := getD_size hT 1
  unfold reckonT
  split
  · exact ⟨z, z⟩
  split
  · exact ⟨hs, z⟩
  split
  · exact ⟨b0, a0⟩
  split
  · exact sumR_size a0 b0 a1 b1
  split
  · exact sumR_size a0 b0 b1 a1
  split
  · exact ⟨z, z⟩
  split
  · exact ⟨z, z⟩
  · exact ⟨z, z⟩
set_option maxRecDepth 100000 in
set_option maxHeartbeats 8000000 in
theorem fold_any (v : Value) (T : List Tm) (w : World) (hG : GoodE w) (h : TriO tmF w v T) (hl : T.length ≤ 256) (hc : checkF 0 T = some 1) (hs : ∀ x ∈ T, x.s.size ≤ 281474976710656) :
    Calls Tryz.prog 25 #[v, .func (.func 26) #[] #[]] w fun e w' => e = .returned (RV (foldT T)) ∧ Below w.heap.size w w' := by
  have HT := Lib.hid h
  have HS := Lib.hid hs
  have HC := Lib.hid hc
  have GD := Lib.hid (fun V (hb : Below w.heap.size w V) => (hG.thn hb).ops)
  obtain ⟨A, c, rfl⟩ := tri_slice h
  clear h hs hG hc
  go_enter Tryz.func25, Tryz.ntmps25
  go_wp2_with fail
  go_loopw [15, 6] (fun iv lv wr => ∃ (k : Nat) (st : List V3), k ≤ T.length ∧ iv = .int .i64 (k : Int) ∧ wr.ownsRow (w.heap.size + 1) 36 3 lv st.length (valC st) ∧ Hid (foldF [] (T.take k) = (st, 0) ∧ checkF 0 (T.take k) = some st.length ∧ (∀ x ∈ st, x.2.1.size ≤ 281474976710656 ∧ x.2.2.size ≤ 281474976710656)) ∧ Hid (wr.heap[w.heap.size]? = some (.cells #[.int .i64 0, .string ⟨#[]⟩, .string ⟨#[]⟩] 36 (0, 0))) ∧ Below w.heap.size w wr) (fun iv lv _ => T.length - (intOf iv).toNat)
  case atStart =>
    exact ⟨0, [], Nat.zero_le _, rfl, World.ownsRow_nil _ _ _ _, Lib.hid ⟨rfl, rfl, fun x hx => by cases hx⟩, Lib.hid (heap_alloc_new w _), below1 w _⟩
  case round =>
    obtain ⟨k, st, hk, rfl, hrow, hst, hz, hbr⟩ := hrel
    obtain ⟨vb, vc, rfl⟩ := own_sliceN hrow
    by_cases hlt : (k : Int) < (T.length : Int)
    · have hlt' : k < T.length := by omega
      obtain ⟨g, off, cap, x, hx, hv, x1, x2, x3⟩ := tri_at (HT.out.keep hbr) hlt'
      cases hv
      simp only [tmF] at x1 x2 x3
      have hst' := hst.out
      have hck : checkF 0 (T.take (k + 1)) ≠ none := fun hn => by
        have := checkF_none _ (T.drop (k + 1)) _ hn
        rw [List.take_append_drop, HC.out] at this
        cases this
      have htk1 : T.take (k + 1) = T.take k ++ [x] := by rw [List.take_add_one, hx]; rfl
      rw [htk1, checkF_snoc, hst'.2.1] at hck
      simp only [Option.bind_some] at hck
      have hmt : mayB x = true ∧ takesN x.k ≤ st.length := by
        by_cases hh : mayB x = true ∧ takesN x.k ≤ st.length
        · exact hh
        · rw [if_neg hh] at hck; exact absurd rfl hck
      have HCK := Lib.hid (show checkF 0 (T.take (k + 1)) = some (st.length + 1 - takesN x.k) by rw [htk1, checkF_snoc, hst'.2.1]; simp only [Option.bind_some]; rw [if_pos hmt])
      have HFS := Lib.hid (foldF_snoc _ _ _ x hst'.1)
      have HTK1 := Lib.hid htk1
      have HXS := Lib.hid (HS.out x (List.mem_of_getElem? hx))
      have hnk : st.length ≤ k := by
        have := checkF_le _ _ _ hst'.2.1
        rw [List.length_take] at this; omega
      obtain ⟨hmay, htk⟩ := hmt
      obtain ⟨kn, hkn, hk1, hk14⟩ := mayB_k hmay
      have HBR := Lib.hid hbr
      have HST := Lib.hid hst'
      have hi0 : (0 : Int) ≤ (kn : Int) := by omega
      have hi1 : (kn : Int) < 15 := by omega
      obtain ⟨o0, -, -⟩ := GD.out wr hbr kn (by omega)
      obtain ⟨tk, htk0⟩ : ∃ tk, takesN (kn : Int) = tk := ⟨_, rfl⟩
      rw [hkn, htk0] at htk HCK HFS
      rw [htk0] at o0
      obtain ⟨m, hm⟩ : ∃ m, st.length = m + tk := ⟨st.length - tk, by omega⟩
      rw [hm]
      have ht2 := takes_le (kn : Int)
      rw [htk0] at ht2
      obtain ⟨xk, xn, xs⟩ := x
      simp only at x1 x2 x3 hkn
      subst hkn
      have w9 : IntKind.i64.wrap ((k : Int) + 1) = ((k + 1 : Nat) : Int) := by rw [IntWalk.i64_in _ (by omega)]; omega
      have hneg : (0 : Int) < 15 := by decide
      rw [hm] at hrow
      have HROW := Lib.hid hrow
      have HZ := hz
      have hoA : (wr.alloc (.cells #[.int .i64 (kn : Int), .int .i64 xn, .string xs] 42)).cell? ⟨0, kn * 3, none⟩ = some (.int .i64 (tk : Int)) := cell_kept (below1 wr _) o0
      clear hbr hst' hck htk1 hx o0 hmay hst hrow
      go_wp2_with fail
      have S0 := cell_three_new wr 42 (.int .i64 (kn : Int)) (.int .i64 xn) (.string xs)
      have hB0 := below1 wr (.cells #[.int .i64 (kn : Int), .int .i64 xn, .string xs] 42)
      have hz0 : (wr.alloc (.cells #[.int .i64 (kn : Int), .int .i64 xn, .string xs] 42)).heap.size = wr.heap.size + 1 := by simp
      generalize wr.alloc (.cells #[.int .i64 (kn : Int), .int .i64 xn, .string xs] 42) = W0 at *
      have HB0 := Lib.hid hB0
      clear hB0 hoA x1 x2 x3
      have hmc : (m : Int) ≤ (m : Int) + (tk : Int) := by omega
      have hown0 : W0.ownsRow (w.heap.size + 1) 36 3 (.slice vb (m + tk) vc) (m + tk) (valC st) := own_mono HROW.out HB0.out (fun g hg => (HROW.out.lt g hg).2)
      have RK := Lib.hid (fun V (hb : Below W0.heap.size W0 V) => reckon_any ⟨(kn : Int), xn, xs⟩ _ (st.drop m) V ((tri_cut hown0 hm).keep hb) (by rw [List.length_drop, htk0]; omega) (by show (1 : Int) ≤ (kn : Int); omega) (by show (kn : Int) ≤ 14; omega) (fun y hy => HST.out.2.2 y (List.mem_of_mem_drop hy)))
      rw [show st.length - tk = m by omega] at HFS
      clear hown0
      obtain ⟨r, hr⟩ : ∃ r, reckonT ⟨(kn : Int), xn, xs⟩ (st.drop m) = r := ⟨_, rfl⟩
      rw [hr] at RK HFS
      have HR := Lib.hid hr
      clear hr
      obtain ⟨⟨rn, rp, rm⟩, re⟩ := r
      unfold RV vlV tmV at RK
      simp only at RK HFS
      go_cut [10, 11] from 16 to 46 (fun s10 s11 wc => ∃ B : Nat, s10 = .pointer (some ⟨B, 0, none⟩) ∧ s11 = .int .i64 re ∧ wc.heap[B]? = some (.cells #[.int .i64 rn, .string rp, .string rm] 36 (0, 0)) ∧ wr.heap.size < B ∧ Below wr.heap.size wr wc)
      case first =>
        have SA : (W0.alloc (.cells #[.int .i64 0, .string ⟨#[]⟩, .string ⟨#[]⟩] 36)).cell? ⟨wr.heap.size, 0, none⟩ = some (.int .i64 (kn : Int)) ∧ (W0.alloc (.cells #[.int .i64 0, .string ⟨#[]⟩, .string ⟨#[]⟩] 36)).cell? ⟨wr.heap.size, 1, none⟩ = some (.int .i64 xn) ∧ (W0.alloc (.cells #[.int .i64 0, .string ⟨#[]⟩, .string ⟨#[]⟩] 36)).cell? ⟨wr.heap.size, 2, none⟩ = some (.string xs) := ⟨cell_kept (below1 W0 _) S0.1, cell_kept (below1 W0 _) S0.2.1, cell_kept (below1 W0 _) S0.2.2⟩
        have HNE := Lib.hid (show wr.heap.size + 1 ≠ wr.heap.size by omega)
        by_cases hcm : vc = m
        · subst hcm
          rw [if_pos rfl, Nat.sub_self] at RK
          go_region_held3 (fun w' => w'.cell? ⟨wr.heap.size, 0, none⟩ = some (.int .i64 (kn : Int)) ∧ w'.cell? ⟨wr.heap.size, 1, none⟩ = some (.int .i64 xn) ∧ w'.cell? ⟨wr.heap.size, 2, none⟩ = some (.string xs)) (first | exact S0 | exact SA | exact S1 | exact far3 HNE.out S1 | exact keep3 (below1 w1 _) S1) (first
            | (go_at_call 26; ((with_reducible refine (RK.out (W0.alloc (.cells #[.int .i64 0, .string ⟨#[]⟩, .string ⟨#[]⟩] 36)).drew (below1 W0 _).drew).mono ?_); rintro e w1 ⟨rfl, hb1⟩); have S1 := keep3 hb1 SA; have n2 := (hb1.block W0.heap.size (show W0.heap.size < (W0.alloc _).heap.size by simp)).trans (heap_alloc_new W0 _); have HN1 := Lib.hid n2; obtain ⟨z0, z1, z2⟩ := val_cells n2; have fz := fz_of n2; rw [hz0] at z0 z1 z2 fz; have HB1 := Lib.hid (Below.thn (HB0.out.trans ((below1 W0 (.cells #[.int .i64 0, .string ⟨#[]⟩, .string ⟨#[]⟩] 36)).mono (by omega))).drew (by show wr.heap.size ≤ (W0.alloc _).heap.size; simp; omega) hb1); clear hb1 n2)
            | (go_at_call 26; ((with_reducible refine (RK.out W0.drew (Below.refl _ W0).drew).mono ?_); rintro e w1 ⟨rfl, hb1⟩); have S1 := keep3 hb1 S0; have HZ1 := Lib.hid (show W0.heap.size ≤ w1.heap.size from hb1.size); have HB1 := Lib.hid (Below.thn HB0.out.drew (by show wr.heap.size ≤ W0.heap.size; omega) hb1); clear hb1))
          all_goals
            go_wp2_with fail
            go_meet
          case rel => exact ⟨w1.heap.size, rfl, rfl, heap_alloc_new w1 _, by have := HZ1.out; omega, HB1.out.alloc HB1.out.size _⟩
          case rel => exact ⟨wr.heap.size + 1, rfl, rfl, val_set (by rw [← hz0]; exact HN1.out) _ _ _, by omega, below_val HB1.out (by omega) _ _ _⟩
        · rw [if_neg hcm] at RK
          go_region_held3 (fun w' => w'.cell? ⟨wr.heap.size, 0, none⟩ = some (.int .i64 (kn : Int)) ∧ w'.cell? ⟨wr.heap.size, 1, none⟩ = some (.int .i64 xn) ∧ w'.cell? ⟨wr.heap.size, 2, none⟩ = some (.string xs)) (first | exact S0 | exact SA | exact S1 | exact far3 HNE.out S1 | exact keep3 (below1 w1 _) S1) (first
            | (go_at_call 26; ((with_reducible refine (RK.out (W0.alloc (.cells #[.int .i64 0, .string ⟨#[]⟩, .string ⟨#[]⟩] 36)).drew (below1 W0 _).drew).mono ?_); rintro e w1 ⟨rfl, hb1⟩); have S1 := keep3 hb1 SA; have n2 := (hb1.block W0.heap.size (show W0.heap.size < (W0.alloc _).heap.size by simp)).trans (heap_alloc_new W0 _); have HN1 := Lib.hid n2; obtain ⟨z0, z1, z2⟩ := val_cells n2; have fz := fz_of n2; rw [hz0] at z0 z1 z2 fz; have HB1 := Lib.hid (Below.thn (HB0.out.trans ((below1 W0 (.cells #[.int .i64 0, .string ⟨#[]⟩, .string ⟨#[]⟩] 36)).mono (by omega))).drew (by show wr.heap.size ≤ (W0.alloc _).heap.size; simp; omega) hb1); clear hb1 n2)
            | (go_at_call 26; ((with_reducible refine (RK.out W0.drew (Below.refl _ W0).drew).mono ?_); rintro e w1 ⟨rfl, hb1⟩); have S1 := keep3 hb1 S0; have HZ1 := Lib.hid (show W0.heap.size ≤ w1.heap.size from hb1.size); have HB1 := Lib.hid (Below.thn HB0.out.drew (by show wr.heap.size ≤ W0.heap.size; omega) hb1); clear hb1))
          all_goals
            go_wp2_with fail
            go_meet
          case rel => exact ⟨w1.heap.size, rfl, rfl, heap_alloc_new w1 _, by have := HZ1.out; omega, HB1.out.alloc HB1.out.size _⟩
          case rel => exact ⟨wr.heap.size + 1, rfl, rfl, val_set (by rw [← hz0]; exact HN1.out) _ _ _, by omega, below_val HB1.out (by omega) _ _ _⟩
      case rest =>
        obtain ⟨B, rfl, rfl, hBc, hBlt, hbw⟩ := hcut
        have HBC := Lib.hid hBc
        have HBW := Lib.hid hbw
        have hBW := Below.thn HBR.out HBR.out.size (hbw.mono (by omega))
        have HBB := Lib.hid hBW
        clear hBW hbw S0 hz0 RK
        have hown1 : wc.ownsRow (w.heap.size + 1) 36 3 (.slice vb (m + tk) vc) (m + tk) (valC st) := own_mono HROW.out HBW.out (fun g hg => (HROW.out.lt g hg).2)
        have hz1 : wc.heap[w.heap.size]? = some (.cells #[.int .i64 0, .string ⟨#[]⟩, .string ⟨#[]⟩] 36 (0, 0)) := (HBW.out.block _ (heap_lt hz.out)).trans hz.out
        by_cases hre : re = 0
        · subst hre
          rw [if_pos rfl] at HFS
          have hown := own_take hown1 (m := m) (by omega)
          rw [valC_take] at hown
          obtain ⟨b0, b1, b2⟩ := val_cells hBc
          obtain ⟨i0, hi, hiz0, hiz1, hiz2⟩ := info_parts infoVal
          have HOWN := Lib.hid hown
          have HZ1 := Lib.hid hz1
          clear hBc hown1 hz1
          have hmv : m ≤ vc := own_cap hown
          have hws : w.heap.size < wc.heap.size := heap_lt HZ1.out
          have HV3 := Lib.hid (show ∀ (V : World) j u, ([.int .i64 rn, .string rp, .string rm] : List Value)[j]? = some u → (V.alloc (.cells #[.int .i64 rn, .string rp, .string rm] 36)).cell? ((⟨V.heap.size, 0, none⟩ : Addr).add j) = some u from fun V j u hu => World.news_of_block (heap_alloc_new V _) j u hu)
          go_wp2_with fail
          go_region_law (refine step_append_lies _ (by rfl) (.tmp 42) (.tmp 44) 98 (by rfl) (w.heap.size + 1) 36 i0 (.agg #[.int .i64 0, .string ⟨#[]⟩, .string ⟨#[]⟩]) 3 40 Tryz.underlying98 hi hiz0 hiz1 hiz2 (by rfl) (by decide) (.slice vb m vc) m (valC (st.take m)) (by rfl) (HOWN.out.drew.alloc _) ⟨wc.heap.size, 0, none⟩ 1 1 [.int .i64 rn, .string rp, .string rm] (by rfl) (by rfl) (by exact HV3.out _) (by simp [Value.oneCell']) (by decide) (by unfold maxLen; omega) (by omega) (by simp; omega) _ (by rfl) ?_; intro g' cap' w3 hown3 hgrow3 _ _)
          all_goals
            go_wp2_with fail
            go_roundw
          case rel =>
            have hlen : (st.take m ++ [(rn, rp, rm)]).length = m + 1 := by rw [List.length_append, List.length_take, List.length_singleton]; omega
            refine ⟨k + 1, st.take m ++ [(rn, rp, rm)], by omega, rfl, ?_, Lib.hid ⟨by rw [HTK1.out, HFS.out], by rw [HCK.out, hlen]; congr 1; omega, ?_⟩, Lib.hid ?_, ?_⟩
            · rw [hlen, valC_snoc]; exact hown3
            · intro y hy
              rcases List.mem_append.1 hy with hy | hy
              · exact HST.out.2.2 y (List.mem_of_mem_take hy)
              · rw [List.mem_singleton.1 hy]
                have := reckonT_size (t := ⟨(kn : Int), xn, xs⟩) (T := st.drop m) HXS.out (fun y hy => HST.out.2.2 y (List.mem_of_mem_drop hy))
                rw [HR.out] at this
                exact this
            · rw [hgrow3.block _ (by simp; omega) (fun e => by have := (HOWN.out.lt _ e.symm).1; omega)]
              exact (Below.heap_alloc wc _ _ hws).trans HZ1.out
            · exact ((HBB.out.drew).alloc (show w.heap.size ≤ wc.drew.heap.size from Nat.le_of_lt hws) _).grown hgrow3 (by simp; omega) (fun g hg => by have := (HOWN.out.lt g hg).1; omega)
          case measure => simp [intOf]; omega
        · have R := Lib.hid (show foldT T = (Z3, re) by
            have e1 : foldF [] (T.take (k + 1)) = ([], re) := by rw [HTK1.out, HFS.out, if_neg hre]
            have e2 := foldF_err (T.take (k + 1)) (T.drop (k + 1)) [] (by rw [e1]; exact hre)
            rw [List.take_append_drop, e1] at e2
            unfold foldT
            rw [e2, if_neg hre])
          have hz2 := block_kept (below1 wc (.cells #[.int .i64 0, .string ⟨#[]⟩, .string ⟨#[]⟩] 36)) hz1
          obtain ⟨z0, z1, z2⟩ := val_cells hz2
          have fz := fz_of hz2
          have HZ1 := Lib.hid hz2
          clear hBc hown1 hz1 hz2
          go_wp2_with fail
          obtain ⟨e0, e1, e2⟩ := val_cells (val_set HZ1.out (.int .i64 0) (.string E0) (.string E0))
          exact bodyPost_ret (v := RV (foldT T)) (by rw [R.out]; simp [RV, vlV, results, Tryz.results25, go_sem, e0, e1, e2]) rfl ⟨rfl, below_val (HBB.out.alloc HBB.out.size _) (Nat.le_refl _) _ _ _⟩
    · have hkl : k = T.length := by omega
      subst hkl
      have hst' := hst.out
      rw [List.take_length, HC.out] at hst'
      have hl1 : st.length = 1 := by have := hst'.2.1; simpa using this.symm
      obtain ⟨⟨xn, xp, xm⟩, rfl⟩ := List.length_eq_one_iff.1 hl1
      have R := Lib.hid (show foldT T = ((xn, xp, xm), 0) by
        unfold foldT
        rw [hst'.1, if_pos rfl]; rfl)
      obtain ⟨z0, z1, z2⟩ := val_cells hz.out
      have fz := fz_of hz.out
      have HBR := Lib.hid hbr
      obtain ⟨g, cap, hvb, -, -⟩ := hrow.form (by simp)
      cases hvb
      have c0 := hrow.cellAt 0 (by simp)
      have c1 := hrow.cellAt 1 (by simp)
      have c2 := hrow.cellAt 2 (by simp)
      simp only [valC, List.flatMap_cons, List.flatMap_nil, List.append_nil, List.getElem?_cons_zero, List.getElem?_cons_succ] at c0 c1 c2
      clear hrow hbr hst hst'
      go_wp2_with fail
      obtain ⟨e0, e1, e2⟩ := val_cells (val_set hz.out (.int .i64 xn) (.string xp) (.string xm))
      exact bodyPost_ret (v := RV (foldT T)) (by rw [R.out]; simp [RV, vlV, results, Tryz.results25, go_sem, e0, e1, e2]) rfl ⟨rfl, below_val HBR.out (Nat.le_refl _) _ _ _⟩
end Go.Proofs.YtdkflmpdelfgoaaGreatDoor
