/-
  The document's Text: what each call returns. Conditions: numbers of 64 bits, texts that are no longer than any.
-/
import Derived.Test.YtdkflmpdelfgoaaDoorExprRefI
import Derived.Test.YtdkflmpdelfgoaaDoorExprRefG
import Derived.StillTailTactics
namespace Go.Proofs.YtdkflmpdelfgoaaDoor
open Go.RowKit Go.Shelf
set_option linter.unusedVariables false
set_option linter.unusedSimpArgs false
attribute [local go_sem] Oper.semAt_some

/-! ### texts with their depths -/
abbrev PT := BA × Int
def ptC (l : List PT) : List Value := l.flatMap fun p => [.string p.1, .int .i64 p.2]
theorem ptC_length : ∀ l : List PT, (ptC l).length = l.length * 2
  | [] => rfl
  | x :: l => by
    have ih := ptC_length l
    unfold ptC at ih ⊢
    rw [List.flatMap_cons, List.length_append, ih, List.length_cons, List.length_cons, List.length_cons, List.length_nil]
    omega
theorem ptC_at : ∀ (T : List PT) (k : Nat) (x : PT), T[k]? = some x → (ptC T)[k * 2]? = some (.string x.1) ∧ (ptC T)[k * 2 + 1]? = some (.int .i64 x.2)
  | [], k, x, h => by simp at h
  | y :: T, 0, x, h => by simp at h; subst h; exact ⟨rfl, rfl⟩
  | y :: T, k + 1, x, h => by
    have := ptC_at T k x (by simpa using h)
    rw [show (k + 1) * 2 = k * 2 + 1 + 1 by omega]
    exact this
theorem ptC_take (T : List PT) (m : Nat) : (ptC T).take (m * 2) = ptC (T.take m) := by
  induction T generalizing m with
  | nil => simp [ptC]
  | cons x T ih =>
    cases m with
    | zero => simp [ptC]
    | succ m =>
      have h := ih m
      unfold ptC at h ⊢
      rw [show (m + 1) * 2 = m * 2 + 1 + 1 by omega, List.flatMap_cons, List.take_succ_cons, List.flatMap_cons]
      show _ :: (List.take (m * 2 + 1) (_ :: _)) = _
      rw [List.take_succ_cons]
      show _ :: _ :: List.take (m * 2) (ptC T) = _
      unfold ptC
      rw [h]; rfl
theorem ptC_snoc (l : List PT) (x : PT) : ptC (l ++ [x]) = ptC l ++ [.string x.1, .int .i64 x.2] := by
  unfold ptC; rw [List.flatMap_append]; rfl
theorem ptC_set (p : PT) : ∀ (l : List PT) (m : Nat), ((ptC l).set (m * 2) (.string p.1)).set (m * 2 + 1) (.int .i64 p.2) = ptC (l.set m p)
  | [], m => by simp [ptC]
  | y :: l, 0 => rfl
  | y :: l, m + 1 => by
    have := ptC_set p l m
    rw [show (m + 1) * 2 = m * 2 + 1 + 1 by omega]
    show _ :: _ :: ((ptC l).set (m * 2) _).set (m * 2 + 1) _ = _
    rw [this]; rfl
theorem set_end {α : Type} (l : List α) (m : Nat) (p : α) (h : m < l.length) : (l.set m p).take (m + 1) = l.take m ++ [p] := by
  rw [List.set_eq_take_append_cons_drop, if_pos h, List.take_append, List.length_take, Nat.min_eq_left (Nat.le_of_lt h), List.take_of_length_le (by rw [List.length_take]; omega), show m + 1 - m = 1 by omega]
  rfl
/-- a term's text and depth over those of what it takes -/
def nodeT (t : Tm) (a : List PT) : PT :=
  if t.k = 1 then (saidB t.n, 0) else if t.k = 2 then (t.s, 0) else match a with
  | [x] => (⟨#[40]⟩ ++ signB t.k.toNat ++ x.1 ++ ⟨#[41]⟩, x.2 + 1)
  | [x, y] => (⟨#[40]⟩ ++ x.1 ++ signB t.k.toNat ++ y.1 ++ ⟨#[41]⟩, max x.2 y.2 + 1)
  | _ => (E0, 0)
def textF : List PT → List Tm → List PT
  | st, [] => st
  | st, t :: r => textF (st.take (st.length - takesN t.k) ++ [nodeT t (st.drop (st.length - takesN t.k))]) r
theorem textF_snoc (st : List PT) (T : List Tm) (x : Tm) : textF st (T ++ [x]) = (textF st T).take ((textF st T).length - takesN x.k) ++ [nodeT x ((textF st T).drop ((textF st T).length - takesN x.k))] := by
  induction T generalizing st with
  | nil => rfl
  | cons t r ih => exact ih _
def docTextR (p : PT) : BA × Int := if 64 < p.2 then (E0, 93) else (p.1, 0)
def docText (T : List Tm) : BA × Int := if checkT T = 0 then docTextR ((textF [] T).getD 0 (E0, 0)) else (E0, checkT T)
def ptSum (l : List PT) : Nat := (l.map fun p => p.1.size).sum
theorem ptSum_app (a b : List PT) : ptSum (a ++ b) = ptSum a + ptSum b := by unfold ptSum; rw [List.map_append, List.sum_append]
theorem ptSum_cut (l : List PT) (m : Nat) : ptSum (l.take m) + ptSum (l.drop m) = ptSum l := by rw [← ptSum_app, List.take_append_drop]
theorem ptSum_mem {l : List PT} {p : PT} (h : p ∈ l) : p.1.size ≤ ptSum l := by
  unfold ptSum
  induction l with
  | nil => cases h
  | cons y l ih =>
    rw [List.map_cons, List.sum_cons]
    rcases List.mem_cons.1 h with rfl | h
    · omega
    · have := ih h; omega
theorem signB_size (k : Nat) : (signB k).size ≤ 2 := by
  unfold signB
  rw [size_list]
  repeat' split
  all_goals simp
theorem dec_len64 (n : Int) (h : n ≤ 9223372036854775807) : (Lib.decDigits n.toNat).length ≤ 20 := dec_len _ (by omega)
theorem saidB_size (n : Int) (h : n ≤ 9223372036854775807) : (saidB n).size ≤ 20 := by
  unfold saidB
  split
  · rw [size_list]; exact dec_len64 n h
  · rw [ByteArray.size_append, show (hexN (n % 18446744073709551616).toNat).size = 16 by rw [size_list]; exact hexL_len _ 16]
    exact show 2 + 16 ≤ 20 by omega
theorem sym_size {x : Tm} (hm : mayB x = true) (hk : x.k = 2) : x.s.size ≤ 512 := by
  unfold mayB at hm
  rw [if_neg (by omega), if_pos hk] at hm
  simp only [Bool.and_eq_true, decide_eq_true_eq] at hm
  have := hm.2
  unfold symB at this
  simp only [Bool.and_eq_true, decide_eq_true_eq] at this
  rw [size_list]; exact this.1
theorem node_size {x : Tm} {a : List PT} (hm : mayB x = true) (hn : x.n ≤ 9223372036854775807) : (nodeT x a).1.size ≤ ptSum a + 520 := by
  unfold nodeT
  split
  · have := saidB_size x.n hn; show (saidB x.n).size ≤ _; omega
  · split
    · have := sym_size hm (by assumption); show x.s.size ≤ _; omega
    · have hs := signB_size x.k.toNat
      split
      · rename_i p
        show (⟨#[40]⟩ ++ signB x.k.toNat ++ p.1 ++ ⟨#[41]⟩ : BA).size ≤ _
        rw [ByteArray.size_append, ByteArray.size_append, ByteArray.size_append]
        have : ptSum [p] = p.1.size := by simp [ptSum]
        have h1 : (⟨#[40]⟩ : BA).size = 1 := rfl
        have h2 : (⟨#[41]⟩ : BA).size = 1 := rfl
        omega
      · rename_i p q
        show (⟨#[40]⟩ ++ p.1 ++ signB x.k.toNat ++ q.1 ++ ⟨#[41]⟩ : BA).size ≤ _
        rw [ByteArray.size_append, ByteArray.size_append, ByteArray.size_append, ByteArray.size_append]
        have : ptSum [p, q] = p.1.size + q.1.size := by simp [ptSum]
        have h1 : (⟨#[40]⟩ : BA).size = 1 := rfl
        have h2 : (⟨#[41]⟩ : BA).size = 1 := rfl
        omega
      · show (E0 : BA).size ≤ _; exact Nat.zero_le _
theorem node_depth {x : Tm} {a : List PT} {k : Nat} (h : ∀ p ∈ a, 0 ≤ p.2 ∧ p.2 ≤ (k : Int)) : 0 ≤ (nodeT x a).2 ∧ (nodeT x a).2 ≤ ((k + 1 : Nat) : Int) := by
  unfold nodeT
  split
  · exact ⟨Int.le_refl _, by show (0 : Int) ≤ _; omega⟩
  · split
    · exact ⟨Int.le_refl _, by show (0 : Int) ≤ _; omega⟩
    · split
      · rename_i p
        have := h p (by simp)
        show 0 ≤ p.2 + 1 ∧ p.2 + 1 ≤ _
        omega
      · rename_i p q
        have h1 := h p (by simp)
        have h2 := h q (by simp)
        show 0 ≤ max p.2 q.2 + 1 ∧ max p.2 q.2 + 1 ≤ _
        omega
      · exact ⟨Int.le_refl _, by show (0 : Int) ≤ _; omega⟩
theorem infoPart : (Tryd.prog.info? 78).map (fun i => (i.zero, i.size, i.bytes)) = some (some (.agg #[.string ⟨#[]⟩, .int .i64 0]), 2, 24) := by kernel_rfl
/-- what a round of the loop begins with -/
structure TxI (w : World) (T : List Tm) (k : Nat) (st : List PT) (lv : Value) (wr : World) : Prop where
  le : k ≤ T.length
  row : wr.ownsRow w.heap.size 78 2 lv st.length (ptC st)
  fold : textF [] (T.take k) = st
  chk : checkF 0 (T.take k) = some st.length
  size : ptSum st ≤ 520 * k
  deep : ∀ p ∈ st, 0 ≤ p.2 ∧ p.2 ≤ (k : Int)
  bel : Below w.heap.size w wr
theorem TxI.next {w : World} {T : List Tm} {k : Nat} {st : List PT} {lv : Value} {wr : World} (h : TxI w T k st lv wr) {x : Tm} (hx : T[k]? = some x) (hm : mayB x = true) (ht : takesN x.k ≤ st.length) (hi : x.n ≤ 9223372036854775807) {N : Nat} (hN : st.length - takesN x.k = N) {r : PT} (hr : nodeT x (st.drop N) = r)
    {lv' : Value} {V : World} (hrow : V.ownsRow w.heap.size 78 2 lv' (N + 1) (ptC (st.take N ++ [r]))) (hb : Below w.heap.size w V) : TxI w T (k + 1) (st.take N ++ [r]) lv' V := by
  have htk1 : T.take (k + 1) = T.take k ++ [x] := by rw [List.take_add_one, hx]; rfl
  have hkl : k < T.length := (List.getElem?_eq_some_iff.1 hx).1
  have hlen : (st.take N ++ [r]).length = N + 1 := by rw [List.length_append, List.length_take]; simp; omega
  refine ⟨by omega, by rw [hlen]; exact hrow, ?_, ?_, ?_, ?_, hb⟩
  · rw [htk1, textF_snoc, h.fold, hN, hr]
  · rw [htk1, checkF_snoc, h.chk, hlen]
    simp only [Option.bind_some]
    rw [if_pos ⟨hm, ht⟩]
    congr 1; omega
  · have h1 := node_size (a := st.drop N) hm hi
    have h2 := ptSum_cut st N
    have h3 := h.size
    rw [ptSum_app]
    rw [hr] at h1
    have : ptSum [r] = r.1.size := by simp [ptSum]
    omega
  · intro p hp
    rcases List.mem_append.1 hp with hp | hp
    · have := h.deep p (List.mem_of_mem_take hp); omega
    · rw [List.mem_singleton.1 hp, ← hr]
      exact node_depth (fun q hq => h.deep q (List.mem_of_mem_drop hq))
end Go.Proofs.YtdkflmpdelfgoaaDoor
namespace Go.Proofs.YtdkflmpdelfgoaaDoor
open Go.RowKit Go.Shelf
set_option linter.unusedVariables false
set_option linter.unusedSimpArgs false
attribute [local go_sem] Oper.semAt_some

def TV (p : BA × Int) : Value := .tuple #[.string p.1, .int .i64 p.2]
theorem still_of {P : Program} {f : FuncId} {args : Array Value} {w : World} {v : Value} (h : Calls P f args w fun e w' => e = .returned v ∧ w = w') : Calls P f args w fun e w' => e = .returned v ∧ w' = w := h.mono (fun _ _ hh => ⟨hh.1, hh.2.symm⟩)
set_option maxRecDepth 100000 in
set_option maxHeartbeats 16000000 in
theorem rtext_any (v : Value) (T : List Tm) (w : World) (h : TriO tmF w v T) (hl : T.length ≤ 281474976710656) (hs : ∀ x ∈ T, x.s.size ≤ maxLen) (hI : ∀ x ∈ T, InB x.n) :
    Calls Tryd.prog 12 #[v] w fun e w' => e = .returned (TV (docText T)) ∧ Below w.heap.size w w' := by
  have CK := Lib.hid (rcheck_any v T w h hl hs)
  have HT := Lib.hid h
  obtain ⟨A, c, rfl⟩ := tri_slice h
  clear h hs
  by_cases hc : checkT T = 0
  · have HE := Lib.hid (show docText T = docTextR ((textF [] T).getD 0 (E0, 0)) by unfold docText; rw [if_pos hc])
    rw [hc] at CK
    obtain ⟨hcf, hlen⟩ := checkT_ok hc
    have HC := Lib.hid hcf
    have HI := Lib.hid hI
    clear hI hc hcf
    go_enter Tryd.func12, Tryd.ntmps12
    go_wp2_with fail
    refine CK.out.mono ?_
    rintro e w1 ⟨rfl, rfl⟩
    go_wp2_with fail
    go_loopw [6, 5] (fun iv lv wr => ∃ (k : Nat) (st : List PT), iv = .int .i64 (k : Int) ∧ Hid (TxI w T k st lv wr)) (fun iv lv _ => T.length - (intOf iv).toNat)
    case atStart => exact ⟨0, [], rfl, Lib.hid ⟨Nat.zero_le _, World.ownsRow_nil _ _ _ _, rfl, rfl, Nat.zero_le _, fun p hp => (by cases hp), Below.refl _ _⟩⟩
    case round =>
      obtain ⟨k, st, rfl, hev⟩ := hrel
      have hrow := hev.out.row
      obtain ⟨vb, vc, rfl⟩ := own_sliceN hrow
      have hkl := hev.out.le
      by_cases hlt : (k : Int) < (T.length : Int)
      · have hlt' : k < T.length := by omega
        obtain ⟨g, off, cap, x, hx, hv, x1, x2, x3⟩ := tri_at (HT.out.keep hev.out.bel) hlt'
        cases hv
        simp only [tmF] at x1 x2 x3
        have hck : checkF 0 (T.take (k + 1)) ≠ none := fun hn => by
          have := checkF_none _ (T.drop (k + 1)) _ hn
          rw [List.take_append_drop, HC.out] at this
          cases this
        have htk1 : T.take (k + 1) = T.take k ++ [x] := by rw [List.take_add_one, hx]; rfl
        rw [htk1, checkF_snoc, hev.out.chk] at hck
        simp only [Option.bind_some] at hck
        have hmt : mayB x = true ∧ takesN x.k ≤ st.length := by
          by_cases hh : mayB x = true ∧ takesN x.k ≤ st.length
          · exact hh
          · rw [if_neg hh] at hck; exact absurd rfl hck
        have hxi := HI.out x (List.mem_of_getElem? hx)
        have TK := Lib.hid (fun V => rtakes_any x.k V)
        have NX := Lib.hid (fun (N : Nat) (hN : st.length - takesN x.k = N) (r : PT) (hr : nodeT x (st.drop N) = r) (lv' : Value) (V : World) a b => hev.out.next hx hmt.1 hmt.2 hxi.2 hN hr (lv' := lv') (V := V) a b)
        have w9 : IntKind.i64.wrap ((k : Int) + 1) = ((k + 1 : Nat) : Int) := by rw [IntWalk.i64_in _ (by omega)]; omega
        have hk0 : (0 : Int) ≤ (k : Int) := by omega
        have hnk : st.length ≤ k := by
          have := checkF_le _ _ _ hev.out.chk
          rw [List.length_take] at this; omega
        have hmay := hmt.1
        have htk := hmt.2
        have hgl : g < w.heap.size := toks_lt HT.out hlt'
        have HROW := Lib.hid hrow
        have HBEL := Lib.hid hev.out.bel
        have hsz := hev.out.bel.size
        obtain ⟨xk, xn, xs⟩ := x
        simp only at x1 x2 x3 TK NX htk hxi
        clear hck htk1 hrow hmt hx
        obtain ⟨i0, hi, hiz0, hiz1, hiz2⟩ := info_parts infoPart
        by_cases h1 : xk = 1
        · subst h1
          have NN := Lib.hid (fun V => rnumber_any xn hxi V)
          have HN := Lib.hid (NX.out st.length (Nat.sub_zero _) (saidB xn, 0) (by unfold nodeT; rw [if_pos rfl]))
          rw [List.take_length] at HN
          clear NX x3 TK hmay htk
          go_wp2_with (first | (at_builtin; go_loud (refine wpList_append_own _ rfl _ _ 75 rfl w.heap.size 78 i0 (.agg #[.string ⟨#[]⟩, .int .i64 0]) 2 24 Tryd.underlying75 hi hiz0 hiz1 hiz2 rfl (by decide) _ _ _ rfl (HROW.out.alloc _) ⟨wr.heap.size, 0, none⟩ 1 1 [.string (saidB xn), .int .i64 0] rfl rfl (fun j u hu => World.news_of_block (heap_alloc_new wr _) j u hu) (by simp [Value.oneCell']) (by unfold maxLen; omega) (by omega) (by simp; omega) ?_; intro v' w3 hown3 hgrow3 _; obtain ⟨ub, uc, rfl⟩ := own_sliceN hown3)) | (go_at_call 37; refine (NN.out _).mono ?_; rintro e w2 ⟨rfl, rfl⟩))
          go_roundw
          case rel => exact ⟨k + 1, st ++ [(saidB xn, 0)], by first | rfl | rw [← w9], Lib.hid (HN.out _ _ (by rw [ptC_snoc]; exact hown3) ((HBEL.out.alloc hsz _).grown hgrow3 (by simp; omega) (fun g hg => (HROW.out.lt g hg).1)))⟩
          case measure => simp [intOf]; omega
        · have a1 : (xk == 1) = false := by rw [beq_eq_false_iff_ne]; exact h1
          by_cases h2 : xk = 2
          · subst h2
            have HN := Lib.hid (NX.out st.length (Nat.sub_zero _) (xs, 0) (by unfold nodeT; rw [if_neg h1, if_pos rfl]))
            rw [List.take_length] at HN
            clear NX x2 TK hmay htk
            go_wp2_with (at_builtin; go_loud (refine wpList_append_own _ rfl _ _ 75 rfl w.heap.size 78 i0 (.agg #[.string ⟨#[]⟩, .int .i64 0]) 2 24 Tryd.underlying75 hi hiz0 hiz1 hiz2 rfl (by decide) _ _ _ rfl (HROW.out.alloc _) ⟨wr.heap.size, 0, none⟩ 1 1 [.string xs, .int .i64 0] rfl rfl (fun j u hu => World.news_of_block (heap_alloc_new wr _) j u hu) (by simp [Value.oneCell']) (by unfold maxLen; omega) (by omega) (by simp; omega) ?_; intro v' w3 hown3 hgrow3 _; obtain ⟨ub, uc, rfl⟩ := own_sliceN hown3))
            go_roundw
            case rel => exact ⟨k + 1, st ++ [(xs, 0)], by first | rfl | rw [← w9], Lib.hid (HN.out _ _ (by rw [ptC_snoc]; exact hown3) ((HBEL.out.alloc hsz _).grown hgrow3 (by simp; omega) (fun g hg => (HROW.out.lt g hg).1)))⟩
            case measure => simp [intOf]; omega
          · have a2 : (xk == 2) = false := by rw [beq_eq_false_iff_ne]; exact h2
            have h34 : 3 ≤ xk ∧ xk ≤ 14 := by
              obtain ⟨kn, q1, q2, q3⟩ := mayB_k hmay
              simp only at q1
              omega
            obtain ⟨kk, rfl⟩ : ∃ kk : Nat, xk = (kk : Int) := ⟨xk.toNat, by omega⟩
            have SG := Lib.hid (fun V => rsign_any kk ⟨by omega, by omega⟩ V)
            have hss := signB_size kk
            have HND := Lib.hid (show ∀ a : List PT, nodeT ⟨(kk : Int), xn, xs⟩ a = (match a with | [x] => (⟨#[40]⟩ ++ signB kk ++ x.1 ++ ⟨#[41]⟩, x.2 + 1) | [x, y] => (⟨#[40]⟩ ++ x.1 ++ signB kk ++ y.1 ++ ⟨#[41]⟩, max x.2 y.2 + 1) | _ => (E0, 0)) from fun a => by unfold nodeT; rw [if_neg h1, if_neg h2]; rfl)
            generalize signB kk = sg at *
            by_cases h3 : kk = 3 ∨ kk = 4
            · have ht1 : takesN (kk : Int) = 1 := by rcases h3 with rfl | rfl <;> rfl
              have htr : takesR (kk : Int) = 1 := by rcases h3 with rfl | rfl <;> rfl
              rw [htr] at TK
              rw [ht1] at NX htk
              obtain ⟨m, hm⟩ : ∃ m, st.length = m + 1 := ⟨st.length - 1, by omega⟩
              obtain ⟨y, hy⟩ : ∃ y, st[m]? = some y := ⟨_, List.getElem?_eq_getElem (by omega)⟩
              have hyd := hev.out.deep y (List.mem_of_getElem? hy)
              have hys := Nat.le_trans (ptSum_mem (List.mem_of_getElem? hy)) hev.out.size
              have hdr : st.drop m = [y] := drop_last hm hy
              have HN := Lib.hid (NX.out m (by omega) (⟨#[40]⟩ ++ sg ++ y.1 ++ ⟨#[41]⟩, y.2 + 1) (by rw [hdr, HND.out]))
              have HST := Lib.hid (show st.set m (⟨#[40]⟩ ++ sg ++ y.1 ++ ⟨#[41]⟩, y.2 + 1) = st.take m ++ [(⟨#[40]⟩ ++ sg ++ y.1 ++ ⟨#[41]⟩, y.2 + 1)] by
                have := set_end st m (⟨#[40]⟩ ++ sg ++ y.1 ++ ⟨#[41]⟩, y.2 + 1) (by omega)
                rw [List.take_of_length_le (by rw [List.length_set]; omega)] at this
                exact this)
              have hrow' := HROW.out
              rw [hm] at hrow'
              obtain ⟨gs, cap', hvb, -, -⟩ := hrow'.form (by omega)
              cases hvb
              obtain ⟨v0, v1⟩ := ptC_at st m y hy
              have hmv : m ≤ vc := by have := own_cap hrow'; omega
              have HBS := (hrow'.lt gs rfl).1
              rw [hm]
              clear NX HND hmay htk h3 ht1 htr hdr hy x2 x3 HROW
              have HRD := Lib.hid (show wr.drew.ownsRow w.heap.size 78 2 (.slice (some ⟨gs, 0, none⟩) (m + 1) vc) (m + 1) (ptC st) from hrow')
              have HBD := Lib.hid (hev.out.bel.drew)
              clear hrow'
              have d0 := HRD.out.cellAt (m * 2) (by omega)
              have d1 := HRD.out.cellAt (m * 2 + 1) (by omega)
              rw [v0] at d0
              rw [v1] at d1
              have f0 := HRD.out.frozenAt (m * 2)
              have f1 := HRD.out.frozenAt (m * 2 + 1)
              have xd : wr.drew.cell? ⟨g, off + k * 3, none⟩ = some (.int .i64 (kk : Int)) := x1
              obtain ⟨ya, yd⟩ := y
              simp only at d0 d1 hyd hys HN HST
              have wm : IntKind.i64.wrap (((m + 1 : Nat) : Int) - 1) = (m : Int) := by rw [IntWalk.i64_in _ (by omega)]; omega
              have wm' : IntKind.i64.wrap ((m : Int) + 1 - 1) = (m : Int) := by rw [IntWalk.i64_in _ (by omega)]; omega
              have wd : IntKind.i64.wrap (yd + 1) = yd + 1 := by rw [IntWalk.i64_in _ (by omega)]
              have wmm : IntKind.i64.wrap (m : Int) = (m : Int) := by rw [IntWalk.i64_in _ (by omega)]
              have m0 : (0 : Int) ≤ (m : Int) := by omega
              have m1 : (m : Int) < (m : Int) + 1 := by omega
              have n1 : ¬ (9223372036854775807 < 1 + ByteArray.size sg) := by omega
              have n2 : ¬ (9223372036854775807 < 1 + ByteArray.size sg + ByteArray.size ya) := by omega
              have n3 : ¬ (9223372036854775807 < 1 + ByteArray.size sg + ByteArray.size ya + 1) := by omega
              have n4 : ¬ (9223372036854775806 < 1 + ByteArray.size sg + ByteArray.size ya) := by omega
              go_wp2_with fail
              refine (TK.out _).mono ?_
              rintro e w2 ⟨rfl, rfl⟩
              go_upto_region 16 with fail
              refine wp_region_still_tail 27 (by kernel_rfl) (by kernel_rfl) ?_
              simp only [List.take_succ_cons, List.take_zero, List.drop_succ_cons, List.drop_zero]
              change wpStill _ _ (World.drew wr) (fun a' => wpList _ _ _ _ a' (World.drew wr)) _ _
              generalize World.drew _ = V at *
              repeat still_step
              still_call (still_of (SG.out V))
              repeat still_step
              refine wpStill_nil ?_
              go_wp2_with fail
              go_roundw
              case rel =>
                have s1 := HRD.out.stored (m * 2) (.string (⟨#[40]⟩ ++ sg ++ ya ++ ⟨#[41]⟩))
                have s2 := s1.1.stored (m * 2 + 1) (.int .i64 (yd + 1))
                have hset := ptC_set ((⟨#[40]⟩ ++ sg ++ ya ++ ⟨#[41]⟩, yd + 1) : PT) st m
                simp only at hset
                rw [hset, HST.out] at s2
                exact ⟨k + 1, st.take m ++ [(⟨#[40]⟩ ++ sg ++ ya ++ ⟨#[41]⟩, yd + 1)], by first | rfl | rw [← w9], Lib.hid (HN.out _ _ s2.1 ((HBD.out.setCell (p := ⟨gs, m * 2, none⟩) HBS _).setCell (p := ⟨gs, m * 2 + 1, none⟩) HBS _))⟩
              case measure => simp [intOf]; omega
            · have h5 : 5 ≤ kk ∧ kk ≤ 14 := by omega
              have ht2 : takesN (kk : Int) = 2 := by unfold takesN; rw [if_pos ⟨by omega, by omega⟩]
              have htr : takesR (kk : Int) = 2 := by unfold takesR; rw [if_neg (by omega), if_neg (by omega), if_pos ⟨by omega, by omega⟩]
              rw [htr] at TK
              rw [ht2] at NX htk
              obtain ⟨m, hm⟩ : ∃ m, st.length = m + 2 := ⟨st.length - 2, by omega⟩
              obtain ⟨y, hy⟩ : ∃ y, st[m]? = some y := ⟨_, List.getElem?_eq_getElem (by omega)⟩
              obtain ⟨z, hz⟩ : ∃ z, st[m + 1]? = some z := ⟨_, List.getElem?_eq_getElem (by omega)⟩
              have hyd := hev.out.deep y (List.mem_of_getElem? hy)
              have hzd := hev.out.deep z (List.mem_of_getElem? hz)
              have hys := Nat.le_trans (ptSum_mem (List.mem_of_getElem? hy)) hev.out.size
              have hzs := Nat.le_trans (ptSum_mem (List.mem_of_getElem? hz)) hev.out.size
              have hdr : st.drop m = [y, z] := drop_two hm hy hz
              obtain ⟨mx, hmx⟩ : ∃ mx, max y.2 z.2 = mx := ⟨_, rfl⟩
              have HN := Lib.hid (NX.out m (by omega) (⟨#[40]⟩ ++ y.1 ++ sg ++ z.1 ++ ⟨#[41]⟩, mx + 1) (by rw [hdr, HND.out, ← hmx]))
              have HST := Lib.hid (set_end st m (⟨#[40]⟩ ++ y.1 ++ sg ++ z.1 ++ ⟨#[41]⟩, mx + 1) (by omega))
              have hrow' := HROW.out
              rw [hm] at hrow'
              obtain ⟨gs, cap', hvb, -, -⟩ := hrow'.form (by omega)
              cases hvb
              obtain ⟨v0, v1⟩ := ptC_at st m y hy
              obtain ⟨u0, u1⟩ := ptC_at st (m + 1) z hz
              have hmv : m + 2 ≤ vc := own_cap hrow'
              have HBS := (hrow'.lt gs rfl).1
              rw [hm]
              clear NX HND hmay htk h3 ht2 htr hdr hy hz x2 x3 HROW h5
              have HRD := Lib.hid (show wr.drew.ownsRow w.heap.size 78 2 (.slice (some ⟨gs, 0, none⟩) (m + 2) vc) (m + 2) (ptC st) from hrow')
              have HBD := Lib.hid (hev.out.bel.drew)
              clear hrow'
              have d0 := HRD.out.cellAt (m * 2) (by omega)
              have d1 := HRD.out.cellAt (m * 2 + 1) (by omega)
              have e0 := HRD.out.cellAt ((m + 1) * 2) (by omega)
              have e1 := HRD.out.cellAt ((m + 1) * 2 + 1) (by omega)
              rw [v0] at d0
              rw [v1] at d1
              rw [u0] at e0
              rw [u1] at e1
              have f0 := HRD.out.frozenAt (m * 2)
              have f1 := HRD.out.frozenAt (m * 2 + 1)
              have xd : wr.drew.cell? ⟨g, off + k * 3, none⟩ = some (.int .i64 (kk : Int)) := x1
              obtain ⟨ya, yd⟩ := y
              obtain ⟨za, zd⟩ := z
              simp only at d0 d1 e0 e1 hyd hzd hys hzs HN HST hmx
              have wm : IntKind.i64.wrap (((m + 2 : Nat) : Int) - 2) = (m : Int) := by rw [IntWalk.i64_in _ (by omega)]; omega
              have wm' : IntKind.i64.wrap ((m : Int) + 2 - 2) = (m : Int) := by rw [IntWalk.i64_in _ (by omega)]; omega
              have wn : IntKind.i64.wrap (((m + 2 : Nat) : Int) - 1) = ((m + 1 : Nat) : Int) := by rw [IntWalk.i64_in _ (by omega)]; omega
              have wn' : IntKind.i64.wrap ((m : Int) + 2 - 1) = ((m + 1 : Nat) : Int) := by rw [IntWalk.i64_in _ (by omega)]; omega
              have wd : IntKind.i64.wrap (mx + 1) = mx + 1 := by rw [IntWalk.i64_in _ (by omega)]
              have wmm : IntKind.i64.wrap (m : Int) = (m : Int) := by rw [IntWalk.i64_in _ (by omega)]
              have p0 : (0 : Int) ≤ (m : Int) := by omega
              have p1 : (m : Int) < (m : Int) + 2 := by omega
              have p2 : (m : Int) + 1 < (m : Int) + 2 := by omega
              have p3 : (0 : Int) ≤ (m : Int) + 1 := by omega
              have p4 : (m : Int) < ((m + 2 : Nat) : Int) := by omega
              have p5 : ((m + 1 : Nat) : Int) < ((m + 2 : Nat) : Int) := by omega
              have p6 : (0 : Int) ≤ ((m + 1 : Nat) : Int) := by omega
              have p7 : ((m + 1 : Nat) : Int) ≤ (vc : Int) := by omega
              have p8 : (m : Int) + 1 ≤ (vc : Int) := by omega
              have n1 : ¬ (9223372036854775807 < 1 + ByteArray.size ya) := by omega
              have n2 : ¬ (9223372036854775807 < 1 + ByteArray.size ya + ByteArray.size sg) := by omega
              have n3 : ¬ (9223372036854775807 < 1 + ByteArray.size ya + ByteArray.size sg + ByteArray.size za) := by omega
              have n4 : ¬ (9223372036854775807 < 1 + ByteArray.size ya + ByteArray.size sg + ByteArray.size za + 1) := by omega
              have n5 : ¬ (9223372036854775806 < 1 + ByteArray.size ya + ByteArray.size sg + ByteArray.size za) := by omega
              have HMV := Lib.hid hmv
              go_wp2_with fail
              refine (TK.out _).mono ?_
              rintro e w2 ⟨rfl, rfl⟩
              go_upto_region 9 with fail
              refine wp_region_still_tail 41 (by kernel_rfl) (by kernel_rfl) ?_
              simp only [List.take_succ_cons, List.take_zero, List.drop_succ_cons, List.drop_zero]
              change wpStill _ _ (World.drew wr) (fun a' => wpList _ _ _ _ a' (World.drew wr)) _ _
              generalize World.drew _ = V at *
              repeat still_step
              still_call (still_of (SG.out V))
              repeat still_step
              refine wpStill_nil ?_
              go_wp2_with fail
              go_roundw
              case rel =>
                have s1 := HRD.out.stored (m * 2) (.string (⟨#[40]⟩ ++ ya ++ sg ++ za ++ ⟨#[41]⟩))
                have s2 := s1.1.stored (m * 2 + 1) (.int .i64 (mx + 1))
                have hset := ptC_set ((⟨#[40]⟩ ++ ya ++ sg ++ za ++ ⟨#[41]⟩, mx + 1) : PT) st m
                simp only at hset
                rw [hset] at s2
                have s3 := own_take s2.1 (m := m + 1) (by omega)
                rw [ptC_take, HST.out] at s3
                exact ⟨k + 1, st.take m ++ [(⟨#[40]⟩ ++ ya ++ sg ++ za ++ ⟨#[41]⟩, mx + 1)], by first | rfl | rw [← w9], Lib.hid (HN.out _ _ s3 ((HBD.out.setCell (p := ⟨gs, m * 2, none⟩) HBS _).setCell (p := ⟨gs, m * 2 + 1, none⟩) HBS _))⟩
              case measure => simp [intOf]; omega
      · have hkl2 : k = T.length := by omega
        subst hkl2
        have hck := hev.out.chk
        rw [List.take_length, HC.out] at hck
        have hfo := hev.out.fold
        rw [List.take_length] at hfo
        have h1 : st.length = 1 := (Option.some.inj hck).symm
        obtain ⟨p, rfl⟩ := List.length_eq_one_iff.1 h1
        have hR := HE.out
        rw [hfo] at hR
        have HR := Lib.hid (show docText T = docTextR p from hR)
        have hpd := hev.out.deep p (by simp)
        obtain ⟨gs, cap', hvb, -, -⟩ := hrow.form (by simp)
        cases hvb
        have d0 := hrow.cellAt 0 (by simp [ptC])
        have d1 := hrow.cellAt 1 (by simp [ptC])
        replace d0 : wr.cell? ⟨gs, 0, none⟩ = some (.string p.1) := d0
        replace d1 : wr.cell? ⟨gs, 1, none⟩ = some (.int .i64 p.2) := d1
        have HBEL := Lib.hid hev.out.bel
        obtain ⟨pa, pd⟩ := p
        simp only at d0 d1 hpd
        clear hrow hev hck hfo hR hkl
        simp only [List.length_cons, List.length_nil, Nat.zero_add]
        by_cases hd : 64 < pd
        · go_wp2_with fail
          go_ret2
          exact ⟨by rw [HR.out]; unfold docTextR; rw [if_pos hd]; rfl, HBEL.out⟩
        · have HD := Lib.hid hd
          go_wp2_with fail
          go_ret2
          exact ⟨by rw [HR.out]; unfold docTextR; rw [if_neg (show ¬ (64 : Int) < (pa, pd).2 from by have := HD.out; show ¬ (64 : Int) < pd; omega)]; rfl, HBEL.out⟩
  · have HE := Lib.hid (show docText T = (E0, checkT T) by unfold docText; rw [if_neg hc])
    have hc' : (checkT T != 0) = true := by rw [bne, beq_eq_false_iff_ne.2 hc]; rfl
    obtain ⟨q, hq⟩ : ∃ q, checkT T = q := ⟨_, rfl⟩
    rw [hq] at CK hc' HE
    clear hc hq
    go_enter Tryd.func12, Tryd.ntmps12
    go_wp2_with fail
    refine CK.out.mono ?_
    rintro e w1 ⟨rfl, rfl⟩
    go_wp2_with fail
    go_ret2
    exact ⟨by rw [HE.out]; rfl, Below.refl _ _⟩
end Go.Proofs.YtdkflmpdelfgoaaDoor
