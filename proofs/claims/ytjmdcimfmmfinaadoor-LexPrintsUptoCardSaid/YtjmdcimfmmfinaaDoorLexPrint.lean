/-
  Print: what each call returns. Conditions: what the variables of the library hold (Good), at most 700 tokens of texts of at most 1048576 bytes.
-/
import Derived.Test.YtjmdcimfmmfinaaDoorLexText
import Derived.Test.YtjmdcimfmmfinaaDoorLexTo
import Derived.Test.YtjmdcimfmmfinaaDoorLexC
import Derived.StillTailTactics
import Derived.Deep.RegionHeld3
namespace Go.Proofs.YtjmdcimfmmfinaaDoor
open Go.RowKit Go.Shelf
set_option linter.unusedVariables false
attribute [local go_sem] Oper.semAt_some

def chkT (x : Tok) : Bool := checkB x.k x.t (x.n : Int) x.p
/-- what Print answers -/
def PrintV (T : List Tok) : Value := if T.all chkT = true then (if (printF none T).length ≤ 512 then .tuple #[.string ⟨(printF none T).toArray⟩, .int .i64 0] else .tuple #[.string ⟨#[]⟩, .int .i64 3]) else .tuple #[.string ⟨#[]⟩, .int .i64 1]
theorem parted_same (a b : Tok) : partedP a b = partedB a.k a.t b.k b.t := by
  unfold partedP partedB wordyB slashB wordy
  cases a.k == 1 <;> cases a.k == 2 <;> cases b.k == 1 <;> cases b.k == 2 <;> cases a.k == 4 <;> cases b.k == 4 <;> cases a.t == [47] <;> cases b.t == [47] <;> rfl
theorem printF_snoc : ∀ (A : List Tok) (q : Option Tok) (x : Tok), printF q (A ++ [x]) = printF q A ++ (gapB (A.getLast?.or q) x ++ textB x)
  | [], q, x => by simp [printF]
  | a :: A, q, x => by
    have ih := printF_snoc A (some a) x
    rw [List.cons_append, printF, ih, printF]
    have e : ((a :: A).getLast?.or q) = A.getLast?.or (some a) := by
      cases A with
      | nil => rfl
      | cons b A =>
        rw [List.getLast?_cons_cons]
        cases h : (b :: A).getLast? with
        | none => simp at h
        | some y => rfl
    rw [e]
    simp only [List.append_assoc]
theorem print_zero {T : List Tok} {x : Tok} (hx : T[0]? = some x) : printF none (T.take 1) = printF none (T.take 0) ++ textB x := by
  cases T with
  | nil => cases hx
  | cons a T => simp at hx; subst hx; simp [printF, gapB]
theorem print_succ {T : List Tok} {m : Nat} {x y : Tok} (hy : T[m]? = some y) (hx : T[m + 1]? = some x) : printF none (T.take (m + 1 + 1)) = printF none (T.take (m + 1)) ++ (gapB (some y) x ++ textB x) := by
  have e : T.take (m + 1 + 1) = T.take (m + 1) ++ [x] := by rw [List.take_add_one, hx]; rfl
  have e2 : (T.take (m + 1)).getLast? = some y := by
    have : T.take (m + 1) = T.take m ++ [y] := by rw [List.take_add_one, hy]; rfl
    rw [this, List.getLast?_concat]
  rw [e, printF_snoc, e2]; rfl
theorem quoted1_len4 (c : UInt8) : (quoted1 c).length ≤ 4 := by
  unfold quoted1
  split
  · simp
  · split <;> simp
theorem flat_len4 : ∀ s : Bs, (s.flatMap quoted1).length ≤ 4 * s.length
  | [] => Nat.le_refl _
  | c :: s => by
    have := flat_len4 s
    have h := quoted1_len4 c
    rw [List.flatMap_cons, List.length_append, List.length_cons]; omega
theorem text_le (x : Tok) (hn : x.n < 18446744073709551616) : (textB x).length ≤ 4 * x.t.length + 22 := by
  unfold textB
  split
  · rw [Lib.decDigits_length]
    rcases Nat.eq_zero_or_pos x.n with h | h
    · rw [h]; simp [Lib.nDigits_small]
    · have := Lib.numDigits_eq x.n h hn; split at this <;> omega
  · split
    · have := flat_len4 x.t
      unfold quoteB
      simp only [List.length_cons, List.length_append, List.length_nil]
      omega
    · omega
theorem print_le (L : Nat) : ∀ (T : List Tok) (q : Option Tok), (∀ x ∈ T, x.t.length ≤ L ∧ x.n < 18446744073709551616) → (printF q T).length ≤ T.length * (4 * L + 24)
  | [], q, _ => by cases q <;> simp [printF]
  | x :: T, q, h => by
    have ih := print_le L T (some x) (fun y hy => h y (by simp [hy]))
    obtain ⟨h1, h2⟩ := h x (by simp)
    have ht := text_le x h2
    have hg : (gapB q x).length ≤ 1 := by
      cases q with
      | none => exact Nat.zero_le _
      | some a =>
        show (if partedP a x = true then [32] else ([] : Bs)).length ≤ 1
        split <;> simp
    rw [printF, List.length_append, List.length_append, List.length_cons, Nat.add_mul]
    omega

def bool_gap (b : Bool) : Bs := if b = true then [32] else []
theorem cell_kept {W W' : World} (hb : Below W.heap.size W W') {a : Addr} {v : Value} (h : W.cell? a = some v) : W'.cell? a = some v := (hb.cell (World.block_lt_of_cell? W a h)).trans h
theorem keep8 {W W' : World} (hb : Below W.heap.size W W') {a1 a2 a3 a4 a5 a6 a7 a8 : Addr} {v1 v2 v3 v4 v5 v6 v7 v8 : Value} (h1 : W.cell? a1 = some v1) (h2 : W.cell? a2 = some v2) (h3 : W.cell? a3 = some v3) (h4 : W.cell? a4 = some v4) (h5 : W.cell? a5 = some v5) (h6 : W.cell? a6 = some v6) (h7 : W.cell? a7 = some v7) (h8 : W.cell? a8 = some v8) :
    W'.cell? a1 = some v1 ∧ W'.cell? a2 = some v2 ∧ W'.cell? a3 = some v3 ∧ W'.cell? a4 = some v4 ∧ W'.cell? a5 = some v5 ∧ W'.cell? a6 = some v6 ∧ W'.cell? a7 = some v7 ∧ W'.cell? a8 = some v8 :=
  ⟨cell_kept hb h1, cell_kept hb h2, cell_kept hb h3, cell_kept hb h4, cell_kept hb h5, cell_kept hb h6, cell_kept hb h7, cell_kept hb h8⟩
set_option maxRecDepth 100000 in
set_option maxHeartbeats 16000000 in
theorem print_any (v : Value) (T : List Tok) (w : World) (hG : Good w) (hT : TokO w v T) (hl : T.length ≤ 700) (hx0 : ∀ x ∈ T, x.t.length ≤ 1048576 ∧ x.n < 18446744073709551616) :
    Calls Tryd.prog 27 #[v] w fun e w' => e = .returned (PrintV T) ∧ Below w.heap.size w w' := by
  have HT := Lib.hid hT
  have LN := toko_len hT
  have HX0 := Lib.hid hx0
  have GD := Lib.hid (fun w1 (h : Below w.heap.size w w1) => hG.thn h)
  have HPL := Lib.hid (fun k => show (printF none (T.take k)).length ≤ 2940000000 from Nat.le_trans (print_le 1048576 (T.take k) none (fun x hx => hx0 x (List.mem_of_mem_take hx))) (Nat.le_trans (Nat.mul_le_mul (show (T.take k).length ≤ 700 by rw [List.length_take]; omega) (Nat.le_refl _)) (by decide)))
  have BN := Lib.hid (bld_new w)
  clear hT hx0 hG
  go_enter Tryd.func27, Tryd.ntmps27
  go_wp2_with fail
  go_loopw [10] (fun iv wr => ∃ k : Nat, k ≤ T.length ∧ iv = .int .i64 (k : Int) ∧ Hid ((T.take k).all chkT = true) ∧ Bld w.heap.size w.heap.size (printF none (T.take k)) wr ∧ w.heap.size < wr.heap.size ∧ Below w.heap.size w wr) (fun iv _ => T.length - (intOf iv).toNat)
  case atStart => exact ⟨0, Nat.zero_le _, rfl, Lib.hid rfl, BN.out, by simp, below1 w _⟩
  case round =>
    obtain ⟨k, hk, rfl, hall, hbld, hsz, hbr⟩ := hrel
    by_cases hlt : (k : Int) < (T.length : Int)
    · have hlt' : k < T.length := by omega
      obtain ⟨g, off, cap, x, hx, rfl, x1, x2, x3, x4⟩ := toko_at (HT.out.keep hbr) hlt'
      obtain ⟨h1, h2⟩ := HX0.out x (List.mem_of_getElem? hx)
      obtain ⟨D, hD⟩ : ∃ D, (⟨x.t.toArray⟩ : ByteArray) = D := ⟨_, rfl⟩
      have hDl : D.data.toList = x.t := by rw [← hD]
      have hDs : D.size ≤ 1048576 := by rw [size_list, hDl]; exact h1
      have CK := Lib.hid (fun V => check_any x.k D (x.n : Int) x.p V (by unfold maxLen; omega))
      rw [hDl] at CK
      change Hid (∀ V, Calls _ _ _ _ fun e w' => e = .returned (.int .i64 (errC (chkT x))) ∧ _) at CK
      rw [hD] at x2
      have w9 : IntKind.i64.wrap ((k : Int) + 1) = ((k + 1 : Nat) : Int) := by rw [IntWalk.i64_in _ (by omega)]; omega
      have HX := Lib.hid hx
      have HDl := Lib.hid hDl
      have HBR := Lib.hid hbr
      have HBLD := Lib.hid hbld
      have HNE := Lib.hid (show wr.heap.size ≠ w.heap.size by omega)
      have b5 : ∀ w5, Below (wr.heap.size + 1) (wr.alloc (.cells #[.int .i64 x.k, .string D, .int .u64 (x.n : Int), .int .i64 x.p] 30)) w5 → Hid (w5.heap[wr.heap.size]? = some (.cells #[.int .i64 x.k, .string D, .int .u64 (x.n : Int), .int .i64 x.p] 30 (0, 0)) ∧ Bld w.heap.size w.heap.size (printF none (T.take k)) w5 ∧ Below w.heap.size w w5) := fun w5 hb5 => by
        have hz : wr.heap.size < (wr.alloc (.cells #[.int .i64 x.k, .string D, .int .u64 (x.n : Int), .int .i64 x.p] 30)).heap.size := by simp
        have h2 : Below wr.heap.size wr w5 := Below.thn (below1 wr _) (by simp) (hb5.mono (by simp))
        exact Lib.hid ⟨(hb5.block wr.heap.size (by omega)).trans (heap_alloc_new wr _), bld_keep hbld h2, Below.thn hbr hbr.size h2⟩
      have B5 := Lib.hid b5
      clear hD hDl hbr hbld b5 hx
      cases hc : chkT x with
      | false =>
        rw [hc] at CK
        have R := Lib.hid (show PrintV T = .tuple #[.string ⟨#[]⟩, .int .i64 1] by
          unfold PrintV
          rw [if_neg]
          intro h
          have := List.all_eq_true.1 h x (List.mem_of_getElem? HX.out)
          rw [hc] at this; cases this)
        clear hc
        rw [show errC false = 1 from rfl] at CK
        go_wp2_with fail
        refine (CK.out _).mono ?_
        rintro e w5 ⟨rfl, hb5⟩
        have HB5 := Lib.hid (B5.out w5 (by simpa using hb5)).out.2.2
        clear hb5 B5
        go_wp2_with fail
        go_ret2
        exact ⟨by rw [R.out]; rfl, HB5.out⟩
      | true =>
        rw [hc] at CK
        have HALL := Lib.hid (show (T.take (k + 1)).all chkT = true by
          rw [List.take_add_one, HX.out, List.all_append, hall.out]; simp [hc])
        have hTX : textO x.k x.t x.n x.p = textB x := by
          unfold textO
          rw [if_pos (show checkB x.k x.t (x.n : Int) x.p = true from hc)]
        have TX := Lib.hid (fun V (hb : Below w.heap.size w V) => text_any x.k D x.n x.p V (GD.out V hb) (by omega) h2)
        rw [HDl.out, hTX] at TX
        have hTL := text_le x h2
        clear hc hTX
        rw [show errC true = 0 from rfl] at CK
        obtain ⟨kk, tt, nn, pp⟩ := x
        simp only at x1 x2 x3 x4 CK TX B5 h1 h2 hTL
        cases k with
        | zero =>
          simp only [Nat.zero_mul, Nat.add_zero] at x1 x2 x3 x4
          go_wp2_with fail
          refine (CK.out _).mono ?_
          rintro e w5 ⟨rfl, hb5⟩
          obtain ⟨hk5, hB5, hw5⟩ := (B5.out w5 (by simpa using hb5)).out
          have q0 : w5.cell? ⟨wr.heap.size, 0, none⟩ = some (.int .i64 kk) := by rw [Lib.cell_of_heap hk5]; rfl
          have q1 : w5.cell? ⟨wr.heap.size, 1, none⟩ = some (.string D) := by rw [Lib.cell_of_heap hk5]; rfl
          have q2 : w5.cell? ⟨wr.heap.size, 2, none⟩ = some (.int .u64 (nn : Int)) := by rw [Lib.cell_of_heap hk5]; rfl
          have q3 : w5.cell? ⟨wr.heap.size, 3, none⟩ = some (.int .i64 pp) := by rw [Lib.cell_of_heap hk5]; rfl
          have HK5 := Lib.hid hk5
          have HB5 := Lib.hid hB5
          have HW5 := Lib.hid hw5
          have HZ := Lib.hid (show w.heap.size < w5.heap.size by have := heap_lt hk5; omega)
          clear hb5 B5 hk5 hB5 hw5
          go_wp2_with fail
          go_quiet (fail)
          have HW5q := Lib.hid (below_drewN HW5.out nq)
          have HZ := Lib.hid (show w.heap.size < (w5.drewN nq).heap.size by have := HZ.out; simp; omega)
          go_wp2_with fail
          refine (TX.out _ HW5q.out).mono ?_
          rintro e w8 ⟨rfl, hb8⟩
          have HW8 := Lib.hid (Below.thn HW5q.out HW5q.out.size hb8)
          have hz8 := HW8.out.size
          have HZ8 := Lib.hid (show w.heap.size < w8.heap.size by have := hb8.size; have := HZ.out; omega)
          have WS := Lib.hid (wstring_any w.heap.size w.heap.size _ ⟨(textB ⟨kk, tt, nn, pp⟩).toArray⟩ w8 (bld_keep (Lib.hid (show Bld w.heap.size w.heap.size (printF none (T.take 0)) (w5.drewN nq) from bld_keep HB5.out (below_drewN (Below.refl _ _) nq))).out hb8) (by have := HPL.out 0; rw [size_list]; show _ + (textB ⟨kk, tt, nn, pp⟩).length ≤ _; omega) hz8)
          clear hb8
          go_wp2_with fail
          refine WS.out.mono ?_
          rintro e w9' ⟨rfl, hB9, hb9, -⟩
          have HB9 := Lib.hid hB9
          have HW9 := Lib.hid (HW8.out.trans hb9)
          have hz9 : w.heap.size < w9'.heap.size := by have := hb9.size; have := HZ8.out; omega
          clear hb9 hB9 WS
          go_wp2_with fail
          go_roundw
          case rel => exact ⟨_, by omega, by first | rfl | rw [← w9], HALL, by rw [print_zero HX.out]; exact HB9.out, hz9, HW9.out⟩
          case measure => simp [intOf]; omega
        | succ m =>
          go_wp2_with fail
          refine (CK.out _).mono ?_
          rintro e w5 ⟨rfl, hb5⟩
          obtain ⟨hk5, hB5, hw5⟩ := (B5.out w5 (by simpa using hb5)).out
          have q0 : w5.cell? ⟨wr.heap.size, 0, none⟩ = some (.int .i64 kk) := by rw [Lib.cell_of_heap hk5]; rfl
          have q1 : w5.cell? ⟨wr.heap.size, 1, none⟩ = some (.string D) := by rw [Lib.cell_of_heap hk5]; rfl
          have q2 : w5.cell? ⟨wr.heap.size, 2, none⟩ = some (.int .u64 (nn : Int)) := by rw [Lib.cell_of_heap hk5]; rfl
          have q3 : w5.cell? ⟨wr.heap.size, 3, none⟩ = some (.int .i64 pp) := by rw [Lib.cell_of_heap hk5]; rfl
          obtain ⟨g', off', cap', y, hy, hv, y1, y2, y3, y4⟩ := toko_at (HT.out.keep hw5) (k := m) (by omega)
          cases hv
          obtain ⟨E, hE⟩ : ∃ E, (⟨y.t.toArray⟩ : ByteArray) = E := ⟨_, rfl⟩
          have hEl : E.data.toList = y.t := by rw [← hE]
          rw [hE] at y2
          have PA := Lib.hid (fun V => parted_any y.k E (y.n : Int) y.p kk D (nn : Int) pp V)
          rw [hEl, HDl.out] at PA
          have hps := parted_same y ⟨kk, tt, nn, pp⟩
          simp only at hps
          rw [← hps] at PA
          have HPR := Lib.hid (print_succ hy HX.out)
          obtain ⟨yk, yt, yn, yp⟩ := y
          simp only at y1 y2 y3 y4 PA
          have wm : IntKind.i64.wrap (((m + 1 : Nat) : Int) - 1) = (m : Int) := by rw [IntWalk.i64_in _ (by omega)]; omega
          have wm2 : IntKind.i64.wrap (m : Int) = (m : Int) := IntWalk.i64_in _ (by omega)
          have wm3 : IntKind.i64.wrap ((m : Int) + 1 - 1) = (m : Int) := by rw [IntWalk.i64_in _ (by omega)]; omega
          have hm00 : (0 : Int) ≤ (m : Int) := by omega
          have hm0 : (0 : Int) < ((m + 1 : Nat) : Int) := by omega
          have hml : (m : Int) < (T.length : Int) := by omega
          have HK5 := Lib.hid hk5
          have HB5 := Lib.hid hB5
          have HW5 := Lib.hid hw5
          have HZ := Lib.hid (show w.heap.size < w5.heap.size by have := heap_lt hk5; omega)
          clear hb5 B5 hk5 hB5 hw5 hE hEl hps hy
          go_wp2_with fail
          go_region_held3 (fun w' => w'.cell? ⟨g, off + m * 4, none⟩ = some (.int .i64 yk) ∧ w'.cell? ⟨g, off + m * 4 + 1, none⟩ = some (.string E) ∧ w'.cell? ⟨g, off + m * 4 + 2, none⟩ = some (.int .u64 (yn : Int)) ∧ w'.cell? ⟨g, off + m * 4 + 3, none⟩ = some (.int .i64 yp) ∧ w'.cell? ⟨wr.heap.size, 0, none⟩ = some (.int .i64 kk) ∧ w'.cell? ⟨wr.heap.size, 1, none⟩ = some (.string D) ∧ w'.cell? ⟨wr.heap.size, 2, none⟩ = some (.int .u64 (nn : Int)) ∧ w'.cell? ⟨wr.heap.size, 3, none⟩ = some (.int .i64 pp)) (first | exact ⟨y1, y2, y3, y4, q0, q1, q2, q3⟩ | exact S6) (first | (go_at_call 46; refine (PA.out _).mono ?_; rintro e w6 ⟨rfl, hb6⟩; have S6 := keep8 hb6 y1 y2 y3 y4 q0 q1 q2 q3; have HQ6 := Lib.hid (show Below w5.heap.size w5 w6 from Below.thn (Below.refl _ w5).drew (Nat.le_refl _) hb6); clear hb6))
          have q0 := S6.2.2.2.2.1
          have q1 := S6.2.2.2.2.2.1
          have q2 := S6.2.2.2.2.2.2.1
          have q3 := S6.2.2.2.2.2.2.2
          have HW6 := Lib.hid (Below.thn HW5.out HW5.out.size HQ6.out)
          have HB6 := Lib.hid (bld_keep HB5.out HQ6.out)
          have HK6 := Lib.hid ((HQ6.out.block _ (heap_lt HK5.out)).trans HK5.out)
          have HZ6 := Lib.hid (show w.heap.size < w6.heap.size by have := HZ.out; have := HQ6.out.size; omega)
          clear S6 y1 y2 y3 y4 HQ6 HK5 HB5 HW5 HZ x1 x2 x3 x4
          rename_i hHeld
          clear hHeld
          obtain ⟨pt, hpt⟩ : ∃ pt, partedP ⟨yk, yt, yn, yp⟩ ⟨kk, tt, nn, pp⟩ = pt := ⟨_, rfl⟩
          have HG := Lib.hid (show gapB (some ⟨yk, yt, yn, yp⟩) ⟨kk, tt, nn, pp⟩ = bool_gap pt by rw [← hpt]; rfl)
          rw [hpt]
          clear hpt PA
          cases pt with
          | true =>
            have HZ := HZ6
            have WB := Lib.hid (wbyte_any w.heap.size w.heap.size _ 32 w6 HB6.out (by have := HPL.out (m + 1); omega) (Nat.le_of_lt HZ6.out))
            clear q0 q1 q2 q3
            go_wp2_with fail
            refine WB.out.mono ?_
            rintro e w7 ⟨rfl, hB7, hb7, hk7⟩
            have hk := hk7 _ _ HK6.out (fun e => HNE.out (Option.some.inj e)) (fun c fz e => by cases e)
            have q0 : w7.cell? ⟨wr.heap.size, 0, none⟩ = some (.int .i64 kk) := by rw [Lib.cell_of_heap hk]; rfl
            have q1 : w7.cell? ⟨wr.heap.size, 1, none⟩ = some (.string D) := by rw [Lib.cell_of_heap hk]; rfl
            have q2 : w7.cell? ⟨wr.heap.size, 2, none⟩ = some (.int .u64 (nn : Int)) := by rw [Lib.cell_of_heap hk]; rfl
            have q3 : w7.cell? ⟨wr.heap.size, 3, none⟩ = some (.int .i64 pp) := by rw [Lib.cell_of_heap hk]; rfl
            have HZ := Lib.hid (show w.heap.size < w7.heap.size by have := heap_lt hk; have := HZ6.out; have := hb7.size; omega)
            have HB7 := Lib.hid hB7
            have HW7 := Lib.hid (HW6.out.trans hb7)
            clear hk hk7 hB7 hb7 WB HB6 HW6 HK6
            go_wp2_with fail
            refine (TX.out _ HW7.out).mono ?_
            rintro e w8 ⟨rfl, hb8⟩
            have HW8 := Lib.hid (Below.thn HW7.out HW7.out.size hb8)
            have hz8 := HW8.out.size
            have HZ8 := Lib.hid (show w.heap.size < w8.heap.size by have := hb8.size; have := HZ.out; omega)
            have WS := Lib.hid (wstring_any w.heap.size w.heap.size _ ⟨(textB ⟨kk, tt, nn, pp⟩).toArray⟩ w8 (bld_keep HB7.out hb8) (by have := HPL.out (m + 1); rw [size_list, List.length_append]; show _ + [32].length + (textB ⟨kk, tt, nn, pp⟩).length ≤ _; simp only [List.length_cons, List.length_nil]; omega) hz8)
            clear hb8
            go_wp2_with fail
            refine WS.out.mono ?_
            rintro e w9' ⟨rfl, hB9, hb9, -⟩
            have HB9 := Lib.hid hB9
            have HW9 := Lib.hid (HW8.out.trans hb9)
            have hz9 : w.heap.size < w9'.heap.size := by have := hb9.size; have := HZ8.out; omega
            clear hb9 hB9 WS
            go_wp2_with fail
            go_roundw
            case rel => exact ⟨_, by omega, by first | rfl | rw [← w9], HALL, by rw [HPR.out, HG.out, show bool_gap true = [32] from rfl, ← List.append_assoc]; exact HB9.out, hz9, HW9.out⟩
            case measure => simp [intOf]; omega
          | false =>
            have HZ := HZ6
            go_wp2_with fail
            refine (TX.out _ HW6.out).mono ?_
            rintro e w8 ⟨rfl, hb8⟩
            have HW8 := Lib.hid (Below.thn HW6.out HW6.out.size hb8)
            have hz8 := HW8.out.size
            have HZ8 := Lib.hid (show w.heap.size < w8.heap.size by have := hb8.size; have := HZ.out; omega)
            have WS := Lib.hid (wstring_any w.heap.size w.heap.size _ ⟨(textB ⟨kk, tt, nn, pp⟩).toArray⟩ w8 (bld_keep HB6.out hb8) (by have := HPL.out (m + 1); rw [size_list]; show _ + (textB ⟨kk, tt, nn, pp⟩).length ≤ _; omega) hz8)
            clear hb8
            go_wp2_with fail
            refine WS.out.mono ?_
            rintro e w9' ⟨rfl, hB9, hb9, -⟩
            have HB9 := Lib.hid hB9
            have HW9 := Lib.hid (HW8.out.trans hb9)
            have hz9 : w.heap.size < w9'.heap.size := by have := hb9.size; have := HZ8.out; omega
            clear hb9 hB9 WS
            go_wp2_with fail
            go_roundw
            case rel => exact ⟨_, by omega, by first | rfl | rw [← w9], HALL, by rw [HPR.out, HG.out, show bool_gap false = [] from rfl, List.nil_append]; exact HB9.out, hz9, HW9.out⟩
            case measure => simp [intOf]; omega
    · have hkl : k = T.length := by omega
      subst hkl
      rw [List.take_length] at hall hbld
      have LE := Lib.hid (Tryd.Builder_Len_f w.heap.size w.heap.size _ wr hbld)
      have hLB : (Lib.byteCells (printF none T)).length = (printF none T).length := by simp [Lib.byteCells]
      rw [hLB] at LE
      have HST := Lib.hid (Tryd.Builder_String_any_k w.heap.size w.heap.size _ wr hbld (by omega))
      have HBR := Lib.hid hbr
      clear hbld hbr hLB
      by_cases h5 : (printF none T).length ≤ 512
      · have R := Lib.hid (show PrintV T = .tuple #[.string ⟨(printF none T).toArray⟩, .int .i64 0] by unfold PrintV; rw [if_pos hall.out, if_pos h5])
        generalize printF none T = P at *
        have h6 : ¬ ((512 : Int) < (P.length : Int)) := by omega
        have h7 : (P.length : Int) ≤ 512 := by omega
        clear HPL
        go_wp2_with fail
        refine LE.out.mono ?_
        rintro e w5 ⟨rfl, rfl⟩
        go_wp2_with fail
        refine HST.out.mono ?_
        rintro e w6 ⟨rfl, -, hb6, -⟩
        have HB6 := Lib.hid (HBR.out.trans hb6)
        clear hb6
        go_wp2_with fail
        go_ret2
        exact ⟨by rw [R.out]; rfl, HB6.out⟩
      · have R := Lib.hid (show PrintV T = .tuple #[.string ⟨#[]⟩, .int .i64 3] by unfold PrintV; rw [if_pos hall.out, if_neg h5])
        generalize printF none T = P at *
        have h6 : (512 : Int) < (P.length : Int) := by omega
        clear HPL
        go_wp2_with fail
        refine LE.out.mono ?_
        rintro e w5 ⟨rfl, rfl⟩
        go_wp2_with fail
        go_ret2
        exact ⟨by rw [R.out]; rfl, HBR.out⟩
end Go.Proofs.YtjmdcimfmmfinaaDoor
