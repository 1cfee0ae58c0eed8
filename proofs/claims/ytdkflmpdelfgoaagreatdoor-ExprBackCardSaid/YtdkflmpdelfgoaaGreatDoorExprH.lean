/-
  Check: what each call returns. Conditions: what the variable of operators holds (Good), and the sizes that each lemma states.
-/
import Derived.Test.YtdkflmpdelfgoaaGreatDoorExprG
import Derived.Lib.LaidTab
namespace Go.Proofs.YtdkflmpdelfgoaaGreatDoor
open Go.RowKit Go.Shelf
set_option linter.unusedVariables false
attribute [local go_sem] Oper.semAt_some

/-- the signs of the operators -/
def signB (k : Nat) : BA := ⟨(if k = 3 then [45] else if k = 4 then [126] else if k = 5 then [42] else if k = 6 then [47] else if k = 7 then [37] else if k = 8 then [43] else if k = 9 then [45] else if k = 10 then [60, 60] else if k = 11 then [62, 62] else if k = 12 then [38] else if k = 13 then [94] else if k = 14 then [124] else [] : List UInt8).toArray⟩
def groupN (k : Nat) : Nat := if k < 5 then 0 else if k ≤ 7 then 1 else if k ≤ 9 then 2 else if k ≤ 11 then 3 else k - 8
/-- the package-level variable holds what its text lays -/
structure GoodE (w : World) : Prop where
  size : 4 ≤ w.heap.size
  ops : ∀ k : Nat, k < 15 → w.cell? ⟨0, k * 3, none⟩ = some (.int .i64 ((takesN (k : Int) : Nat) : Int)) ∧ w.cell? ⟨0, k * 3 + 1, none⟩ = some (.string (signB k)) ∧ w.cell? ⟨0, k * 3 + 2, none⟩ = some (.int .i64 ((groupN k : Nat) : Int))
  pow : Lib.TabIs Tryz.prog w "internal/strconv.uint64pow10" .u64 Lib.pow10Tab
theorem e_gPow : Tryz.prog.globalNamed "internal/strconv.uint64pow10" = some 1 := by kernel_rfl
theorem GoodE.keep {w w' : World} {B : Nat} (h : GoodE w) (hB : 4 ≤ B) (hb : Below B w w') : GoodE w' := by
  have hz := h.size
  refine ⟨Nat.le_trans h.size hb.size, fun k hk => ?_, ?_⟩
  rotate_left
  · have hp := h.pow
    unfold Lib.TabIs World.var? at hp ⊢
    rw [e_gPow] at hp ⊢
    simp only [Option.bind_some] at hp ⊢
    rw [hb.block 1 (by omega)]
    exact hp
  obtain ⟨a, b, c⟩ := h.ops k hk
  have k0 : ∀ j, w'.cell? ⟨0, j, none⟩ = w.cell? ⟨0, j, none⟩ := fun j => hb.cell (p := ⟨0, j, none⟩) (by show 0 < B; omega)
  exact ⟨(k0 _).trans a, (k0 _).trans b, (k0 _).trans c⟩
theorem GoodE.thn {w w' : World} (h : GoodE w) (hb : Below w.heap.size w w') : GoodE w' := h.keep h.size hb

def checkF : Nat → List Tm → Option Nat
  | h, [] => some h
  | h, t :: r => if mayB t = true ∧ takesN t.k ≤ h then checkF (h + 1 - takesN t.k) r else none
def checkT (T : List Tm) : Int := if checkF 0 T = some 1 then (if T.length ≤ 256 then 0 else 93) else 90
theorem checkF_snoc : ∀ (A : List Tm) (h : Nat) (x : Tm), checkF h (A ++ [x]) = (checkF h A).bind fun n => if mayB x = true ∧ takesN x.k ≤ n then some (n + 1 - takesN x.k) else none
  | [], h, x => rfl
  | a :: A, h, x => by
    rw [List.cons_append, checkF, checkF]
    split
    · exact checkF_snoc A _ x
    · rfl
theorem checkF_none : ∀ (A B : List Tm) (h : Nat), checkF h A = none → checkF h (A ++ B) = none
  | [], B, h, e => by cases e
  | a :: A, B, h, e => by
    rw [List.cons_append, checkF]
    rw [checkF] at e
    split
    · rename_i hh
      rw [if_pos hh] at e
      exact checkF_none A B _ e
    · rfl
theorem checkF_le : ∀ (A : List Tm) (h n : Nat), checkF h A = some n → n ≤ h + A.length
  | [], h, n, e => by simp [checkF] at e; subst e; simp
  | a :: A, h, n, e => by
    rw [checkF] at e
    split at e
    · have := checkF_le A _ n e
      rw [List.length_cons]; omega
    · cases e
theorem mayB_k {t : Tm} (h : mayB t = true) : ∃ k : Nat, t.k = (k : Int) ∧ 1 ≤ k ∧ k ≤ 14 := by
  unfold mayB at h
  by_cases h1 : t.k = 1
  · exact ⟨1, h1, by decide, by decide⟩
  rw [if_neg h1] at h
  by_cases h2 : t.k = 2
  · exact ⟨2, h2, by decide, by decide⟩
  rw [if_neg h2] at h
  simp only [Bool.and_eq_true, decide_eq_true_eq] at h
  exact ⟨t.k.toNat, by omega, by omega, by omega⟩
theorem takes_le (k : Int) : takesN k ≤ 2 := by unfold takesN; split; exact Nat.le_refl _; split <;> omega
set_option maxRecDepth 100000 in
set_option maxHeartbeats 8000000 in
theorem check_any (v : Value) (T : List Tm) (w : World) (hG : GoodE w) (h : TriO tmF w v T) (hl : T.length ≤ 281474976710656) (hs : ∀ x ∈ T, x.s.size ≤ maxLen) :
    Calls Tryz.prog 14 #[v] w fun e w' => e = .returned (.int .i64 (checkT T)) ∧ Below w.heap.size w w' := by
  have HT := Lib.hid h
  have HS := Lib.hid hs
  have GD := Lib.hid (fun V (hb : Below w.heap.size w V) => (hG.thn hb).ops)
  obtain ⟨A, c, rfl⟩ := tri_slice h
  clear h hs hG
  go_enter Tryz.func14, Tryz.ntmps14
  go_wp2_with fail
  go_loopw [8, 3] (fun iv lv wr => ∃ k n : Nat, k ≤ T.length ∧ iv = .int .i64 (k : Int) ∧ lv = .int .i64 (n : Int) ∧ Hid (checkF 0 (T.take k) = some n) ∧ Below w.heap.size w wr) (fun iv lv _ => T.length - (intOf iv).toNat)
  case atStart => exact ⟨0, 0, Nat.zero_le _, rfl, rfl, Lib.hid rfl, Below.refl _ _⟩
  case round =>
    obtain ⟨k, n, hk, rfl, rfl, hst, hbr⟩ := hrel
    by_cases hlt : (k : Int) < (T.length : Int)
    · have hlt' : k < T.length := by omega
      obtain ⟨g, off, cap, x, hx, hv, x1, x2, x3⟩ := tri_at (HT.out.keep hbr) hlt'
      cases hv
      simp only [tmF] at x1 x2 x3
      have MY := Lib.hid (fun V => may_any x V (HS.out x (List.mem_of_getElem? hx)))
      unfold tmV at MY
      have HBR := Lib.hid hbr
      have w9 : IntKind.i64.wrap ((k : Int) + 1) = ((k + 1 : Nat) : Int) := by rw [IntWalk.i64_in _ (by omega)]; omega
      have SN := Lib.hid (show checkF 0 (T.take (k + 1)) = if mayB x = true ∧ takesN x.k ≤ n then some (n + 1 - takesN x.k) else none by
        rw [List.take_add_one, hx]
        show checkF 0 (T.take k ++ [x]) = _
        rw [checkF_snoc, hst.out]; rfl)
      have hnk : n ≤ k := by
        have := checkF_le _ _ _ hst.out
        rw [List.length_take] at this; omega
      have R90 := Lib.hid (fun (hf : checkF 0 (T.take (k + 1)) = none) => show checkT T = 90 by
        unfold checkT
        have := checkF_none _ (T.drop (k + 1)) _ hf
        rw [List.take_append_drop] at this
        rw [this]; rfl)
      clear hbr hx
      cases hm : mayB x with
      | false =>
        rw [hm] at MY SN
        have R := Lib.hid (R90.out (by rw [SN.out]; rfl))
        clear hm SN
        go_wp2_with fail
        refine (MY.out _).mono ?_
        rintro e w1 ⟨rfl, hb1⟩
        have HB1 := Lib.hid (Below.thn HBR.out HBR.out.size (Below.thn (below1 wr _) (by simp) (hb1.mono (by simp))))
        clear hb1
        go_wp2_with fail
        go_ret
        exact ⟨by rw [R.out]; rfl, HB1.out⟩
      | true =>
        obtain ⟨kn, hkn, hk1, hk14⟩ := mayB_k hm
        obtain ⟨tk, tn, ts⟩ := x
        simp only at x1 x2 x3 MY SN hkn
        subst hkn
        rw [hm] at MY SN
        have hi0 : (0 : Int) ≤ (kn : Int) := by omega
        have hi1 : (kn : Int) < 15 := by omega
        have hkn15 : kn < 15 := by omega
        clear hm
        obtain ⟨tk, htk0⟩ : ∃ tk, takesN (kn : Int) = tk := ⟨_, rfl⟩
        have ht2 := takes_le (kn : Int)
        rw [htk0] at SN ht2
        have HTK := Lib.hid htk0
        clear htk0
        by_cases htk : tk ≤ n
        · have R := Lib.hid (show checkF 0 (T.take (k + 1)) = some (n + 1 - tk) by rw [SN.out, if_pos ⟨rfl, htk⟩])
          have htk' : ¬ ((n : Int) < (tk : Int)) := by omega
          clear SN
          go_wp2_with fail
          refine (MY.out _).mono ?_
          rintro e w1 ⟨rfl, hb1⟩
          have hB1 := Below.thn HBR.out HBR.out.size (Below.thn (below1 wr _) (by simp) (hb1.mono (by simp)))
          have HB1 := Lib.hid hB1
          obtain ⟨o0, -, -⟩ := GD.out w1 hB1 kn hkn15
          rw [HTK.out] at o0
          have n1 := (hb1.block wr.heap.size (by simp)).trans (heap_alloc_new wr _)
          obtain ⟨t0, t1, t2⟩ := val_cells n1
          clear hb1 hB1
          go_wp2_with fail
          go_roundw
          case rel => exact ⟨k + 1, n + 1 - tk, by omega, by rfl, by simp; omega, R, HB1.out⟩
          case measure => simp [intOf]; omega
        · have R := Lib.hid (R90.out (by rw [SN.out, if_neg (by omega)]))
          have htk' : (n : Int) < (tk : Int) := by omega
          clear SN
          go_wp2_with fail
          refine (MY.out _).mono ?_
          rintro e w1 ⟨rfl, hb1⟩
          have hB1 := Below.thn HBR.out HBR.out.size (Below.thn (below1 wr _) (by simp) (hb1.mono (by simp)))
          have HB1 := Lib.hid hB1
          obtain ⟨o0, -, -⟩ := GD.out w1 hB1 kn hkn15
          rw [HTK.out] at o0
          have n1 := (hb1.block wr.heap.size (by simp)).trans (heap_alloc_new wr _)
          obtain ⟨t0, t1, t2⟩ := val_cells n1
          clear hb1 hB1
          go_wp2_with fail
          go_ret
          exact ⟨by rw [R.out]; rfl, HB1.out⟩
    · have hkl : k = T.length := by omega
      subst hkl
      rw [List.take_length] at hst
      by_cases hn1 : n = 1
      · subst hn1
        by_cases hL : T.length ≤ 256
        · have R := Lib.hid (show checkT T = 0 by unfold checkT; rw [if_pos hst.out, if_pos hL])
          have hL' : ¬ ((256 : Int) < (T.length : Int)) := by omega
          clear hst
          go_wp2_with fail
          go_ret
          exact ⟨by rw [R.out]; rfl, hbr⟩
        · have R := Lib.hid (show checkT T = 93 by unfold checkT; rw [if_pos hst.out, if_neg hL])
          have hL' : (256 : Int) < (T.length : Int) := by omega
          clear hst
          go_wp2_with fail
          go_ret
          exact ⟨by rw [R.out]; rfl, hbr⟩
      · have R := Lib.hid (show checkT T = 90 by unfold checkT; rw [hst.out, if_neg (by simpa using hn1)])
        have hn1' : ¬ ((n : Int) = 1) := by omega
        clear hst
        go_wp2_with fail
        go_ret
        exact ⟨by rw [R.out]; rfl, hbr⟩
end Go.Proofs.YtdkflmpdelfgoaaGreatDoor
