/-
  The document's Print: what each call returns; LexPrints. Conditions: what the variables of the library hold (Good), at most 700 tokens of texts of at most 1048576 bytes.
-/
import Derived.Test.YtjmdcimfmmfinaaDoorLexTextsW
namespace Go.Proofs.YtjmdcimfmmfinaaDoor
open Go.RowKit Go.Shelf
set_option linter.unusedVariables false
set_option linter.unusedSimpArgs false
attribute [local go_sem] Oper.semAt_some

theorem printF_app : ∀ (A B : List Tok) (q : Option Tok), printF q (A ++ B) = printF q A ++ printF (A.getLast?.or q) B
  | [], B, q => by cases q <;> simp [printF]
  | a :: A, B, q => by
    have ih := printF_app A B (some a)
    rw [List.cons_append, printF, ih, printF]
    have e : ((a :: A).getLast?.or q) = A.getLast?.or (some a) := by
      cases A with
      | nil => rfl
      | cons b A =>
        rw [List.getLast?_cons_cons]
        cases h : (b :: A).getLast? with
        | none => simp at h
        | some y => rfl
    rw [e]
    simp only [List.append_assoc]
theorem print_mono (T : List Tok) (k : Nat) : (printF none (T.take k)).length ≤ (printF none T).length := by
  have h := printF_app (T.take k) (T.drop k) none
  rw [List.take_append_drop] at h
  rw [h, List.length_append]; omega
theorem parted_I (a b : Tok) : partedP a b = (wordyI a.k && wordyI b.k || slashI a.k a.t && slashI b.k b.t) := rfl
theorem size_add (a b : ByteArray) : (a ++ b).size = a.size + b.size := by simp [ByteArray.size_append]
theorem list_add (a b : ByteArray) : (a ++ b).data.toList = a.data.toList ++ b.data.toList := by simp [ByteArray.data_append]
theorem ways (wa wb sa sb : Bool) : (wa = true ∧ wb = true) ∨ (wa = true ∧ wb = false ∧ sa = true ∧ sb = true) ∨ (wa = true ∧ wb = false ∧ sa = true ∧ sb = false) ∨ (wa = true ∧ wb = false ∧ sa = false) ∨ (wa = false ∧ sa = true ∧ sb = true) ∨ (wa = false ∧ sa = true ∧ sb = false) ∨ (wa = false ∧ sa = false) := by
  cases wa <;> cases wb <;> cases sa <;> cases sb <;> simp
theorem keep4' {W W' : World} (hb : Below W.heap.size W W') {a1 a2 a3 a4 : Addr} {v1 v2 v3 v4 : Value} (h1 : W.cell? a1 = some v1) (h2 : W.cell? a2 = some v2) (h3 : W.cell? a3 = some v3) (h4 : W.cell? a4 = some v4) : W'.cell? a1 = some v1 ∧ W'.cell? a2 = some v2 ∧ W'.cell? a3 = some v3 ∧ W'.cell? a4 = some v4 :=
  ⟨cell_kept hb h1, cell_kept hb h2, cell_kept hb h3, cell_kept hb h4⟩

set_option maxRecDepth 100000 in
set_option maxHeartbeats 40000000 in
theorem rprint_any (v : Value) (T : List Tok) (w : World) (hT : TokO w v T) (hl : T.length ≤ 700) (hx0 : ∀ x ∈ T, x.t.length ≤ 1048576 ∧ x.n < 18446744073709551616) :
    Calls Tryd.prog 28 #[v] w fun e w' => e = .returned (PrintV T) ∧ Below w.heap.size w w' := by
  have HT := Lib.hid hT
  have LN := toko_len hT
  have HX0 := Lib.hid hx0
  clear hT hx0
  go_enter Tryd.func28, Tryd.ntmps28
  go_wp2_with fail
  go_loopw [5] (fun iv wr => ∃ k : Nat, k ≤ T.length ∧ iv = .int .i64 (k : Int) ∧ Hid ((T.take k).all chkT = true) ∧ Below w.heap.size w wr) (fun iv _ => T.length - (intOf iv).toNat)
  case atStart => exact ⟨0, Nat.zero_le _, rfl, Lib.hid rfl, Below.refl _ _⟩
  case round =>
    obtain ⟨k, hk, rfl, hall, hbr⟩ := hrel
    by_cases hlt : (k : Int) < (T.length : Int)
    · have hlt' : k < T.length := by omega
      obtain ⟨g, off, cap, x, hx, rfl, x1, x2, x3, x4⟩ := toko_at (HT.out.keep hbr) hlt'
      obtain ⟨h1, h2⟩ := HX0.out x (List.mem_of_getElem? hx)
      obtain ⟨D, hD⟩ : ∃ D, (⟨x.t.toArray⟩ : ByteArray) = D := ⟨_, rfl⟩
      have hDl : D.data.toList = x.t := by rw [← hD]
      have hDs : D.size ≤ 1048576 := by rw [size_list, hDl]; exact h1
      have CK := Lib.hid (fun V => rcheck_any x.k D (x.n : Int) x.p V hDs)
      rw [hDl] at CK
      change Hid (∀ V, Calls _ _ _ _ fun e w' => e = .returned (.int .i64 (errC (chkT x))) ∧ _) at CK
      rw [hD] at x2
      have w9 : IntKind.i64.wrap ((k : Int) + 1) = ((k + 1 : Nat) : Int) := by rw [IntWalk.i64_in _ (by omega)]; omega
      have HX := Lib.hid hx
      have HBR := Lib.hid hbr
      clear hD hDl hbr hx
      cases hc : chkT x with
      | false =>
        rw [hc] at CK
        have R := Lib.hid (show PrintV T = .tuple #[.string ⟨#[]⟩, .int .i64 1] by
          unfold PrintV
          rw [if_neg]
          intro h
          have := List.all_eq_true.1 h x (List.mem_of_getElem? HX.out)
          rw [hc] at this; cases this)
        clear hc
        rw [show errC false = 1 from rfl] at CK
        obtain ⟨kk, tt, nn, pp⟩ := x
        simp only at x1 x2 x3 x4 CK
        go_wp2_with fail
        refine (CK.out _).mono ?_
        rintro e w5 ⟨rfl, hb5⟩
        have HB5 := Lib.hid (Below.thn HBR.out HBR.out.size hb5)
        clear hb5
        go_wp2_with fail
        go_ret2
        exact ⟨by rw [R.out]; rfl, HB5.out⟩
      | true =>
        rw [hc] at CK
        have HALL := Lib.hid (show (T.take (k + 1)).all chkT = true by
          rw [List.take_add_one, HX.out, List.all_append, hall.out]; simp [hc])
        clear hc
        rw [show errC true = 0 from rfl] at CK
        obtain ⟨kk, tt, nn, pp⟩ := x
        simp only at x1 x2 x3 x4 CK
        go_wp2_with fail
        refine (CK.out _).mono ?_
        rintro e w5 ⟨rfl, hb5⟩
        have HB5 := Lib.hid (Below.thn HBR.out HBR.out.size hb5)
        clear hb5
        go_wp2_with fail
        go_roundw
        case rel => exact ⟨k + 1, by omega, by first | rfl | rw [← w9], HALL, HB5.out⟩
        case measure => simp [intOf]; omega
    · have hkl : k = T.length := by omega
      subst hkl
      rw [List.take_length] at hall
      have hT0 : (T.length : Int) ≤ (T.length : Int) := Int.le_refl _
      have HBR := Lib.hid hbr
      have HALL := Lib.hid hall.out
      have HZR := Lib.hid hbr.size
      clear hbr hall hlt
      go_wp2_with fail
      go_loopw [4, 6] (fun sv iv wr2 => ∃ (k : Nat) (S : ByteArray), k ≤ T.length ∧ iv = .int .i64 (k : Int) ∧ sv = .string S ∧ Hid (S.data.toList = printF none (T.take k)) ∧ S.size ≤ 512 ∧ Below w.heap.size w wr2) (fun _ iv _ => T.length - (intOf iv).toNat)
      case atStart => exact ⟨0, ⟨#[]⟩, Nat.zero_le _, rfl, rfl, Lib.hid (by simp [printF]), by decide, HBR.out⟩
      case round =>
        obtain ⟨k, S, hk, rfl, rfl, hS, hS5, hb0⟩ := hrel
        by_cases hlt : (k : Int) < (T.length : Int)
        · have hlt' : k < T.length := by omega
          obtain ⟨g, off, cap, x, hx, rfl, x1, x2, x3, x4⟩ := toko_at (HT.out.keep hb0) hlt'
          obtain ⟨h1, h2⟩ := HX0.out x (List.mem_of_getElem? hx)
          obtain ⟨D, hD⟩ : ∃ D, (⟨x.t.toArray⟩ : ByteArray) = D := ⟨_, rfl⟩
          have hDl : D.data.toList = x.t := by rw [← hD]
          have hDs : D.size ≤ 1048576 := by rw [size_list, hDl]; exact h1
          rw [hD] at x2
          have w9 : IntKind.i64.wrap ((k : Int) + 1) = ((k + 1 : Nat) : Int) := by rw [IntWalk.i64_in _ (by omega)]; omega
          have hcx : chkT x = true := List.all_eq_true.1 HALL.out x (List.mem_of_getElem? hx)
          have hTX : textO x.k x.t x.n x.p = textB x := by
            unfold textO
            rw [if_pos (show checkB x.k x.t (x.n : Int) x.p = true from hcx)]
          have TX := Lib.hid (fun V => rtext_any x.k D x.n x.p V hDs h2)
          rw [hDl, hTX] at TX
          have hTL := text_le x h2
          obtain ⟨Z, hZ⟩ : ∃ Z, (⟨(textB x).toArray⟩ : ByteArray) = Z := ⟨_, rfl⟩
          rw [hZ] at TX
          have hZl : Z.data.toList = textB x := by rw [← hZ]
          have hZs : Z.size ≤ 4194326 := by rw [size_list, hZl]; omega
          have WX := Lib.hid (fun V => rwordy_any x.k D (x.n : Int) x.p V)
          have SX := Lib.hid (fun V => rslash_any x.k D (x.n : Int) x.p V)
          rw [hDl] at SX
          have HX := Lib.hid hx
          have HZl := Lib.hid hZl
          have HB := Lib.hid hb0
          have hR3 : 512 < (printF none (T.take (k + 1))).length → PrintV T = .tuple #[.string ⟨#[]⟩, .int .i64 3] := fun h => by
            unfold PrintV
            rw [if_pos HALL.out, if_neg (by have := print_mono T (k + 1); omega)]
          have HR3 := Lib.hid hR3
          clear hD hDl hb0 hx hcx hTX hTL hZ hZl hR3
          cases k with
          | zero =>
            have HPR := Lib.hid (print_zero HX.out)
            obtain ⟨kk, tt, nn, pp⟩ := x
            simp only [Nat.zero_mul, Nat.add_zero] at x1 x2 x3 x4
            simp only at TX HPR HZl
            have hc1 : ¬ (9223372036854775807 < S.size + Z.size) := by omega
            by_cases h5 : S.size + Z.size ≤ 512
            · have h5' : ((S.size : Int) + (Z.size : Int)) ≤ 512 := by omega
              go_wp2_with (first | (go_at_call 21; refine (TX.out _).mono ?_; rintro e w8 ⟨rfl, hb8⟩; have HB8 := Lib.hid (Below.thn HB.out HB.out.size hb8); clear hb8))
              go_roundw
              case rel => exact ⟨1, S ++ Z, by omega, by first | rfl | rw [← w9], rfl, Lib.hid (by rw [list_add, hS.out, HZl.out]; exact HPR.out.symm), by rw [size_add]; exact h5, HB8.out⟩
              case measure => simp [intOf]; omega
            · have h5' : (512 : Int) < ((S.size : Int) + (Z.size : Int)) := by omega
              have R := Lib.hid (HR3.out (by rw [HPR.out, List.length_append, ← hS.out, ← HZl.out, ← size_list, ← size_list]; omega))
              go_wp2_with (first | (go_at_call 21; refine (TX.out _).mono ?_; rintro e w8 ⟨rfl, hb8⟩; have HB8 := Lib.hid (Below.thn HB.out HB.out.size hb8); clear hb8))
              go_ret2
              exact ⟨by rw [R.out]; rfl, HB8.out⟩
          | succ m =>
            obtain ⟨g', off', cap', y, hy, hv, y1, y2, y3, y4⟩ := toko_at (HT.out.keep HB.out) (k := m) (by omega)
            cases hv
            obtain ⟨E, hE⟩ : ∃ E, (⟨y.t.toArray⟩ : ByteArray) = E := ⟨_, rfl⟩
            have hEl : E.data.toList = y.t := by rw [← hE]
            rw [hE] at y2
            have WY := Lib.hid (fun V => rwordy_any y.k E (y.n : Int) y.p V)
            have SY := Lib.hid (fun V => rslash_any y.k E (y.n : Int) y.p V)
            rw [hEl] at SY
            have HPR := Lib.hid (print_succ hy HX.out)
            have HG := Lib.hid (show gapB (some y) x = bool_gap (wordyI y.k && wordyI x.k || slashI y.k y.t && slashI x.k x.t) from rfl)
            obtain ⟨yk, yt, yn, yp⟩ := y
            obtain ⟨kk, tt, nn, pp⟩ := x
            simp only at x1 x2 x3 x4 y1 y2 y3 y4 TX WX SX WY SY HPR HZl HG
            have wm2 : IntKind.i64.wrap (m : Int) = (m : Int) := IntWalk.i64_in _ (by omega)
            have wm3 : IntKind.i64.wrap ((m : Int) + 1 - 1) = (m : Int) := by rw [IntWalk.i64_in _ (by omega)]; omega
            have hm00 : (0 : Int) ≤ (m : Int) := by omega
            have hm0 : (0 : Int) < ((m + 1 : Nat) : Int) := by omega
            have hml : (m : Int) < (T.length : Int) := by omega
            generalize wordyI yk = wa at *
            generalize wordyI kk = wb at *
            generalize slashI yk yt = sa at *
            generalize slashI kk tt = sb at *
            clear hE hEl hy
            rcases ways wa wb sa sb with ⟨rfl, rfl⟩ | ⟨rfl, rfl, rfl, rfl⟩ | ⟨rfl, rfl, rfl, rfl⟩ | ⟨rfl, rfl, rfl⟩ | ⟨rfl, rfl, rfl⟩ | ⟨rfl, rfl, rfl⟩ | ⟨rfl, rfl⟩
            · have hg : gapB (some ⟨yk, yt, yn, yp⟩) ⟨kk, tt, nn, pp⟩ = [32] := by rw [HG.out]; rfl
              have HP2 := Lib.hid (show printF none (T.take (m + 1 + 1)) = printF none (T.take (m + 1)) ++ ([32] ++ textB ⟨kk, tt, nn, pp⟩) by rw [HPR.out, hg])
              have hc0 : ¬ (9223372036854775807 < S.size + 1) := by omega
              have hc1 : ¬ (9223372036854775807 < S.size + 1 + Z.size) := by omega
              clear hg HG
              by_cases h5 : S.size + 1 + Z.size ≤ 512
              · have h5' : (S.size : Int) + 1 + (Z.size : Int) ≤ 512 := by omega
                go_wp2_with (first | (go_at_call_of 51 (Value.string E); refine (WY.out _).mono ?_; rintro e w8 ⟨rfl, hb8⟩; have HBo := HB; have HB := Lib.hid (Below.thn HBo.out HBo.out.size hb8); obtain ⟨x1, x2, x3, x4⟩ := keep4' hb8 x1 x2 x3 x4; obtain ⟨y1, y2, y3, y4⟩ := keep4' hb8 y1 y2 y3 y4; clear hb8) | (go_at_call_of 51 (Value.string D); refine (WX.out _).mono ?_; rintro e w8 ⟨rfl, hb8⟩; have HBo := HB; have HB := Lib.hid (Below.thn HBo.out HBo.out.size hb8); obtain ⟨x1, x2, x3, x4⟩ := keep4' hb8 x1 x2 x3 x4; obtain ⟨y1, y2, y3, y4⟩ := keep4' hb8 y1 y2 y3 y4; clear hb8) | (go_at_call_of 52 (Value.string E); refine (SY.out _).mono ?_; rintro e w8 ⟨rfl, hb8⟩; have HBo := HB; have HB := Lib.hid (Below.thn HBo.out HBo.out.size hb8); obtain ⟨x1, x2, x3, x4⟩ := keep4' hb8 x1 x2 x3 x4; obtain ⟨y1, y2, y3, y4⟩ := keep4' hb8 y1 y2 y3 y4; clear hb8) | (go_at_call_of 52 (Value.string D); refine (SX.out _).mono ?_; rintro e w8 ⟨rfl, hb8⟩; have HBo := HB; have HB := Lib.hid (Below.thn HBo.out HBo.out.size hb8); obtain ⟨x1, x2, x3, x4⟩ := keep4' hb8 x1 x2 x3 x4; obtain ⟨y1, y2, y3, y4⟩ := keep4' hb8 y1 y2 y3 y4; clear hb8) | (go_at_call 21; refine (TX.out _).mono ?_; rintro e w8 ⟨rfl, hb8⟩; have HB8 := Lib.hid (Below.thn HB.out HB.out.size hb8); clear hb8))
                go_roundw
                case rel => exact ⟨m + 1 + 1, S ++ ⟨#[32]⟩ ++ Z, by omega, by first | rfl | rw [← w9], rfl, Lib.hid (by rw [HP2.out, list_add, list_add, HZl.out, hS.out]; simp), by simp only [size_add]; exact h5, HB8.out⟩
                case measure => simp [intOf]; omega
              · have h5' : (512 : Int) < (S.size : Int) + 1 + (Z.size : Int) := by omega
                have R := Lib.hid (HR3.out (by rw [HP2.out, List.length_append, List.length_append, ← hS.out, ← HZl.out, ← size_list, ← size_list]; simp only [List.length_cons, List.length_nil]; omega))
                go_wp2_with (first | (go_at_call_of 51 (Value.string E); refine (WY.out _).mono ?_; rintro e w8 ⟨rfl, hb8⟩; have HBo := HB; have HB := Lib.hid (Below.thn HBo.out HBo.out.size hb8); obtain ⟨x1, x2, x3, x4⟩ := keep4' hb8 x1 x2 x3 x4; obtain ⟨y1, y2, y3, y4⟩ := keep4' hb8 y1 y2 y3 y4; clear hb8) | (go_at_call_of 51 (Value.string D); refine (WX.out _).mono ?_; rintro e w8 ⟨rfl, hb8⟩; have HBo := HB; have HB := Lib.hid (Below.thn HBo.out HBo.out.size hb8); obtain ⟨x1, x2, x3, x4⟩ := keep4' hb8 x1 x2 x3 x4; obtain ⟨y1, y2, y3, y4⟩ := keep4' hb8 y1 y2 y3 y4; clear hb8) | (go_at_call_of 52 (Value.string E); refine (SY.out _).mono ?_; rintro e w8 ⟨rfl, hb8⟩; have HBo := HB; have HB := Lib.hid (Below.thn HBo.out HBo.out.size hb8); obtain ⟨x1, x2, x3, x4⟩ := keep4' hb8 x1 x2 x3 x4; obtain ⟨y1, y2, y3, y4⟩ := keep4' hb8 y1 y2 y3 y4; clear hb8) | (go_at_call_of 52 (Value.string D); refine (SX.out _).mono ?_; rintro e w8 ⟨rfl, hb8⟩; have HBo := HB; have HB := Lib.hid (Below.thn HBo.out HBo.out.size hb8); obtain ⟨x1, x2, x3, x4⟩ := keep4' hb8 x1 x2 x3 x4; obtain ⟨y1, y2, y3, y4⟩ := keep4' hb8 y1 y2 y3 y4; clear hb8) | (go_at_call 21; refine (TX.out _).mono ?_; rintro e w8 ⟨rfl, hb8⟩; have HB8 := Lib.hid (Below.thn HB.out HB.out.size hb8); clear hb8))
                go_ret2
                exact ⟨by rw [R.out]; rfl, HB8.out⟩
            · have hg : gapB (some ⟨yk, yt, yn, yp⟩) ⟨kk, tt, nn, pp⟩ = [32] := by rw [HG.out]; rfl
              have HP2 := Lib.hid (show printF none (T.take (m + 1 + 1)) = printF none (T.take (m + 1)) ++ ([32] ++ textB ⟨kk, tt, nn, pp⟩) by rw [HPR.out, hg])
              have hc0 : ¬ (9223372036854775807 < S.size + 1) := by omega
              have hc1 : ¬ (9223372036854775807 < S.size + 1 + Z.size) := by omega
              clear hg HG
              by_cases h5 : S.size + 1 + Z.size ≤ 512
              · have h5' : (S.size : Int) + 1 + (Z.size : Int) ≤ 512 := by omega
                go_wp2_with (first | (go_at_call_of 51 (Value.string E); refine (WY.out _).mono ?_; rintro e w8 ⟨rfl, hb8⟩; have HBo := HB; have HB := Lib.hid (Below.thn HBo.out HBo.out.size hb8); obtain ⟨x1, x2, x3, x4⟩ := keep4' hb8 x1 x2 x3 x4; obtain ⟨y1, y2, y3, y4⟩ := keep4' hb8 y1 y2 y3 y4; clear hb8) | (go_at_call_of 51 (Value.string D); refine (WX.out _).mono ?_; rintro e w8 ⟨rfl, hb8⟩; have HBo := HB; have HB := Lib.hid (Below.thn HBo.out HBo.out.size hb8); obtain ⟨x1, x2, x3, x4⟩ := keep4' hb8 x1 x2 x3 x4; obtain ⟨y1, y2, y3, y4⟩ := keep4' hb8 y1 y2 y3 y4; clear hb8) | (go_at_call_of 52 (Value.string E); refine (SY.out _).mono ?_; rintro e w8 ⟨rfl, hb8⟩; have HBo := HB; have HB := Lib.hid (Below.thn HBo.out HBo.out.size hb8); obtain ⟨x1, x2, x3, x4⟩ := keep4' hb8 x1 x2 x3 x4; obtain ⟨y1, y2, y3, y4⟩ := keep4' hb8 y1 y2 y3 y4; clear hb8) | (go_at_call_of 52 (Value.string D); refine (SX.out _).mono ?_; rintro e w8 ⟨rfl, hb8⟩; have HBo := HB; have HB := Lib.hid (Below.thn HBo.out HBo.out.size hb8); obtain ⟨x1, x2, x3, x4⟩ := keep4' hb8 x1 x2 x3 x4; obtain ⟨y1, y2, y3, y4⟩ := keep4' hb8 y1 y2 y3 y4; clear hb8) | (go_at_call 21; refine (TX.out _).mono ?_; rintro e w8 ⟨rfl, hb8⟩; have HB8 := Lib.hid (Below.thn HB.out HB.out.size hb8); clear hb8))
                go_roundw
                case rel => exact ⟨m + 1 + 1, S ++ ⟨#[32]⟩ ++ Z, by omega, by first | rfl | rw [← w9], rfl, Lib.hid (by rw [HP2.out, list_add, list_add, HZl.out, hS.out]; simp), by simp only [size_add]; exact h5, HB8.out⟩
                case measure => simp [intOf]; omega
              · have h5' : (512 : Int) < (S.size : Int) + 1 + (Z.size : Int) := by omega
                have R := Lib.hid (HR3.out (by rw [HP2.out, List.length_append, List.length_append, ← hS.out, ← HZl.out, ← size_list, ← size_list]; simp only [List.length_cons, List.length_nil]; omega))
                go_wp2_with (first | (go_at_call_of 51 (Value.string E); refine (WY.out _).mono ?_; rintro e w8 ⟨rfl, hb8⟩; have HBo := HB; have HB := Lib.hid (Below.thn HBo.out HBo.out.size hb8); obtain ⟨x1, x2, x3, x4⟩ := keep4' hb8 x1 x2 x3 x4; obtain ⟨y1, y2, y3, y4⟩ := keep4' hb8 y1 y2 y3 y4; clear hb8) | (go_at_call_of 51 (Value.string D); refine (WX.out _).mono ?_; rintro e w8 ⟨rfl, hb8⟩; have HBo := HB; have HB := Lib.hid (Below.thn HBo.out HBo.out.size hb8); obtain ⟨x1, x2, x3, x4⟩ := keep4' hb8 x1 x2 x3 x4; obtain ⟨y1, y2, y3, y4⟩ := keep4' hb8 y1 y2 y3 y4; clear hb8) | (go_at_call_of 52 (Value.string E); refine (SY.out _).mono ?_; rintro e w8 ⟨rfl, hb8⟩; have HBo := HB; have HB := Lib.hid (Below.thn HBo.out HBo.out.size hb8); obtain ⟨x1, x2, x3, x4⟩ := keep4' hb8 x1 x2 x3 x4; obtain ⟨y1, y2, y3, y4⟩ := keep4' hb8 y1 y2 y3 y4; clear hb8) | (go_at_call_of 52 (Value.string D); refine (SX.out _).mono ?_; rintro e w8 ⟨rfl, hb8⟩; have HBo := HB; have HB := Lib.hid (Below.thn HBo.out HBo.out.size hb8); obtain ⟨x1, x2, x3, x4⟩ := keep4' hb8 x1 x2 x3 x4; obtain ⟨y1, y2, y3, y4⟩ := keep4' hb8 y1 y2 y3 y4; clear hb8) | (go_at_call 21; refine (TX.out _).mono ?_; rintro e w8 ⟨rfl, hb8⟩; have HB8 := Lib.hid (Below.thn HB.out HB.out.size hb8); clear hb8))
                go_ret2
                exact ⟨by rw [R.out]; rfl, HB8.out⟩
            · have hg : gapB (some ⟨yk, yt, yn, yp⟩) ⟨kk, tt, nn, pp⟩ = ([] : Bs) := by rw [HG.out]; rfl
              have HP2 := Lib.hid (show printF none (T.take (m + 1 + 1)) = printF none (T.take (m + 1)) ++ (([] : Bs) ++ textB ⟨kk, tt, nn, pp⟩) by rw [HPR.out, hg])
              have hc0 : ¬ (9223372036854775807 < S.size + 1) := by omega
              have hc1 : ¬ (9223372036854775807 < S.size + Z.size) := by omega
              clear hg HG
              by_cases h5 : S.size + Z.size ≤ 512
              · have h5' : (S.size : Int) + (Z.size : Int) ≤ 512 := by omega
                go_wp2_with (first | (go_at_call_of 51 (Value.string E); refine (WY.out _).mono ?_; rintro e w8 ⟨rfl, hb8⟩; have HBo := HB; have HB := Lib.hid (Below.thn HBo.out HBo.out.size hb8); obtain ⟨x1, x2, x3, x4⟩ := keep4' hb8 x1 x2 x3 x4; obtain ⟨y1, y2, y3, y4⟩ := keep4' hb8 y1 y2 y3 y4; clear hb8) | (go_at_call_of 51 (Value.string D); refine (WX.out _).mono ?_; rintro e w8 ⟨rfl, hb8⟩; have HBo := HB; have HB := Lib.hid (Below.thn HBo.out HBo.out.size hb8); obtain ⟨x1, x2, x3, x4⟩ := keep4' hb8 x1 x2 x3 x4; obtain ⟨y1, y2, y3, y4⟩ := keep4' hb8 y1 y2 y3 y4; clear hb8) | (go_at_call_of 52 (Value.string E); refine (SY.out _).mono ?_; rintro e w8 ⟨rfl, hb8⟩; have HBo := HB; have HB := Lib.hid (Below.thn HBo.out HBo.out.size hb8); obtain ⟨x1, x2, x3, x4⟩ := keep4' hb8 x1 x2 x3 x4; obtain ⟨y1, y2, y3, y4⟩ := keep4' hb8 y1 y2 y3 y4; clear hb8) | (go_at_call_of 52 (Value.string D); refine (SX.out _).mono ?_; rintro e w8 ⟨rfl, hb8⟩; have HBo := HB; have HB := Lib.hid (Below.thn HBo.out HBo.out.size hb8); obtain ⟨x1, x2, x3, x4⟩ := keep4' hb8 x1 x2 x3 x4; obtain ⟨y1, y2, y3, y4⟩ := keep4' hb8 y1 y2 y3 y4; clear hb8) | (go_at_call 21; refine (TX.out _).mono ?_; rintro e w8 ⟨rfl, hb8⟩; have HB8 := Lib.hid (Below.thn HB.out HB.out.size hb8); clear hb8))
                go_roundw
                case rel => exact ⟨m + 1 + 1, S ++ Z, by omega, by first | rfl | rw [← w9], rfl, Lib.hid (by rw [HP2.out, list_add, HZl.out, hS.out]; simp), by simp only [size_add]; exact h5, HB8.out⟩
                case measure => simp [intOf]; omega
              · have h5' : (512 : Int) < (S.size : Int) + (Z.size : Int) := by omega
                have R := Lib.hid (HR3.out (by rw [HP2.out, List.length_append, List.length_append, ← hS.out, ← HZl.out, ← size_list, ← size_list]; simp only [List.length_cons, List.length_nil]; omega))
                go_wp2_with (first | (go_at_call_of 51 (Value.string E); refine (WY.out _).mono ?_; rintro e w8 ⟨rfl, hb8⟩; have HBo := HB; have HB := Lib.hid (Below.thn HBo.out HBo.out.size hb8); obtain ⟨x1, x2, x3, x4⟩ := keep4' hb8 x1 x2 x3 x4; obtain ⟨y1, y2, y3, y4⟩ := keep4' hb8 y1 y2 y3 y4; clear hb8) | (go_at_call_of 51 (Value.string D); refine (WX.out _).mono ?_; rintro e w8 ⟨rfl, hb8⟩; have HBo := HB; have HB := Lib.hid (Below.thn HBo.out HBo.out.size hb8); obtain ⟨x1, x2, x3, x4⟩ := keep4' hb8 x1 x2 x3 x4; obtain ⟨y1, y2, y3, y4⟩ := keep4' hb8 y1 y2 y3 y4; clear hb8) | (go_at_call_of 52 (Value.string E); refine (SY.out _).mono ?_; rintro e w8 ⟨rfl, hb8⟩; have HBo := HB; have HB := Lib.hid (Below.thn HBo.out HBo.out.size hb8); obtain ⟨x1, x2, x3, x4⟩ := keep4' hb8 x1 x2 x3 x4; obtain ⟨y1, y2, y3, y4⟩ := keep4' hb8 y1 y2 y3 y4; clear hb8) | (go_at_call_of 52 (Value.string D); refine (SX.out _).mono ?_; rintro e w8 ⟨rfl, hb8⟩; have HBo := HB; have HB := Lib.hid (Below.thn HBo.out HBo.out.size hb8); obtain ⟨x1, x2, x3, x4⟩ := keep4' hb8 x1 x2 x3 x4; obtain ⟨y1, y2, y3, y4⟩ := keep4' hb8 y1 y2 y3 y4; clear hb8) | (go_at_call 21; refine (TX.out _).mono ?_; rintro e w8 ⟨rfl, hb8⟩; have HB8 := Lib.hid (Below.thn HB.out HB.out.size hb8); clear hb8))
                go_ret2
                exact ⟨by rw [R.out]; rfl, HB8.out⟩
            · have hg : gapB (some ⟨yk, yt, yn, yp⟩) ⟨kk, tt, nn, pp⟩ = ([] : Bs) := by rw [HG.out]; rfl
              have HP2 := Lib.hid (show printF none (T.take (m + 1 + 1)) = printF none (T.take (m + 1)) ++ (([] : Bs) ++ textB ⟨kk, tt, nn, pp⟩) by rw [HPR.out, hg])
              have hc0 : ¬ (9223372036854775807 < S.size + 1) := by omega
              have hc1 : ¬ (9223372036854775807 < S.size + Z.size) := by omega
              clear hg HG
              by_cases h5 : S.size + Z.size ≤ 512
              · have h5' : (S.size : Int) + (Z.size : Int) ≤ 512 := by omega
                go_wp2_with (first | (go_at_call_of 51 (Value.string E); refine (WY.out _).mono ?_; rintro e w8 ⟨rfl, hb8⟩; have HBo := HB; have HB := Lib.hid (Below.thn HBo.out HBo.out.size hb8); obtain ⟨x1, x2, x3, x4⟩ := keep4' hb8 x1 x2 x3 x4; obtain ⟨y1, y2, y3, y4⟩ := keep4' hb8 y1 y2 y3 y4; clear hb8) | (go_at_call_of 51 (Value.string D); refine (WX.out _).mono ?_; rintro e w8 ⟨rfl, hb8⟩; have HBo := HB; have HB := Lib.hid (Below.thn HBo.out HBo.out.size hb8); obtain ⟨x1, x2, x3, x4⟩ := keep4' hb8 x1 x2 x3 x4; obtain ⟨y1, y2, y3, y4⟩ := keep4' hb8 y1 y2 y3 y4; clear hb8) | (go_at_call_of 52 (Value.string E); refine (SY.out _).mono ?_; rintro e w8 ⟨rfl, hb8⟩; have HBo := HB; have HB := Lib.hid (Below.thn HBo.out HBo.out.size hb8); obtain ⟨x1, x2, x3, x4⟩ := keep4' hb8 x1 x2 x3 x4; obtain ⟨y1, y2, y3, y4⟩ := keep4' hb8 y1 y2 y3 y4; clear hb8) | (go_at_call_of 52 (Value.string D); refine (SX.out _).mono ?_; rintro e w8 ⟨rfl, hb8⟩; have HBo := HB; have HB := Lib.hid (Below.thn HBo.out HBo.out.size hb8); obtain ⟨x1, x2, x3, x4⟩ := keep4' hb8 x1 x2 x3 x4; obtain ⟨y1, y2, y3, y4⟩ := keep4' hb8 y1 y2 y3 y4; clear hb8) | (go_at_call 21; refine (TX.out _).mono ?_; rintro e w8 ⟨rfl, hb8⟩; have HB8 := Lib.hid (Below.thn HB.out HB.out.size hb8); clear hb8))
                go_roundw
                case rel => exact ⟨m + 1 + 1, S ++ Z, by omega, by first | rfl | rw [← w9], rfl, Lib.hid (by rw [HP2.out, list_add, HZl.out, hS.out]; simp), by simp only [size_add]; exact h5, HB8.out⟩
                case measure => simp [intOf]; omega
              · have h5' : (512 : Int) < (S.size : Int) + (Z.size : Int) := by omega
                have R := Lib.hid (HR3.out (by rw [HP2.out, List.length_append, List.length_append, ← hS.out, ← HZl.out, ← size_list, ← size_list]; simp only [List.length_cons, List.length_nil]; omega))
                go_wp2_with (first | (go_at_call_of 51 (Value.string E); refine (WY.out _).mono ?_; rintro e w8 ⟨rfl, hb8⟩; have HBo := HB; have HB := Lib.hid (Below.thn HBo.out HBo.out.size hb8); obtain ⟨x1, x2, x3, x4⟩ := keep4' hb8 x1 x2 x3 x4; obtain ⟨y1, y2, y3, y4⟩ := keep4' hb8 y1 y2 y3 y4; clear hb8) | (go_at_call_of 51 (Value.string D); refine (WX.out _).mono ?_; rintro e w8 ⟨rfl, hb8⟩; have HBo := HB; have HB := Lib.hid (Below.thn HBo.out HBo.out.size hb8); obtain ⟨x1, x2, x3, x4⟩ := keep4' hb8 x1 x2 x3 x4; obtain ⟨y1, y2, y3, y4⟩ := keep4' hb8 y1 y2 y3 y4; clear hb8) | (go_at_call_of 52 (Value.string E); refine (SY.out _).mono ?_; rintro e w8 ⟨rfl, hb8⟩; have HBo := HB; have HB := Lib.hid (Below.thn HBo.out HBo.out.size hb8); obtain ⟨x1, x2, x3, x4⟩ := keep4' hb8 x1 x2 x3 x4; obtain ⟨y1, y2, y3, y4⟩ := keep4' hb8 y1 y2 y3 y4; clear hb8) | (go_at_call_of 52 (Value.string D); refine (SX.out _).mono ?_; rintro e w8 ⟨rfl, hb8⟩; have HBo := HB; have HB := Lib.hid (Below.thn HBo.out HBo.out.size hb8); obtain ⟨x1, x2, x3, x4⟩ := keep4' hb8 x1 x2 x3 x4; obtain ⟨y1, y2, y3, y4⟩ := keep4' hb8 y1 y2 y3 y4; clear hb8) | (go_at_call 21; refine (TX.out _).mono ?_; rintro e w8 ⟨rfl, hb8⟩; have HB8 := Lib.hid (Below.thn HB.out HB.out.size hb8); clear hb8))
                go_ret2
                exact ⟨by rw [R.out]; rfl, HB8.out⟩
            · have hg : gapB (some ⟨yk, yt, yn, yp⟩) ⟨kk, tt, nn, pp⟩ = [32] := by rw [HG.out]; rfl
              have HP2 := Lib.hid (show printF none (T.take (m + 1 + 1)) = printF none (T.take (m + 1)) ++ ([32] ++ textB ⟨kk, tt, nn, pp⟩) by rw [HPR.out, hg])
              have hc0 : ¬ (9223372036854775807 < S.size + 1) := by omega
              have hc1 : ¬ (9223372036854775807 < S.size + 1 + Z.size) := by omega
              clear hg HG
              by_cases h5 : S.size + 1 + Z.size ≤ 512
              · have h5' : (S.size : Int) + 1 + (Z.size : Int) ≤ 512 := by omega
                go_wp2_with (first | (go_at_call_of 51 (Value.string E); refine (WY.out _).mono ?_; rintro e w8 ⟨rfl, hb8⟩; have HBo := HB; have HB := Lib.hid (Below.thn HBo.out HBo.out.size hb8); obtain ⟨x1, x2, x3, x4⟩ := keep4' hb8 x1 x2 x3 x4; obtain ⟨y1, y2, y3, y4⟩ := keep4' hb8 y1 y2 y3 y4; clear hb8) | (go_at_call_of 51 (Value.string D); refine (WX.out _).mono ?_; rintro e w8 ⟨rfl, hb8⟩; have HBo := HB; have HB := Lib.hid (Below.thn HBo.out HBo.out.size hb8); obtain ⟨x1, x2, x3, x4⟩ := keep4' hb8 x1 x2 x3 x4; obtain ⟨y1, y2, y3, y4⟩ := keep4' hb8 y1 y2 y3 y4; clear hb8) | (go_at_call_of 52 (Value.string E); refine (SY.out _).mono ?_; rintro e w8 ⟨rfl, hb8⟩; have HBo := HB; have HB := Lib.hid (Below.thn HBo.out HBo.out.size hb8); obtain ⟨x1, x2, x3, x4⟩ := keep4' hb8 x1 x2 x3 x4; obtain ⟨y1, y2, y3, y4⟩ := keep4' hb8 y1 y2 y3 y4; clear hb8) | (go_at_call_of 52 (Value.string D); refine (SX.out _).mono ?_; rintro e w8 ⟨rfl, hb8⟩; have HBo := HB; have HB := Lib.hid (Below.thn HBo.out HBo.out.size hb8); obtain ⟨x1, x2, x3, x4⟩ := keep4' hb8 x1 x2 x3 x4; obtain ⟨y1, y2, y3, y4⟩ := keep4' hb8 y1 y2 y3 y4; clear hb8) | (go_at_call 21; refine (TX.out _).mono ?_; rintro e w8 ⟨rfl, hb8⟩; have HB8 := Lib.hid (Below.thn HB.out HB.out.size hb8); clear hb8))
                go_roundw
                case rel => exact ⟨m + 1 + 1, S ++ ⟨#[32]⟩ ++ Z, by omega, by first | rfl | rw [← w9], rfl, Lib.hid (by rw [HP2.out, list_add, list_add, HZl.out, hS.out]; simp), by simp only [size_add]; exact h5, HB8.out⟩
                case measure => simp [intOf]; omega
              · have h5' : (512 : Int) < (S.size : Int) + 1 + (Z.size : Int) := by omega
                have R := Lib.hid (HR3.out (by rw [HP2.out, List.length_append, List.length_append, ← hS.out, ← HZl.out, ← size_list, ← size_list]; simp only [List.length_cons, List.length_nil]; omega))
                go_wp2_with (first | (go_at_call_of 51 (Value.string E); refine (WY.out _).mono ?_; rintro e w8 ⟨rfl, hb8⟩; have HBo := HB; have HB := Lib.hid (Below.thn HBo.out HBo.out.size hb8); obtain ⟨x1, x2, x3, x4⟩ := keep4' hb8 x1 x2 x3 x4; obtain ⟨y1, y2, y3, y4⟩ := keep4' hb8 y1 y2 y3 y4; clear hb8) | (go_at_call_of 51 (Value.string D); refine (WX.out _).mono ?_; rintro e w8 ⟨rfl, hb8⟩; have HBo := HB; have HB := Lib.hid (Below.thn HBo.out HBo.out.size hb8); obtain ⟨x1, x2, x3, x4⟩ := keep4' hb8 x1 x2 x3 x4; obtain ⟨y1, y2, y3, y4⟩ := keep4' hb8 y1 y2 y3 y4; clear hb8) | (go_at_call_of 52 (Value.string E); refine (SY.out _).mono ?_; rintro e w8 ⟨rfl, hb8⟩; have HBo := HB; have HB := Lib.hid (Below.thn HBo.out HBo.out.size hb8); obtain ⟨x1, x2, x3, x4⟩ := keep4' hb8 x1 x2 x3 x4; obtain ⟨y1, y2, y3, y4⟩ := keep4' hb8 y1 y2 y3 y4; clear hb8) | (go_at_call_of 52 (Value.string D); refine (SX.out _).mono ?_; rintro e w8 ⟨rfl, hb8⟩; have HBo := HB; have HB := Lib.hid (Below.thn HBo.out HBo.out.size hb8); obtain ⟨x1, x2, x3, x4⟩ := keep4' hb8 x1 x2 x3 x4; obtain ⟨y1, y2, y3, y4⟩ := keep4' hb8 y1 y2 y3 y4; clear hb8) | (go_at_call 21; refine (TX.out _).mono ?_; rintro e w8 ⟨rfl, hb8⟩; have HB8 := Lib.hid (Below.thn HB.out HB.out.size hb8); clear hb8))
                go_ret2
                exact ⟨by rw [R.out]; rfl, HB8.out⟩
            · have hg : gapB (some ⟨yk, yt, yn, yp⟩) ⟨kk, tt, nn, pp⟩ = ([] : Bs) := by rw [HG.out]; rfl
              have HP2 := Lib.hid (show printF none (T.take (m + 1 + 1)) = printF none (T.take (m + 1)) ++ (([] : Bs) ++ textB ⟨kk, tt, nn, pp⟩) by rw [HPR.out, hg])
              have hc0 : ¬ (9223372036854775807 < S.size + 1) := by omega
              have hc1 : ¬ (9223372036854775807 < S.size + Z.size) := by omega
              clear hg HG
              by_cases h5 : S.size + Z.size ≤ 512
              · have h5' : (S.size : Int) + (Z.size : Int) ≤ 512 := by omega
                go_wp2_with (first | (go_at_call_of 51 (Value.string E); refine (WY.out _).mono ?_; rintro e w8 ⟨rfl, hb8⟩; have HBo := HB; have HB := Lib.hid (Below.thn HBo.out HBo.out.size hb8); obtain ⟨x1, x2, x3, x4⟩ := keep4' hb8 x1 x2 x3 x4; obtain ⟨y1, y2, y3, y4⟩ := keep4' hb8 y1 y2 y3 y4; clear hb8) | (go_at_call_of 51 (Value.string D); refine (WX.out _).mono ?_; rintro e w8 ⟨rfl, hb8⟩; have HBo := HB; have HB := Lib.hid (Below.thn HBo.out HBo.out.size hb8); obtain ⟨x1, x2, x3, x4⟩ := keep4' hb8 x1 x2 x3 x4; obtain ⟨y1, y2, y3, y4⟩ := keep4' hb8 y1 y2 y3 y4; clear hb8) | (go_at_call_of 52 (Value.string E); refine (SY.out _).mono ?_; rintro e w8 ⟨rfl, hb8⟩; have HBo := HB; have HB := Lib.hid (Below.thn HBo.out HBo.out.size hb8); obtain ⟨x1, x2, x3, x4⟩ := keep4' hb8 x1 x2 x3 x4; obtain ⟨y1, y2, y3, y4⟩ := keep4' hb8 y1 y2 y3 y4; clear hb8) | (go_at_call_of 52 (Value.string D); refine (SX.out _).mono ?_; rintro e w8 ⟨rfl, hb8⟩; have HBo := HB; have HB := Lib.hid (Below.thn HBo.out HBo.out.size hb8); obtain ⟨x1, x2, x3, x4⟩ := keep4' hb8 x1 x2 x3 x4; obtain ⟨y1, y2, y3, y4⟩ := keep4' hb8 y1 y2 y3 y4; clear hb8) | (go_at_call 21; refine (TX.out _).mono ?_; rintro e w8 ⟨rfl, hb8⟩; have HB8 := Lib.hid (Below.thn HB.out HB.out.size hb8); clear hb8))
                go_roundw
                case rel => exact ⟨m + 1 + 1, S ++ Z, by omega, by first | rfl | rw [← w9], rfl, Lib.hid (by rw [HP2.out, list_add, HZl.out, hS.out]; simp), by simp only [size_add]; exact h5, HB8.out⟩
                case measure => simp [intOf]; omega
              · have h5' : (512 : Int) < (S.size : Int) + (Z.size : Int) := by omega
                have R := Lib.hid (HR3.out (by rw [HP2.out, List.length_append, List.length_append, ← hS.out, ← HZl.out, ← size_list, ← size_list]; simp only [List.length_cons, List.length_nil]; omega))
                go_wp2_with (first | (go_at_call_of 51 (Value.string E); refine (WY.out _).mono ?_; rintro e w8 ⟨rfl, hb8⟩; have HBo := HB; have HB := Lib.hid (Below.thn HBo.out HBo.out.size hb8); obtain ⟨x1, x2, x3, x4⟩ := keep4' hb8 x1 x2 x3 x4; obtain ⟨y1, y2, y3, y4⟩ := keep4' hb8 y1 y2 y3 y4; clear hb8) | (go_at_call_of 51 (Value.string D); refine (WX.out _).mono ?_; rintro e w8 ⟨rfl, hb8⟩; have HBo := HB; have HB := Lib.hid (Below.thn HBo.out HBo.out.size hb8); obtain ⟨x1, x2, x3, x4⟩ := keep4' hb8 x1 x2 x3 x4; obtain ⟨y1, y2, y3, y4⟩ := keep4' hb8 y1 y2 y3 y4; clear hb8) | (go_at_call_of 52 (Value.string E); refine (SY.out _).mono ?_; rintro e w8 ⟨rfl, hb8⟩; have HBo := HB; have HB := Lib.hid (Below.thn HBo.out HBo.out.size hb8); obtain ⟨x1, x2, x3, x4⟩ := keep4' hb8 x1 x2 x3 x4; obtain ⟨y1, y2, y3, y4⟩ := keep4' hb8 y1 y2 y3 y4; clear hb8) | (go_at_call_of 52 (Value.string D); refine (SX.out _).mono ?_; rintro e w8 ⟨rfl, hb8⟩; have HBo := HB; have HB := Lib.hid (Below.thn HBo.out HBo.out.size hb8); obtain ⟨x1, x2, x3, x4⟩ := keep4' hb8 x1 x2 x3 x4; obtain ⟨y1, y2, y3, y4⟩ := keep4' hb8 y1 y2 y3 y4; clear hb8) | (go_at_call 21; refine (TX.out _).mono ?_; rintro e w8 ⟨rfl, hb8⟩; have HB8 := Lib.hid (Below.thn HB.out HB.out.size hb8); clear hb8))
                go_ret2
                exact ⟨by rw [R.out]; rfl, HB8.out⟩
            · have hg : gapB (some ⟨yk, yt, yn, yp⟩) ⟨kk, tt, nn, pp⟩ = ([] : Bs) := by rw [HG.out]; rfl
              have HP2 := Lib.hid (show printF none (T.take (m + 1 + 1)) = printF none (T.take (m + 1)) ++ (([] : Bs) ++ textB ⟨kk, tt, nn, pp⟩) by rw [HPR.out, hg])
              have hc0 : ¬ (9223372036854775807 < S.size + 1) := by omega
              have hc1 : ¬ (9223372036854775807 < S.size + Z.size) := by omega
              clear hg HG
              by_cases h5 : S.size + Z.size ≤ 512
              · have h5' : (S.size : Int) + (Z.size : Int) ≤ 512 := by omega
                go_wp2_with (first | (go_at_call_of 51 (Value.string E); refine (WY.out _).mono ?_; rintro e w8 ⟨rfl, hb8⟩; have HBo := HB; have HB := Lib.hid (Below.thn HBo.out HBo.out.size hb8); obtain ⟨x1, x2, x3, x4⟩ := keep4' hb8 x1 x2 x3 x4; obtain ⟨y1, y2, y3, y4⟩ := keep4' hb8 y1 y2 y3 y4; clear hb8) | (go_at_call_of 51 (Value.string D); refine (WX.out _).mono ?_; rintro e w8 ⟨rfl, hb8⟩; have HBo := HB; have HB := Lib.hid (Below.thn HBo.out HBo.out.size hb8); obtain ⟨x1, x2, x3, x4⟩ := keep4' hb8 x1 x2 x3 x4; obtain ⟨y1, y2, y3, y4⟩ := keep4' hb8 y1 y2 y3 y4; clear hb8) | (go_at_call_of 52 (Value.string E); refine (SY.out _).mono ?_; rintro e w8 ⟨rfl, hb8⟩; have HBo := HB; have HB := Lib.hid (Below.thn HBo.out HBo.out.size hb8); obtain ⟨x1, x2, x3, x4⟩ := keep4' hb8 x1 x2 x3 x4; obtain ⟨y1, y2, y3, y4⟩ := keep4' hb8 y1 y2 y3 y4; clear hb8) | (go_at_call_of 52 (Value.string D); refine (SX.out _).mono ?_; rintro e w8 ⟨rfl, hb8⟩; have HBo := HB; have HB := Lib.hid (Below.thn HBo.out HBo.out.size hb8); obtain ⟨x1, x2, x3, x4⟩ := keep4' hb8 x1 x2 x3 x4; obtain ⟨y1, y2, y3, y4⟩ := keep4' hb8 y1 y2 y3 y4; clear hb8) | (go_at_call 21; refine (TX.out _).mono ?_; rintro e w8 ⟨rfl, hb8⟩; have HB8 := Lib.hid (Below.thn HB.out HB.out.size hb8); clear hb8))
                go_roundw
                case rel => exact ⟨m + 1 + 1, S ++ Z, by omega, by first | rfl | rw [← w9], rfl, Lib.hid (by rw [HP2.out, list_add, HZl.out, hS.out]; simp), by simp only [size_add]; exact h5, HB8.out⟩
                case measure => simp [intOf]; omega
              · have h5' : (512 : Int) < (S.size : Int) + (Z.size : Int) := by omega
                have R := Lib.hid (HR3.out (by rw [HP2.out, List.length_append, List.length_append, ← hS.out, ← HZl.out, ← size_list, ← size_list]; simp only [List.length_cons, List.length_nil]; omega))
                go_wp2_with (first | (go_at_call_of 51 (Value.string E); refine (WY.out _).mono ?_; rintro e w8 ⟨rfl, hb8⟩; have HBo := HB; have HB := Lib.hid (Below.thn HBo.out HBo.out.size hb8); obtain ⟨x1, x2, x3, x4⟩ := keep4' hb8 x1 x2 x3 x4; obtain ⟨y1, y2, y3, y4⟩ := keep4' hb8 y1 y2 y3 y4; clear hb8) | (go_at_call_of 51 (Value.string D); refine (WX.out _).mono ?_; rintro e w8 ⟨rfl, hb8⟩; have HBo := HB; have HB := Lib.hid (Below.thn HBo.out HBo.out.size hb8); obtain ⟨x1, x2, x3, x4⟩ := keep4' hb8 x1 x2 x3 x4; obtain ⟨y1, y2, y3, y4⟩ := keep4' hb8 y1 y2 y3 y4; clear hb8) | (go_at_call_of 52 (Value.string E); refine (SY.out _).mono ?_; rintro e w8 ⟨rfl, hb8⟩; have HBo := HB; have HB := Lib.hid (Below.thn HBo.out HBo.out.size hb8); obtain ⟨x1, x2, x3, x4⟩ := keep4' hb8 x1 x2 x3 x4; obtain ⟨y1, y2, y3, y4⟩ := keep4' hb8 y1 y2 y3 y4; clear hb8) | (go_at_call_of 52 (Value.string D); refine (SX.out _).mono ?_; rintro e w8 ⟨rfl, hb8⟩; have HBo := HB; have HB := Lib.hid (Below.thn HBo.out HBo.out.size hb8); obtain ⟨x1, x2, x3, x4⟩ := keep4' hb8 x1 x2 x3 x4; obtain ⟨y1, y2, y3, y4⟩ := keep4' hb8 y1 y2 y3 y4; clear hb8) | (go_at_call 21; refine (TX.out _).mono ?_; rintro e w8 ⟨rfl, hb8⟩; have HB8 := Lib.hid (Below.thn HB.out HB.out.size hb8); clear hb8))
                go_ret2
                exact ⟨by rw [R.out]; rfl, HB8.out⟩
        · have hkl : k = T.length := by omega
          subst hkl
          rw [List.take_length] at hS
          have hSl := hS.out
          have R := Lib.hid (show PrintV T = .tuple #[.string S, .int .i64 0] by
            unfold PrintV
            rw [if_pos HALL.out, ← hSl, if_pos (by rw [← size_list]; exact hS5)])
          have HB := Lib.hid hb0
          clear hb0 hlt hSl
          have hle : (T.length : Int) ≤ (T.length : Int) := Int.le_refl _
          go_wp2_with fail
          go_ret2
          exact ⟨by rw [R.out]; rfl, HB.out⟩

theorem printV_form (T : List Tok) : ∃ A e, PrintV T = .tuple #[.string A, .int .i64 e] := by
  unfold PrintV
  split
  · split <;> exact ⟨_, _, rfl⟩
  · exact ⟨_, _, rfl⟩
set_option maxRecDepth 100000 in
set_option maxHeartbeats 8000000 in
theorem prints_any (v : Value) (T : List Tok) (w : World) (hG : Good w) (hT : TokO w v T) (hx0 : ∀ x ∈ T, x.t.length ≤ 1048576 ∧ x.n < 18446744073709551616) :
    Calls Tryd.prog 5 #[v] w fun e w' => e = .returned (.bool true) ∧ Below w.heap.size w w' := by
  have FW := Lib.hid (few_any v T w hT)
  have BG := Lib.hid (fun (V : World) (hb : Below w.heap.size w V) => begun_any V (hG.thn hb))
  have GD := Lib.hid (fun (V : World) (hb : Below w.heap.size w V) => hG.thn hb)
  have hTk : ∀ x ∈ T.take 700, x.t.length ≤ 1048576 ∧ x.n < 18446744073709551616 := fun x hx => hx0 x (List.mem_of_mem_take hx)
  have hTl : (T.take 700).length ≤ 700 := by rw [List.length_take]; omega
  generalize T.take 700 = S at *
  have P1 := Lib.hid (fun V (hb : Below w.heap.size w V) u (hu : TokO V u S) => print_any u S V (GD.out V hb) hu hTl hTk)
  have P2 := Lib.hid (fun V u (hu : TokO V u S) => rprint_any u S V hu hTl hTk)
  obtain ⟨A, ee, hA⟩ := printV_form S
  rw [hA] at P1 P2
  clear hG hT hx0 hTk hTl hA
  go_enter Tryd.func5, Tryd.ntmps5
  go_wp2_with fail
  refine FW.out.mono ?_
  rintro e w1 ⟨⟨u, rfl, hu⟩, rfl⟩
  have HU := Lib.hid hu
  clear hu
  go_wp2_with fail
  refine (P1.out _ (Below.refl _ _) u HU.out).mono ?_
  rintro e w2 ⟨rfl, hb2⟩
  have HB2 := Lib.hid hb2
  have HU2 := Lib.hid (HU.out.keep hb2)
  clear hb2
  go_wp2_with fail
  refine (P2.out _ u HU2.out).mono ?_
  rintro e w3 ⟨rfl, hb3⟩
  have HB3 := Lib.hid (Below.thn HB2.out HB2.out.size hb3)
  clear hb3
  go_wp2_with fail
  refine (BG.out _ HB3.out).mono ?_
  rintro e w4 ⟨rfl, hb4⟩
  have HB4 := Lib.hid (Below.thn HB3.out HB3.out.size hb4)
  clear hb4
  go_wp2_with fail
  go_ret
  exact ⟨rfl, HB4.out⟩
end Go.Proofs.YtjmdcimfmmfinaaDoor
