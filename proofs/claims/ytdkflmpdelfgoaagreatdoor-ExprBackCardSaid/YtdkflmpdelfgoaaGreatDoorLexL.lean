/-
  What each call of the program's unquoted and Unquote returns. Conditions: what the variables of the library hold (Good), and the sizes that each lemma states.
-/
import Derived.Test.YtdkflmpdelfgoaaGreatDoorLexK
namespace Go.Proofs.YtdkflmpdelfgoaaGreatDoor
open Go.RowKit

def UOut (o : Option (Bs × Nat)) (e : Ending) : Prop := (∃ (b : Bs) (n : Nat), o = some (b, n) ∧ e = .returned (.tuple #[.string ⟨b.toArray⟩, .int .i64 (n : Int), .bool true])) ∨ (o = none ∧ e = .returned (.tuple #[.string ⟨#[]⟩, .int .i64 0, .bool false]))
theorem quotesB_of {t : Bs} : quotesB (34 :: t) = (unq t).map fun x => (x.1, x.2 + 1) := by simp [quotesB]
theorem map_map {o : Option (Bs × Nat)} {b c : Bs} {k n : Nat} : (o.map fun x => (c ++ x.1, n + x.2)).map (fun x => (b ++ x.1, k + x.2)) = o.map fun x => ((b ++ c) ++ x.1, (k + n) + x.2) := by
  cases o with
  | none => rfl
  | some x => simp [Nat.add_assoc]
theorem below_grown {W W' : World} (h : Below W.heap.size W W') : W.grownBy W' none := ⟨h.os, h.tape, h.output, h.size, fun k hk _ => h.block k hk⟩
theorem bld_keep {B b : Nat} {l : Bs} {w w' : World} (h : Bld B b l w) (hb : Below w.heap.size w w') : Bld B b l w' := by
  have key : ∀ p, Lib.BuilderAtF 53 5 B b p (Lib.byteCells l) w → Lib.BuilderAtF 53 5 B b p (Lib.byteCells l) w' := by
    rintro p ⟨hB, v, hbk, hown, hne⟩
    exact ⟨hB, v, (hb.block b (heap_lt hbk)).trans hbk, hown.kept (row := none) (below_grown hb) (by cases hv : v.ownBlock <;> simp), hne⟩
  exact h.elim (fun x => .inl (key _ x)) (fun x => .inr (key _ x))
set_option maxHeartbeats 8000000 in
set_option maxRecDepth 100000 in
theorem unquoted_any (s : ByteArray) (w : World) (hG : Good w) (hs : s.size ≤ 281474976710656 / 4) :
    Calls Tryz.prog 71 #[.string s] w fun e w' => UOut (quotesB s.data.toList) e ∧ Below w.heap.size w w' := by
  cases hl : s.data.toList with
  | nil =>
    obtain rfl := empty_yes hl
    have R := Lib.hid (show UOut (quotesB []) _ from .inr ⟨rfl, rfl⟩)
    clear hG hl
    go_enter Tryz.func71, Tryz.ntmps71
    go_wp2_with fail
    go_ret3
    exact ⟨R.out, Below.refl _ _⟩
  | cons c t =>
    obtain ⟨h0, gx⟩ := head_byte hl
    obtain ⟨g1, g2, g3⟩ := empty_no hl
    have h0' : 0 < (s.size : Int) := by omega
    by_cases hc : c = 34
    · subst hc
      have HLEN := Lib.hid (show s.size = t.length + 1 by rw [size_list, hl]; rfl)
      have WA := Lib.hid (fun (E : ByteArray) (x : UInt8) (r : Bs) (hE : E.data.toList = x :: r) (w1 : World) (hb : Below w.heap.size w w1) (hz : E.size ≤ 281474976710656) => within_any E x r w1 (hG.thn hb) hz hE)
      have HQ := Lib.hid (quotesB_of (t := t))
      have HL := Lib.hid hl
      clear hG hl
      go_enter Tryz.func71, Tryz.ntmps71
      go_wp2_with fail
      go_loopw [6] (fun i wr => ∃ (k : Nat) (b : Bs), i = .int .i64 (k : Int) ∧ 1 ≤ k ∧ k ≤ s.size ∧ b.length ≤ k ∧ Hid (unq t = (unq ((34 :: t).drop k)).map fun x => (b ++ x.1, (k - 1) + x.2)) ∧ Bld w.heap.size w.heap.size b wr ∧ Below w.heap.size w wr) (fun i _ => s.size - (intOf i).toNat)
      case atStart => exact ⟨1, [], rfl, by omega, by omega, by simp, Lib.hid (by simp), bld_new w, below1 _ _⟩
      case round =>
        obtain ⟨k, b, rfl, hk1, hk2, hbl, hU, hB, hbel⟩ := hrel
        have hz := hbel.size
        by_cases hlt : k < s.size
        · obtain ⟨x, hx⟩ : ∃ x, s[k] = x := ⟨_, rfl⟩
          have hdr : (34 :: t).drop k = x :: (34 :: t).drop (k + 1) := by
            rw [← HL.out, List.drop_eq_getElem_cons (by rw [← size_list]; exact hlt), ← hx, get_list hlt]
          by_cases h34 : x = 34
          · subst h34
            have R : UOut (quotesB (34 :: t)) (.returned (.tuple #[.string ⟨b.toArray⟩, .int .i64 ((k + 1 : Nat) : Int), .bool true])) := by
              refine .inl ⟨b, k + 1, ?_, rfl⟩
              rw [HQ.out, hU.out, hdr, unq_end]
              simp; omega
            have RH := Lib.hid R
            have hne : ((k : Int) == (s.size : Int)) = false := by simp; omega
            have ST := Lib.hid (Tryz.Builder_String_any_k w.heap.size w.heap.size b _ hB hz)
            have HB := Lib.hid hbel
            have w9 : IntKind.i64.wrap ((k : Int) + 1) = ((k + 1 : Nat) : Int) := by rw [IntWalk.i64_in _ (by omega)]; omega
            clear R hdr hB hbel hU
            go_wp2_with fail
            refine ST.out.mono ?_
            rintro e w1 ⟨rfl, -, hb1, -⟩
            go_wp2_with fail
            go_ret3
            exact ⟨RH.out, HB.out.trans hb1⟩
          · have b34 : ((x.toNat : Int) != 34) = true := u8_ne (b := 34) h34
            have h34' := h34
            have hE : (s.extract k s.size).data.toList = x :: (34 :: t).drop (k + 1) := by rw [list_drop HL.out, hdr]
            have HE := Lib.hid hE
            have WW := Lib.hid (WA.out (s.extract k s.size) _ _ hE _ hbel (by have := HLEN.out; rw [size_list, hE, ← hdr, List.length_drop, List.length_cons]; omega))
            have hk' : (k : Int) ≤ (s.size : Int) := by omega
            obtain ⟨o, ho⟩ : ∃ o, within1 (x :: (34 :: t).drop (k + 1)) = o := ⟨_, rfl⟩
            rw [ho] at WW
            have HO := Lib.hid ho
            have HD := Lib.hid hdr
            have HB := Lib.hid hB
            have HBL := Lib.hid hbel
            clear hE ho hdr hB hbel h34
            go_wp2_with fail
            refine WW.out.mono ?_
            rintro e w1 ⟨⟨v, n, ok, rfl, hor⟩, hb1⟩
            have HB1 := Lib.hid (bld_keep HB.out hb1)
            have HBL1 := Lib.hid (Below.thn HBL.out hz hb1)
            have hz1 : w.heap.size ≤ w1.heap.size := HBL1.out.size
            clear hb1
            rcases hor with ⟨rfl, y, m, rfl, rfl, rfl⟩ | ⟨rfl, rfl⟩
            · have hp := within1_pos HO.out
              have hm : k + m ≤ s.size := by
                have h1 := hp.2
                rw [← HD.out, List.length_drop, List.length_cons] at h1
                have := HLEN.out
                omega
              have hm1 := hp.1
              have HS := Lib.hid (unq_step h34' HO.out)
              have WB := Lib.hid (wbyte_any w.heap.size w.heap.size b y w1 HB1.out (by omega) hz1)
              have w9 : IntKind.i64.wrap ((k : Int) + (m : Int)) = ((k + m : Nat) : Int) := by rw [IntWalk.i64_in _ (by omega)]; omega
              clear hp
              go_wp2_with fail
              refine WB.out.mono ?_
              rintro e w2 ⟨rfl, hB2, hb2, -⟩
              have HB2 := Lib.hid hB2
              have HBL2 := Lib.hid (HBL1.out.trans hb2)
              clear hB2 hb2
              go_wp2_with fail
              go_roundw
              case rel =>
                refine ⟨k + m, b ++ [y], by first | rfl | rw [← w9], by omega, hm, by simp; omega, Lib.hid ?_, HB2.out, HBL2.out⟩
                rw [hU.out, HD.out, HS.out, ← HD.out, List.drop_drop]
                have := map_map (o := unq ((34 :: t).drop (k + m))) (b := b) (c := [y]) (k := k - 1) (n := m)
                rw [show k - 1 + m = k + m - 1 by omega] at this
                exact this
              case measure => simp [intOf]; omega
            · have R : UOut (quotesB (34 :: t)) (.returned (.tuple #[.string ⟨#[]⟩, .int .i64 0, .bool false])) := by
                refine .inr ⟨?_, rfl⟩
                rw [HQ.out, hU.out, HD.out, unq_none h34' HO.out]
                rfl
              have RH := Lib.hid R
              clear R
              go_wp2_with fail
              go_ret3
              exact ⟨RH.out, HBL1.out⟩
        · have hke : k = s.size := by omega
          have R : UOut (quotesB (34 :: t)) (.returned (.tuple #[.string ⟨#[]⟩, .int .i64 0, .bool false])) := by
            refine .inr ⟨?_, rfl⟩
            rw [HQ.out, hU.out, List.drop_eq_nil_of_le (by have := HLEN.out; simp; omega), unq_nil]
            rfl
          have RH := Lib.hid R
          have HB := Lib.hid hbel
          have heq : ((k : Int) == (s.size : Int)) = true := by simp; omega
          have hnl : decide (k < s.size) = false := by simp; omega
          clear R hB hbel hU hke
          go_wp2_with fail
          go_ret3
          exact ⟨RH.out, HB.out⟩
    · have b34 : ((c.toNat : Int) != 34) = true := u8_ne (b := 34) hc
      have R := Lib.hid (show UOut (quotesB (c :: t)) _ from .inr ⟨by simp [quotesB, hc], rfl⟩)
      clear hG hl hc
      go_enter Tryz.func71, Tryz.ntmps71
      go_wp2_with fail
      go_ret3
      exact ⟨R.out, Below.refl _ _⟩
end Go.Proofs.YtdkflmpdelfgoaaGreatDoor
