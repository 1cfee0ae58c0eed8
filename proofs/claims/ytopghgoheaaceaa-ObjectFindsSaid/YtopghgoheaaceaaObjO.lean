/-
  sectionsMayBe, symbolsMayBe, Check: what each call returns. Conditions: how the object lies, the names' sizes.
-/
import Derived.Test.YtopghgoheaaceaaObjE
import Derived.Test.YtopghgoheaaceaaObjF
import Derived.Test.YtopghgoheaaceaaObjH
import Derived.Test.YtopghgoheaaceaaObjM
import Derived.Test.YtopghgoheaaceaaObjN
namespace Go.Proofs.Ytopghgoheaaceaa
open Go.RowKit
set_option linter.unusedVariables false
set_option linter.unusedSimpArgs false

theorem secAlone_size {s : Sc} (h : secAlone s = true) : 0 ≤ s.size ∧ s.size ≤ 1048576 := by
  rw [secAlone_e] at h
  simp only [Bool.and_eq_true, decide_eq_true_eq] at h
  exact ⟨h.2.2.2.1, h.2.2.2.2.1⟩
theorem allT_take {α : Type} {l : List α} {p : α → Bool} {k : Nat} {x : α} (hx : l[k]? = some x) (h : (l.take k).all p = true) : (l.take (k + 1)).all p = p x := by
  rw [List.take_add_one, hx, List.all_append, h]; simp
theorem allT_false {α : Type} {l : List α} {p : α → Bool} {k : Nat} {x : α} (hx : l[k]? = some x) (h : p x = false) : l.all p = false := by
  rw [← Bool.not_eq_true, List.all_eq_true]
  intro f
  rw [f _ (List.mem_of_getElem? hx)] at h; cases h
def secsOk (o : Obj') : Bool := o.secs.all fun s => secOk s (o.syms.length : Int)
def symsOk (o : Obj') : Bool := o.syms.all fun y => symOk y o.secs
/-- the names' sizes -/
def Sized (o : Obj') : Prop := (∀ s ∈ o.secs, s.name.size ≤ 281474976710656) ∧ ∀ y ∈ o.syms, y.name.size ≤ 281474976710656
set_option maxRecDepth 100000 in
set_option maxHeartbeats 4000000 in
theorem secsMay_any (o : Obj') (w : World) (ho : ObjO w o) (hs : Sized o) :
    Calls Try.prog 36 #[obV o] w fun e w' => e = .returned (.bool (secsOk o)) ∧ Below w.heap.size w w' := by
  have E : Hid (secsOk o = o.secs.all fun s => secOk s (o.syms.length : Int)) := Lib.hid rfl
  generalize secsOk o = R at *
  obtain ⟨sv, yv, secs, syms⟩ := o
  have HS := Lib.hid hs.1
  have HO := Lib.hid ho
  have hlen := ho.1.len
  have hl1 := ho.1.len
  have hl2 := ho.2.len
  unfold maxLen at hlen hl1 hl2
  obtain ⟨sa, sc, h1⟩ := ho.1.slice
  obtain ⟨ya, yc, h2⟩ := ho.2.slice
  simp only at h1 h2 hlen HS E hl1 hl2
  subst h1 h2
  clear ho hs
  unfold obV
  simp only
  have A1 := Lib.hid (fun s W h1 h2 => secAlone_any s W h1 h2)
  have A2 := Lib.hid (fun s m W h1 h2 h3 => rel_any s m W h1 h2 h3)
  obtain ⟨W1, hW1⟩ : ∃ W1, w.alloc (.cells #[.slice sa secs.length sc, .slice ya syms.length yc] 25) = W1 := ⟨_, rfl⟩
  have HB1 : Hid (Below w.heap.size w W1) := Lib.hid (by rw [← hW1]; exact below1 w _)
  have hz1 : w.heap.size < W1.heap.size := by rw [← hW1]; simp
  have c0 : W1.cell? ⟨w.heap.size, 0, none⟩ = some (.slice sa secs.length sc) := by rw [← hW1]; exact cells_new w _ _ 0 _ rfl
  have c1 : W1.cell? ⟨w.heap.size, 1, none⟩ = some (.slice ya syms.length yc) := by rw [← hW1]; exact cells_new w _ _ 1 _ rfl
  go_enter Try.func36, Try.ntmps36
  go_wp2_with fail
  clear hW1
  go_loopw [8] (fun iv wr => ∃ (k : Nat), k ≤ secs.length ∧ iv = .int .i64 (k : Int) ∧ Hid ((secs.take k).all (fun s => secOk s (syms.length : Int)) = true) ∧ Hid (Below W1.heap.size W1 wr)) (fun iv _ => secs.length - (intOf iv).toNat)
  case atStart => exact ⟨0, Nat.zero_le _, rfl, Lib.hid rfl, Lib.hid (Below.refl _ _)⟩
  case round =>
    obtain ⟨k, hk, rfl, hst, hbr⟩ := hrel
    have g0 := (bcell hbr.out).1 w.heap.size 0 hz1 |>.trans c0
    have g1 := (bcell hbr.out).1 w.heap.size 1 hz1 |>.trans c1
    have hz2 : w.heap.size < wr.heap.size := Nat.lt_of_lt_of_le hz1 hbr.out.size
    clear c0 c1
    by_cases hlt : (k : Int) < (secs.length : Int)
    · have hlt' : k < secs.length := by omega
      have HOr := Lib.hid ((HO.out.keep HB1.out).keep hbr.out)
      obtain ⟨g, off, cap, s, hx, hv, hg, hin, x0, x1, x2, x3, x4, x5⟩ := HOr.out.1.at hlt'
      cases hv
      have w9 : IntKind.i64.wrap ((k : Int) + 1) = ((k + 1 : Nat) : Int) := by rw [IntWalk.i64_in _ (by omega)]; omega
      have HA := Lib.hid (allT_take (p := fun s => secOk s (syms.length : Int)) hx hst.out)
      have HF := Lib.hid (fun h => allT_false (p := fun s => secOk s (syms.length : Int)) hx h)
      have hn := HS.out s (List.mem_of_getElem? hx)
      have HIN := Lib.hid hin
      have B1 := Lib.hid (fun W (hb : Below wr.heap.size wr W) => A1.out s W (hin.keep hb) hn)
      have B2 := Lib.hid (fun W (hb : Below wr.heap.size wr W) h2 h3 => A2.out s (syms.length : Int) W (hin.keep hb) h2 h3)
      have SZ := Lib.hid (fun (h : secAlone s = true) => secAlone_size h)
      have PE : Hid (secOk s (syms.length : Int) = (secAlone s && relOk s (syms.length : Int))) := Lib.hid rfl
      obtain ⟨ad, cd, hd⟩ := hin.1.slice
      obtain ⟨ar, cr, hr⟩ := hin.2.slice
      generalize secOk s (syms.length : Int) = P at HA HF PE
      generalize relOk s (syms.length : Int) = b2 at *
      obtain ⟨name, kind, align, size, dv, rv, data, rel⟩ := s
      unfold scV at B1 B2
      simp only at hd hr x0 x1 x2 x3 x4 x5 B1 B2 SZ PE
      subst hd hr
      obtain ⟨b1, hb1⟩ : ∃ b, secAlone ⟨name, kind, align, size, .slice ad data.length cd, .slice ar rel.length cr, data, rel⟩ = b := ⟨_, rfl⟩
      rw [hb1] at B1 SZ PE
      clear hin hb1 HIN
      clear hx hst hn
      have HN0 := Lib.hid (show Below wr.heap.size wr (wr.alloc (.cells #[.string name, .int .i64 kind, .int .i64 align, .int .i64 size, .slice ad data.length cd, .slice ar rel.length cr] 40)) from below1 wr _)
      have HC0 := Lib.hid (show Below w.heap.size w wr from Below.thn HB1.out HB1.out.size hbr.out)
      cases b1 with
      | false =>
        have HE := Lib.hid (show R = false by rw [E.out]; exact HF.out (by rw [PE.out, Bool.false_and]))
        clear HA HF PE
        go_wp2_with fail
        refine (B1.out _ HN0.out).mono ?_
        rintro e w1 ⟨rfl, hb1⟩
        have HBX := Lib.hid hb1
        have HB2 := Lib.hid (Below.thn HN0.out (by simp) hb1)
        clear hb1
        go_wp2_with fail
        go_ret
        exact ⟨ret1b (by rw [HE.out]), Below.thn HC0.out HC0.out.size HB2.out⟩
      | true =>
        have hsz := SZ.out rfl
        rw [Bool.true_and] at PE
        cases b2 with
        | false =>
          have HE := Lib.hid (show R = false by rw [E.out]; exact HF.out PE.out)
          clear HA HF PE
          go_wp2_with fail
          refine (B1.out _ HN0.out).mono ?_
          rintro e w1 ⟨rfl, hb1⟩
          have HBX := Lib.hid hb1
          have HB2 := Lib.hid (Below.thn HN0.out (by simp) hb1)
          clear hb1
          have z0 := ((bcell HBX.out).1 wr.heap.size 0 (by simp)).trans (cells_new wr #[.string name, .int .i64 kind, .int .i64 align, .int .i64 size, .slice ad data.length cd, .slice ar rel.length cr] 40 0 _ rfl)
          have z1 := ((bcell HBX.out).1 wr.heap.size 1 (by simp)).trans (cells_new wr #[.string name, .int .i64 kind, .int .i64 align, .int .i64 size, .slice ad data.length cd, .slice ar rel.length cr] 40 1 _ rfl)
          have z2 := ((bcell HBX.out).1 wr.heap.size 2 (by simp)).trans (cells_new wr #[.string name, .int .i64 kind, .int .i64 align, .int .i64 size, .slice ad data.length cd, .slice ar rel.length cr] 40 2 _ rfl)
          have z3 := ((bcell HBX.out).1 wr.heap.size 3 (by simp)).trans (cells_new wr #[.string name, .int .i64 kind, .int .i64 align, .int .i64 size, .slice ad data.length cd, .slice ar rel.length cr] 40 3 _ rfl)
          have z4 := ((bcell HBX.out).1 wr.heap.size 4 (by simp)).trans (cells_new wr #[.string name, .int .i64 kind, .int .i64 align, .int .i64 size, .slice ad data.length cd, .slice ar rel.length cr] 40 4 _ rfl)
          have z5 := ((bcell HBX.out).1 wr.heap.size 5 (by simp)).trans (cells_new wr #[.string name, .int .i64 kind, .int .i64 align, .int .i64 size, .slice ad data.length cd, .slice ar rel.length cr] 40 5 _ rfl)
          have g1b := (bcell HB2.out).1 w.heap.size 1 hz2 |>.trans g1
          skip
          go_wp2_with fail
          refine (B2.out _ HB2.out hsz.1 hsz.2).mono ?_
          rintro e w2 ⟨rfl, hb2⟩
          have HB3 := Lib.hid (Below.thn HB2.out HB2.out.size hb2)
          clear hb2
          go_wp2_with fail
          go_ret
          exact ⟨ret1b (by rw [HE.out]), Below.thn HC0.out HC0.out.size HB3.out⟩
        | true =>
          have HE := Lib.hid (HA.out.trans PE.out)
          clear HA HF PE
          go_wp2_with fail
          refine (B1.out _ HN0.out).mono ?_
          rintro e w1 ⟨rfl, hb1⟩
          have HBX := Lib.hid hb1
          have HB2 := Lib.hid (Below.thn HN0.out (by simp) hb1)
          clear hb1
          have z0 := ((bcell HBX.out).1 wr.heap.size 0 (by simp)).trans (cells_new wr #[.string name, .int .i64 kind, .int .i64 align, .int .i64 size, .slice ad data.length cd, .slice ar rel.length cr] 40 0 _ rfl)
          have z1 := ((bcell HBX.out).1 wr.heap.size 1 (by simp)).trans (cells_new wr #[.string name, .int .i64 kind, .int .i64 align, .int .i64 size, .slice ad data.length cd, .slice ar rel.length cr] 40 1 _ rfl)
          have z2 := ((bcell HBX.out).1 wr.heap.size 2 (by simp)).trans (cells_new wr #[.string name, .int .i64 kind, .int .i64 align, .int .i64 size, .slice ad data.length cd, .slice ar rel.length cr] 40 2 _ rfl)
          have z3 := ((bcell HBX.out).1 wr.heap.size 3 (by simp)).trans (cells_new wr #[.string name, .int .i64 kind, .int .i64 align, .int .i64 size, .slice ad data.length cd, .slice ar rel.length cr] 40 3 _ rfl)
          have z4 := ((bcell HBX.out).1 wr.heap.size 4 (by simp)).trans (cells_new wr #[.string name, .int .i64 kind, .int .i64 align, .int .i64 size, .slice ad data.length cd, .slice ar rel.length cr] 40 4 _ rfl)
          have z5 := ((bcell HBX.out).1 wr.heap.size 5 (by simp)).trans (cells_new wr #[.string name, .int .i64 kind, .int .i64 align, .int .i64 size, .slice ad data.length cd, .slice ar rel.length cr] 40 5 _ rfl)
          have g1b := (bcell HB2.out).1 w.heap.size 1 hz2 |>.trans g1
          skip
          go_wp2_with fail
          refine (B2.out _ HB2.out hsz.1 hsz.2).mono ?_
          rintro e w2 ⟨rfl, hb2⟩
          have HB3 := Lib.hid (Below.thn HB2.out HB2.out.size hb2)
          clear hb2
          go_wp2_with fail
          go_roundw
          case rel => exact ⟨k + 1, by omega, by first | rfl | rw [← w9], HE, Lib.hid (Below.thn hbr.out hbr.out.size HB3.out)⟩
          case measure => simp [intOf]; omega
    · have HE := Lib.hid (show R = true by
        rw [E.out]
        have := hst.out
        rw [List.take_of_length_le (by omega)] at this
        exact this)
      have HN := Lib.hid (Below.thn HB1.out HB1.out.size hbr.out)
      go_wp2_with fail
      go_ret
      exact ⟨ret1b (by rw [HE.out]), HN.out⟩
set_option maxRecDepth 100000 in
set_option maxHeartbeats 4000000 in
theorem symsMay_any (o : Obj') (w : World) (ho : ObjO w o) (hs : Sized o) :
    Calls Try.prog 37 #[obV o] w fun e w' => e = .returned (.bool (symsOk o)) ∧ Below w.heap.size w w' := by
  have E : Hid (symsOk o = o.syms.all fun y => symOk y o.secs) := Lib.hid rfl
  generalize symsOk o = R at *
  obtain ⟨sv, yv, secs, syms⟩ := o
  have HS := Lib.hid hs.2
  have HO := Lib.hid ho
  have hlen := ho.2.len
  have hl1 := ho.1.len
  have hl2 := ho.2.len
  unfold maxLen at hlen hl1 hl2
  obtain ⟨sa, sc, h1⟩ := ho.1.slice
  obtain ⟨ya, yc, h2⟩ := ho.2.slice
  simp only at h1 h2 hlen HS E hl1 hl2
  subst h1 h2
  clear ho hs
  unfold obV
  simp only
  have A1 := Lib.hid (fun s W h1 => symName_any s W h1)
  have A2 := Lib.hid (fun s v l W h1 => stands_any s v l W h1)
  obtain ⟨W1, hW1⟩ : ∃ W1, w.alloc (.cells #[.slice sa secs.length sc, .slice ya syms.length yc] 25) = W1 := ⟨_, rfl⟩
  have HB1 : Hid (Below w.heap.size w W1) := Lib.hid (by rw [← hW1]; exact below1 w _)
  have hz1 : w.heap.size < W1.heap.size := by rw [← hW1]; simp
  have c0 : W1.cell? ⟨w.heap.size, 0, none⟩ = some (.slice sa secs.length sc) := by rw [← hW1]; exact cells_new w _ _ 0 _ rfl
  have c1 : W1.cell? ⟨w.heap.size, 1, none⟩ = some (.slice ya syms.length yc) := by rw [← hW1]; exact cells_new w _ _ 1 _ rfl
  go_enter Try.func37, Try.ntmps37
  go_wp2_with fail
  clear hW1
  go_loopw [8] (fun iv wr => ∃ (k : Nat), k ≤ syms.length ∧ iv = .int .i64 (k : Int) ∧ Hid ((syms.take k).all (fun y => symOk y secs) = true) ∧ Hid (Below W1.heap.size W1 wr)) (fun iv _ => syms.length - (intOf iv).toNat)
  case atStart => exact ⟨0, Nat.zero_le _, rfl, Lib.hid rfl, Lib.hid (Below.refl _ _)⟩
  case round =>
    obtain ⟨k, hk, rfl, hst, hbr⟩ := hrel
    have g0 := (bcell hbr.out).1 w.heap.size 0 hz1 |>.trans c0
    have g1 := (bcell hbr.out).1 w.heap.size 1 hz1 |>.trans c1
    have hz2 : w.heap.size < wr.heap.size := Nat.lt_of_lt_of_le hz1 hbr.out.size
    clear c0 c1
    by_cases hlt : (k : Int) < (syms.length : Int)
    · have hlt' : k < syms.length := by omega
      have HOr := Lib.hid ((HO.out.keep HB1.out).keep hbr.out)
      obtain ⟨g, off, cap, s, hx, hv, hg, x0, x1, x2, x3⟩ := HOr.out.2.at hlt'
      cases hv
      have w9 : IntKind.i64.wrap ((k : Int) + 1) = ((k + 1 : Nat) : Int) := by rw [IntWalk.i64_in _ (by omega)]; omega
      have HA := Lib.hid (allT_take (p := fun y => symOk y secs) hx hst.out)
      have HF := Lib.hid (fun h => allT_false (p := fun y => symOk y secs) hx h)
      have hn := HS.out s (List.mem_of_getElem? hx)
      have B1 := Lib.hid (fun W => A1.out s.name W hn)
      have B2 := Lib.hid (fun W (hb : Below wr.heap.size wr W) => A2.out s _ secs W (HOr.out.1.keep hb))
      have PE : Hid (symOk s secs = (symName s.name && stands s secs)) := Lib.hid rfl
      generalize symOk s secs = P at HA HF PE
      generalize stands s secs = b2 at *
      generalize symName s.name = b1 at *
      obtain ⟨name, sec, val, gl⟩ := s
      unfold syV at B2
      simp only at x0 x1 x2 x3 B1 B2 PE
      clear hx hst hn
      have HN0 := Lib.hid (show Below wr.heap.size wr (wr.alloc (.cells #[.string name, .int .i64 sec, .int .i64 val, .bool gl] 36)) from below1 wr _)
      have HC0 := Lib.hid (show Below w.heap.size w wr from Below.thn HB1.out HB1.out.size hbr.out)
      cases b1 with
      | false =>
        have HE := Lib.hid (show R = false by rw [E.out]; exact HF.out (by rw [PE.out, Bool.false_and]))
        clear HA HF PE
        go_wp2_with fail
        refine (B1.out _).mono ?_
        rintro e w1 ⟨rfl, rfl⟩
        go_wp2_with fail
        go_ret
        exact ⟨ret1b (by rw [HE.out]), Below.thn HC0.out HC0.out.size HN0.out⟩
      | true =>
        rw [Bool.true_and] at PE
        cases b2 with
        | false =>
          have HE := Lib.hid (show R = false by rw [E.out]; exact HF.out PE.out)
          clear HA HF PE
          go_wp2_with fail
          refine (B1.out _).mono ?_
          rintro e w1 ⟨rfl, rfl⟩
          go_wp2_with fail
          refine (B2.out _ HN0.out).mono ?_
          rintro e w2 ⟨rfl, hb2⟩
          have HB3 := Lib.hid (Below.thn HN0.out (by simp) hb2)
          clear hb2
          go_wp2_with fail
          go_ret
          exact ⟨ret1b (by rw [HE.out]), Below.thn HC0.out HC0.out.size HB3.out⟩
        | true =>
          have HE := Lib.hid (HA.out.trans PE.out)
          clear HA HF PE
          go_wp2_with fail
          refine (B1.out _).mono ?_
          rintro e w1 ⟨rfl, rfl⟩
          go_wp2_with fail
          refine (B2.out _ HN0.out).mono ?_
          rintro e w2 ⟨rfl, hb2⟩
          have HB3 := Lib.hid (Below.thn HN0.out (by simp) hb2)
          clear hb2
          go_wp2_with fail
          go_roundw
          case rel => exact ⟨k + 1, by omega, by first | rfl | rw [← w9], HE, Lib.hid (Below.thn hbr.out hbr.out.size HB3.out)⟩
          case measure => simp [intOf]; omega
    · have HE := Lib.hid (show R = true by
        rw [E.out]
        have := hst.out
        rw [List.take_of_length_le (by omega)] at this
        exact this)
      have HN := Lib.hid (Below.thn HB1.out HB1.out.size hbr.out)
      go_wp2_with fail
      go_ret
      exact ⟨ret1b (by rw [HE.out]), HN.out⟩
end Go.Proofs.Ytopghgoheaaceaa
