/-
  Check: what each call returns. Conditions: how the object lies, the names' sizes.
-/
import Derived.Test.YtopghgoheaaceaaObjO
namespace Go.Proofs.Ytopghgoheaaceaa
open Go.RowKit
set_option linter.unusedVariables false
set_option linter.unusedSimpArgs false

def secNs (o : Obj') : List BA := o.secs.map fun s => s.name
def symNs (o : Obj') : List BA := o.syms.map fun s => s.name
def checkB (o : Obj') : Bool := !(decide (64 < (o.secs.length : Int)) || (decide (4096 < (o.syms.length : Int)) || (!secsOk o || (!symsOk o || (twiceL (secNs o) || (twiceL (symNs o) || !sortedL o.syms))))))
def errI (b : Bool) : Int := if b = true then 0 else 140
theorem checkB_e (o : Obj') : checkB o = !(decide (64 < (o.secs.length : Int)) || (decide (4096 < (o.syms.length : Int)) || (!secsOk o || (!symsOk o || (twiceL (secNs o) || (twiceL (symNs o) || !sortedL o.syms)))))) := rfl
set_option maxRecDepth 100000 in
set_option maxHeartbeats 8000000 in
theorem check_any (o : Obj') (w : World) (ho : ObjO w o) (hs : Sized o) :
    Calls Try.prog 14 #[obV o] w fun e w' => e = .returned (.int .i64 (errI (checkB o))) ∧ Below w.heap.size w w' := by
  have E := checkB_e o
  generalize checkB o = R at *
  have hl1 := ho.1.len
  have hl2 := ho.2.len
  have N1 : ∀ x ∈ secNs o, x.size ≤ maxLen := fun x hx => by
    obtain ⟨s, h1, rfl⟩ := List.mem_map.1 hx
    have := hs.1 s h1; unfold maxLen; omega
  have N2 : ∀ x ∈ symNs o, x.size ≤ maxLen := fun x hx => by
    obtain ⟨s, h1, rfl⟩ := List.mem_map.1 hx
    have := hs.2 s h1; unfold maxLen; omega
  have C3 := Lib.hid (fun W (hb : Below w.heap.size w W) => secsMay_any o W (ho.keep hb) hs)
  have C4 := Lib.hid (fun W (hb : Below w.heap.size w W) => symsMay_any o W (ho.keep hb) hs)
  have C5 := Lib.hid (fun W (hb : Below w.heap.size w W) => secNames_any o W (ho.keep hb))
  have C6 := Lib.hid (fun v W (hl : o.secs.length ≤ 281474976710656) (hv : NamesIt W v (secNs o)) => twice_any v (secNs o) W hv N1 (by unfold secNs; rw [List.length_map]; exact hl))
  have C7 := Lib.hid (fun W (hb : Below w.heap.size w W) => symNames_any o W (ho.keep hb))
  have C8 := Lib.hid (fun v W (hl : o.syms.length ≤ 281474976710656) (hv : NamesIt W v (symNs o)) => twice_any v (symNs o) W hv N2 (by unfold symNs; rw [List.length_map]; exact hl))
  have C9 := Lib.hid (fun W (hb : Below w.heap.size w W) => sorted_any o.yv o.syms W (ho.2.keep hb))
  clear N1 N2 hs
  generalize secsOk o = b3 at *
  generalize symsOk o = b4 at *
  generalize twiceL (secNs o) = b5 at *
  generalize twiceL (symNs o) = b6 at *
  generalize sortedL o.syms = b7 at *
  obtain ⟨sv, yv, secs, syms⟩ := o
  obtain ⟨sa, sc, h1⟩ := ho.1.slice
  obtain ⟨ya, yc, h2⟩ := ho.2.slice
  unfold maxLen at hl1 hl2
  simp only at h1 h2 hl1 hl2 E C3 C4 C5 C6 C7 C8 C9
  subst h1 h2
  clear ho
  unfold obV at C3 C4 C5 C7 ⊢
  simp only at C3 C4 C5 C7 C9 ⊢
  obtain ⟨W1, hW1⟩ : ∃ W1, w.alloc (.cells #[.slice sa secs.length sc, .slice ya syms.length yc] 25) = W1 := ⟨_, rfl⟩
  have HB1 : Hid (Below w.heap.size w W1) := Lib.hid (by rw [← hW1]; exact below1 w _)
  have hz1 : w.heap.size < W1.heap.size := by rw [← hW1]; simp
  have c0 : W1.cell? ⟨w.heap.size, 0, none⟩ = some (.slice sa secs.length sc) := by rw [← hW1]; exact cells_new w _ _ 0 _ rfl
  have c1 : W1.cell? ⟨w.heap.size, 1, none⟩ = some (.slice ya syms.length yc) := by rw [← hW1]; exact cells_new w _ _ 1 _ rfl
  by_cases a1 : (64 : Int) < (secs.length : Int)
  · rw [decide_eq_true a1, Bool.true_or, Bool.not_true] at E
    have HE := Lib.hid (show R = false by rw [E])
    clear E
    go_enter Try.func14, Try.ntmps14
    go_wp2_with fail
    go_ret
    exact ⟨ret1 (by rw [HE.out]; rfl), HB1.out⟩
  rw [decide_eq_false a1, Bool.false_or] at E
  by_cases a2 : (4096 : Int) < (syms.length : Int)
  · rw [decide_eq_true a2, Bool.true_or, Bool.not_true] at E
    have HE := Lib.hid (show R = false by rw [E])
    clear E
    go_enter Try.func14, Try.ntmps14
    go_wp2_with fail
    go_ret
    exact ⟨ret1 (by rw [HE.out]; rfl), HB1.out⟩
  rw [decide_eq_false a2, Bool.false_or] at E
  cases b3 with
  | false =>
    rw [Bool.not_false, Bool.true_or, Bool.not_true] at E
    have HE := Lib.hid (show R = false by rw [E])
    clear E
    go_enter Try.func14, Try.ntmps14
    go_wp2_with fail
    refine (C3.out _ HB1.out).mono ?_
    rintro e u0 ⟨rfl, hb⟩
    have HK0 := Lib.hid (Below.thn HB1.out HB1.out.size hb)
    have c0 := (bcell hb).1 w.heap.size 0 hz1 |>.trans c0
    have c1 := (bcell hb).1 w.heap.size 1 hz1 |>.trans c1
    have hz1 := Nat.lt_of_lt_of_le hz1 hb.size
    clear hb
    go_wp2_with fail
    go_ret
    exact ⟨ret1 (by rw [HE.out]; rfl), HK0.out⟩
  | true =>
    rw [Bool.not_true, Bool.false_or] at E
    cases b4 with
    | false =>
      rw [Bool.not_false, Bool.true_or, Bool.not_true] at E
      have HE := Lib.hid (show R = false by rw [E])
      clear E
      go_enter Try.func14, Try.ntmps14
      go_wp2_with fail
      refine (C3.out _ HB1.out).mono ?_
      rintro e u0 ⟨rfl, hb⟩
      have HK0 := Lib.hid (Below.thn HB1.out HB1.out.size hb)
      have c0 := (bcell hb).1 w.heap.size 0 hz1 |>.trans c0
      have c1 := (bcell hb).1 w.heap.size 1 hz1 |>.trans c1
      have hz1 := Nat.lt_of_lt_of_le hz1 hb.size
      clear hb
      go_wp2_with fail
      refine (C4.out _ HK0.out).mono ?_
      rintro e u1 ⟨rfl, hb⟩
      have HK1 := Lib.hid (Below.thn HK0.out HK0.out.size hb)
      have c0 := (bcell hb).1 w.heap.size 0 hz1 |>.trans c0
      have c1 := (bcell hb).1 w.heap.size 1 hz1 |>.trans c1
      have hz1 := Nat.lt_of_lt_of_le hz1 hb.size
      clear hb
      go_wp2_with fail
      go_ret
      exact ⟨ret1 (by rw [HE.out]; rfl), HK1.out⟩
    | true =>
      rw [Bool.not_true, Bool.false_or] at E
      cases b5 with
      | true =>
        rw [Bool.true_or, Bool.not_true] at E
        have HE := Lib.hid (show R = false by rw [E])
        clear E
        go_enter Try.func14, Try.ntmps14
        go_wp2_with fail
        refine (C3.out _ HB1.out).mono ?_
        rintro e u0 ⟨rfl, hb⟩
        have HK0 := Lib.hid (Below.thn HB1.out HB1.out.size hb)
        have c0 := (bcell hb).1 w.heap.size 0 hz1 |>.trans c0
        have c1 := (bcell hb).1 w.heap.size 1 hz1 |>.trans c1
        have hz1 := Nat.lt_of_lt_of_le hz1 hb.size
        clear hb
        go_wp2_with fail
        refine (C4.out _ HK0.out).mono ?_
        rintro e u1 ⟨rfl, hb⟩
        have HK1 := Lib.hid (Below.thn HK0.out HK0.out.size hb)
        have c0 := (bcell hb).1 w.heap.size 0 hz1 |>.trans c0
        have c1 := (bcell hb).1 w.heap.size 1 hz1 |>.trans c1
        have hz1 := Nat.lt_of_lt_of_le hz1 hb.size
        clear hb
        go_wp2_with fail
        refine (C5.out _ HK1.out).mono ?_
        rintro e u2 ⟨⟨v2, rfl, hv⟩, hb⟩
        have HV2 := Lib.hid hv
        clear hv
        have HK2 := Lib.hid (Below.thn HK1.out HK1.out.size hb)
        have c0 := (bcell hb).1 w.heap.size 0 hz1 |>.trans c0
        have c1 := (bcell hb).1 w.heap.size 1 hz1 |>.trans c1
        have hz1 := Nat.lt_of_lt_of_le hz1 hb.size
        clear hb
        go_wp2_with fail
        refine (C6.out _ _ (by omega) HV2.out).mono ?_
        rintro e u3 ⟨rfl, hb⟩
        have HK3 := Lib.hid (Below.thn HK2.out HK2.out.size hb)
        have c0 := (bcell hb).1 w.heap.size 0 hz1 |>.trans c0
        have c1 := (bcell hb).1 w.heap.size 1 hz1 |>.trans c1
        have hz1 := Nat.lt_of_lt_of_le hz1 hb.size
        clear hb
        go_wp2_with fail
        go_ret
        exact ⟨ret1 (by rw [HE.out]; rfl), HK3.out⟩
      | false =>
        rw [Bool.false_or] at E
        cases b6 with
        | true =>
          rw [Bool.true_or, Bool.not_true] at E
          have HE := Lib.hid (show R = false by rw [E])
          clear E
          go_enter Try.func14, Try.ntmps14
          go_wp2_with fail
          refine (C3.out _ HB1.out).mono ?_
          rintro e u0 ⟨rfl, hb⟩
          have HK0 := Lib.hid (Below.thn HB1.out HB1.out.size hb)
          have c0 := (bcell hb).1 w.heap.size 0 hz1 |>.trans c0
          have c1 := (bcell hb).1 w.heap.size 1 hz1 |>.trans c1
          have hz1 := Nat.lt_of_lt_of_le hz1 hb.size
          clear hb
          go_wp2_with fail
          refine (C4.out _ HK0.out).mono ?_
          rintro e u1 ⟨rfl, hb⟩
          have HK1 := Lib.hid (Below.thn HK0.out HK0.out.size hb)
          have c0 := (bcell hb).1 w.heap.size 0 hz1 |>.trans c0
          have c1 := (bcell hb).1 w.heap.size 1 hz1 |>.trans c1
          have hz1 := Nat.lt_of_lt_of_le hz1 hb.size
          clear hb
          go_wp2_with fail
          refine (C5.out _ HK1.out).mono ?_
          rintro e u2 ⟨⟨v2, rfl, hv⟩, hb⟩
          have HV2 := Lib.hid hv
          clear hv
          have HK2 := Lib.hid (Below.thn HK1.out HK1.out.size hb)
          have c0 := (bcell hb).1 w.heap.size 0 hz1 |>.trans c0
          have c1 := (bcell hb).1 w.heap.size 1 hz1 |>.trans c1
          have hz1 := Nat.lt_of_lt_of_le hz1 hb.size
          clear hb
          go_wp2_with fail
          refine (C6.out _ _ (by omega) HV2.out).mono ?_
          rintro e u3 ⟨rfl, hb⟩
          have HK3 := Lib.hid (Below.thn HK2.out HK2.out.size hb)
          have c0 := (bcell hb).1 w.heap.size 0 hz1 |>.trans c0
          have c1 := (bcell hb).1 w.heap.size 1 hz1 |>.trans c1
          have hz1 := Nat.lt_of_lt_of_le hz1 hb.size
          clear hb
          go_wp2_with fail
          refine (C7.out _ HK3.out).mono ?_
          rintro e u4 ⟨⟨v4, rfl, hv⟩, hb⟩
          have HV4 := Lib.hid hv
          clear hv
          have HK4 := Lib.hid (Below.thn HK3.out HK3.out.size hb)
          have c0 := (bcell hb).1 w.heap.size 0 hz1 |>.trans c0
          have c1 := (bcell hb).1 w.heap.size 1 hz1 |>.trans c1
          have hz1 := Nat.lt_of_lt_of_le hz1 hb.size
          clear hb
          go_wp2_with fail
          refine (C8.out _ _ (by omega) HV4.out).mono ?_
          rintro e u5 ⟨rfl, hb⟩
          have HK5 := Lib.hid (Below.thn HK4.out HK4.out.size hb)
          have c0 := (bcell hb).1 w.heap.size 0 hz1 |>.trans c0
          have c1 := (bcell hb).1 w.heap.size 1 hz1 |>.trans c1
          have hz1 := Nat.lt_of_lt_of_le hz1 hb.size
          clear hb
          go_wp2_with fail
          go_ret
          exact ⟨ret1 (by rw [HE.out]; rfl), HK5.out⟩
        | false =>
          rw [Bool.false_or] at E
          cases b7 with
          | false =>
            rw [Bool.not_false, Bool.not_true] at E
            have HE := Lib.hid (show R = false by rw [E])
            clear E
            go_enter Try.func14, Try.ntmps14
            go_wp2_with fail
            refine (C3.out _ HB1.out).mono ?_
            rintro e u0 ⟨rfl, hb⟩
            have HK0 := Lib.hid (Below.thn HB1.out HB1.out.size hb)
            have c0 := (bcell hb).1 w.heap.size 0 hz1 |>.trans c0
            have c1 := (bcell hb).1 w.heap.size 1 hz1 |>.trans c1
            have hz1 := Nat.lt_of_lt_of_le hz1 hb.size
            clear hb
            go_wp2_with fail
            refine (C4.out _ HK0.out).mono ?_
            rintro e u1 ⟨rfl, hb⟩
            have HK1 := Lib.hid (Below.thn HK0.out HK0.out.size hb)
            have c0 := (bcell hb).1 w.heap.size 0 hz1 |>.trans c0
            have c1 := (bcell hb).1 w.heap.size 1 hz1 |>.trans c1
            have hz1 := Nat.lt_of_lt_of_le hz1 hb.size
            clear hb
            go_wp2_with fail
            refine (C5.out _ HK1.out).mono ?_
            rintro e u2 ⟨⟨v2, rfl, hv⟩, hb⟩
            have HV2 := Lib.hid hv
            clear hv
            have HK2 := Lib.hid (Below.thn HK1.out HK1.out.size hb)
            have c0 := (bcell hb).1 w.heap.size 0 hz1 |>.trans c0
            have c1 := (bcell hb).1 w.heap.size 1 hz1 |>.trans c1
            have hz1 := Nat.lt_of_lt_of_le hz1 hb.size
            clear hb
            go_wp2_with fail
            refine (C6.out _ _ (by omega) HV2.out).mono ?_
            rintro e u3 ⟨rfl, hb⟩
            have HK3 := Lib.hid (Below.thn HK2.out HK2.out.size hb)
            have c0 := (bcell hb).1 w.heap.size 0 hz1 |>.trans c0
            have c1 := (bcell hb).1 w.heap.size 1 hz1 |>.trans c1
            have hz1 := Nat.lt_of_lt_of_le hz1 hb.size
            clear hb
            go_wp2_with fail
            refine (C7.out _ HK3.out).mono ?_
            rintro e u4 ⟨⟨v4, rfl, hv⟩, hb⟩
            have HV4 := Lib.hid hv
            clear hv
            have HK4 := Lib.hid (Below.thn HK3.out HK3.out.size hb)
            have c0 := (bcell hb).1 w.heap.size 0 hz1 |>.trans c0
            have c1 := (bcell hb).1 w.heap.size 1 hz1 |>.trans c1
            have hz1 := Nat.lt_of_lt_of_le hz1 hb.size
            clear hb
            go_wp2_with fail
            refine (C8.out _ _ (by omega) HV4.out).mono ?_
            rintro e u5 ⟨rfl, hb⟩
            have HK5 := Lib.hid (Below.thn HK4.out HK4.out.size hb)
            have c0 := (bcell hb).1 w.heap.size 0 hz1 |>.trans c0
            have c1 := (bcell hb).1 w.heap.size 1 hz1 |>.trans c1
            have hz1 := Nat.lt_of_lt_of_le hz1 hb.size
            clear hb
            go_wp2_with fail
            refine (C9.out _ HK5.out).mono ?_
            rintro e u6 ⟨rfl, hb⟩
            have HK6 := Lib.hid (Below.thn HK5.out HK5.out.size hb)
            have c0 := (bcell hb).1 w.heap.size 0 hz1 |>.trans c0
            have c1 := (bcell hb).1 w.heap.size 1 hz1 |>.trans c1
            have hz1 := Nat.lt_of_lt_of_le hz1 hb.size
            clear hb
            go_wp2_with fail
            go_ret
            exact ⟨ret1 (by rw [HE.out]; rfl), HK6.out⟩
          | true =>
            rw [Bool.not_true, Bool.not_false] at E
            have HE := Lib.hid (show R = true by rw [E])
            clear E
            go_enter Try.func14, Try.ntmps14
            go_wp2_with fail
            refine (C3.out _ HB1.out).mono ?_
            rintro e u0 ⟨rfl, hb⟩
            have HK0 := Lib.hid (Below.thn HB1.out HB1.out.size hb)
            have c0 := (bcell hb).1 w.heap.size 0 hz1 |>.trans c0
            have c1 := (bcell hb).1 w.heap.size 1 hz1 |>.trans c1
            have hz1 := Nat.lt_of_lt_of_le hz1 hb.size
            clear hb
            go_wp2_with fail
            refine (C4.out _ HK0.out).mono ?_
            rintro e u1 ⟨rfl, hb⟩
            have HK1 := Lib.hid (Below.thn HK0.out HK0.out.size hb)
            have c0 := (bcell hb).1 w.heap.size 0 hz1 |>.trans c0
            have c1 := (bcell hb).1 w.heap.size 1 hz1 |>.trans c1
            have hz1 := Nat.lt_of_lt_of_le hz1 hb.size
            clear hb
            go_wp2_with fail
            refine (C5.out _ HK1.out).mono ?_
            rintro e u2 ⟨⟨v2, rfl, hv⟩, hb⟩
            have HV2 := Lib.hid hv
            clear hv
            have HK2 := Lib.hid (Below.thn HK1.out HK1.out.size hb)
            have c0 := (bcell hb).1 w.heap.size 0 hz1 |>.trans c0
            have c1 := (bcell hb).1 w.heap.size 1 hz1 |>.trans c1
            have hz1 := Nat.lt_of_lt_of_le hz1 hb.size
            clear hb
            go_wp2_with fail
            refine (C6.out _ _ (by omega) HV2.out).mono ?_
            rintro e u3 ⟨rfl, hb⟩
            have HK3 := Lib.hid (Below.thn HK2.out HK2.out.size hb)
            have c0 := (bcell hb).1 w.heap.size 0 hz1 |>.trans c0
            have c1 := (bcell hb).1 w.heap.size 1 hz1 |>.trans c1
            have hz1 := Nat.lt_of_lt_of_le hz1 hb.size
            clear hb
            go_wp2_with fail
            refine (C7.out _ HK3.out).mono ?_
            rintro e u4 ⟨⟨v4, rfl, hv⟩, hb⟩
            have HV4 := Lib.hid hv
            clear hv
            have HK4 := Lib.hid (Below.thn HK3.out HK3.out.size hb)
            have c0 := (bcell hb).1 w.heap.size 0 hz1 |>.trans c0
            have c1 := (bcell hb).1 w.heap.size 1 hz1 |>.trans c1
            have hz1 := Nat.lt_of_lt_of_le hz1 hb.size
            clear hb
            go_wp2_with fail
            refine (C8.out _ _ (by omega) HV4.out).mono ?_
            rintro e u5 ⟨rfl, hb⟩
            have HK5 := Lib.hid (Below.thn HK4.out HK4.out.size hb)
            have c0 := (bcell hb).1 w.heap.size 0 hz1 |>.trans c0
            have c1 := (bcell hb).1 w.heap.size 1 hz1 |>.trans c1
            have hz1 := Nat.lt_of_lt_of_le hz1 hb.size
            clear hb
            go_wp2_with fail
            refine (C9.out _ HK5.out).mono ?_
            rintro e u6 ⟨rfl, hb⟩
            have HK6 := Lib.hid (Below.thn HK5.out HK5.out.size hb)
            have c0 := (bcell hb).1 w.heap.size 0 hz1 |>.trans c0
            have c1 := (bcell hb).1 w.heap.size 1 hz1 |>.trans c1
            have hz1 := Nat.lt_of_lt_of_le hz1 hb.size
            clear hb
            go_wp2_with fail
            go_ret
            exact ⟨ret1 (by rw [HE.out]; rfl), HK6.out⟩
end Go.Proofs.Ytopghgoheaaceaa
