/-
  The law ObjectChecks: what each call returns. Conditions: how the object lies, the names' sizes.
-/
import Derived.Test.YtopghgoheaaceaaObjQ
import Derived.Test.YtopghgoheaaceaaObjU
namespace Go.Proofs.Ytopghgoheaaceaa
open Go.RowKit
set_option linter.unusedVariables false
set_option linter.unusedSimpArgs false

set_option maxRecDepth 100000 in
set_option maxHeartbeats 8000000 in
theorem checks_law (o : Obj') (n : BA) (k : Int) (w : World) (ho : ObjO w o) (hs : Sized o) (hn : n.size ≤ 281474976710656) :
    Calls Try.prog 3 #[obV o, .string n, .int .i64 k] w fun e w' => e = .returned (.bool true) ∧ Below w.heap.size w w' := by
  have BG := Lib.hid (fun W => begun_any W)
  have K1 := Lib.hid (fun W => kind_any n W hn)
  have K2 := Lib.hid (fun W => rkind_any n W hn)
  have D1 := Lib.hid (fun W => width_any k W)
  have D2 := Lib.hid (fun W => rwidth_any k W)
  have FW := Lib.hid (fun W (hb : Below w.heap.size w W) => few_any o W (ho.keep hb))
  have CK := Lib.hid (fun W (hb : Below w.heap.size w W) => check_any o W (ho.keep hb) hs)
  have RK := Lib.hid (fun W (hb : Below w.heap.size w W) => rcheck_any o W (ho.keep hb) hs)
  rw [doc_check] at RK
  generalize kindB n = KK at *
  generalize widthB k = WW at *
  generalize errI (checkB o) = EE at *
  generalize (decide ((o.secs.length : Int) ≤ 80) && decide ((o.syms.length : Int) ≤ 300)) = few at *
  clear hs hn
  obtain ⟨sv, yv, secs, syms⟩ := o
  obtain ⟨sa, sc, h1⟩ := ho.1.slice
  obtain ⟨ya, yc, h2⟩ := ho.2.slice
  simp only at h1 h2
  subst h1 h2
  clear ho
  unfold obV at FW CK RK ⊢
  simp only at FW CK RK ⊢
  obtain ⟨W1, hW1⟩ : ∃ W1, w.alloc (.cells #[.slice sa secs.length sc, .slice ya syms.length yc] 25) = W1 := ⟨_, rfl⟩
  have HB1 : Hid (Below w.heap.size w W1) := Lib.hid (by rw [← hW1]; exact below1 w _)
  have c0 : W1.cell? ⟨w.heap.size, 0, none⟩ = some (.slice sa secs.length sc) := by rw [← hW1]; exact cells_new w _ _ 0 _ rfl
  have c1 : W1.cell? ⟨w.heap.size, 1, none⟩ = some (.slice ya syms.length yc) := by rw [← hW1]; exact cells_new w _ _ 1 _ rfl
  have q0 := fun p : BW W1 => bw_cell c0 p
  have q1 := fun p : BW W1 => bw_cell c1 p
  cases few
  · go_enter Try.func3, Try.ntmps3
    go_wp2_with fail
    clear c0 c1 hW1
    refine wp_region_below (by kernel_rfl) (by kernel_rfl) ?_
    iterate 28
      (refine hq_step ?_
       intro K hK
       go_simp
       first
         | (refine hK _ ?_
            clear hK K)
         | (apply Exists.intro
            refine ⟨fun _ => ?_, hK _ ?_⟩
            (first | exact calls_bw (BG.out _) | exact calls_bw_same (K1.out _) | exact calls_bw_same (K2.out _) | exact calls_bw_same (D1.out _) | exact calls_bw_same (D2.out _) | (go_at_call 13; exact calls_bw (FW.out _ (Below.thn HB1.out HB1.out.size (BW.h _)))) | (go_at_call 14; exact calls_bw (CK.out _ (Below.thn HB1.out HB1.out.size (BW.h _)))) | (go_at_call 15; exact calls_bw (RK.out _ (Below.thn HB1.out HB1.out.size (BW.h _)))))
            clear hK K))
    refine hq_nil ?_
    rintro _ ⟨pq, rfl⟩
    have HP := Lib.hid pq.h
    go_wp2_with fail
    go_ret
    exact ⟨ret1b (by simp), Below.thn HB1.out HB1.out.size HP.out⟩
  · go_enter Try.func3, Try.ntmps3
    go_wp2_with fail
    clear c0 c1 hW1
    refine wp_region_below (by kernel_rfl) (by kernel_rfl) ?_
    iterate 28
      (refine hq_step ?_
       intro K hK
       go_simp
       first
         | (refine hK _ ?_
            clear hK K)
         | (apply Exists.intro
            refine ⟨fun _ => ?_, hK _ ?_⟩
            (first | exact calls_bw (BG.out _) | exact calls_bw_same (K1.out _) | exact calls_bw_same (K2.out _) | exact calls_bw_same (D1.out _) | exact calls_bw_same (D2.out _) | (go_at_call 13; exact calls_bw (FW.out _ (Below.thn HB1.out HB1.out.size (BW.h _)))) | (go_at_call 14; exact calls_bw (CK.out _ (Below.thn HB1.out HB1.out.size (BW.h _)))) | (go_at_call 15; exact calls_bw (RK.out _ (Below.thn HB1.out HB1.out.size (BW.h _)))))
            clear hK K))
    refine hq_nil ?_
    rintro _ ⟨pq, rfl⟩
    have HP := Lib.hid pq.h
    go_wp2_with fail
    go_ret
    exact ⟨ret1b (by simp), Below.thn HB1.out HB1.out.size HP.out⟩
end Go.Proofs.Ytopghgoheaaceaa
