/-
  The document's quotes: what each call returns. Conditions: a text of at most 4096 bytes that is not empty.
-/
import Derived.Test.YtjmdcimfmmfinaaDoorLexRefB
import Derived.Test.YtjmdcimfmmfinaaDoorLexM
import Derived.Test.YtjmdcimfmmfinaaDoorLexQ
namespace Go.Proofs.YtjmdcimfmmfinaaDoor
open Go.RowKit

def QOut (o : Option (Bs × Nat)) : Ending := match o with
  | some (b, n) => .returned (.tuple #[.string ⟨b.toArray⟩, .int .i64 ((n + 1 : Nat) : Int)])
  | none => .returned (.tuple #[.string ⟨#[]⟩, .int .i64 0])
theorem drop_cons_get {s : ByteArray} {k : Nat} (h : k < s.size) : s.data.toList.drop k = s[k] :: s.data.toList.drop (k + 1) := by
  rw [List.drop_eq_getElem_cons (by rw [← size_list]; exact h), get_list h]
theorem bytes_snoc (l : Bs) (d : UInt8) : Lib.byteCells (l ++ [d]) = Lib.byteCells l ++ [.int .u8 (d.toNat : Int)] := by simp [Lib.byteCells]
theorem index_any {s : ByteArray} {j : Nat} {i : Int} {e : UInt8} (hj : j < s.size) (hi : i = (j : Int)) (he : s[j] = e) (w : World) : (Instr.index 9 (.string s) (.int .i64 i)).run Tryd.prog w = .ok (.int .u8 (e.toNat : Int)) w := by
  subst hi he
  simp [go_sem, Instr.index, hj]
theorem step_call_eq {P : Program} {w : World} {ops : Array Oper} {o : Oper} {a : Act} {K : Act → World → Prop} {Q : Exit → Act → World → Prop} {E : Prop} (hgd : o.guard = none) (f : FuncId) (x : Operand) (T : TypeId)
    (ho : o.op = .call { callee := .value (.func f), args := #[x], argTypes := #[T] }) (u v : Value) (hx : a.eval x = u) (hf : ∀ args w, (callFunc f args).run P w = .ok (.enter f args) w)
    (H : Calls P f #[u] w fun e w' => e = .returned v ∧ w = w') (h : K (a.put o.dst v) w) :
    if Region.wanted o (yielded ops a.tmps) = true then Oper.wp P o a w K Q else E := by
  have hw : Region.wanted o (yielded ops a.tmps) = true := by simp [Region.wanted, hgd]
  rw [if_pos hw]
  unfold Oper.wp execOp
  simp only [ho, resolve, invoke, Sem.run_bind, Sem.run_pure, Result.andThen_ok, List.map_toArray, List.map_cons, List.map_nil, go_sem, hf]
  change Calls P f (#[] ++ #[a.eval x] ++ #[]) w _
  rw [hx]
  exact H.mono (by rintro _ _ ⟨rfl, rfl⟩; exact h)
theorem enters_hex : ∀ args w, (callFunc 61 args).run Tryd.prog w = .ok (.enter 61 args) w := enters_of Tryd.func61 (by kernel_rfl) rfl
theorem cells_newD (w : World) (l : List Value) (t : TypeId) : ∀ (j : Nat) (v : Value), l[j]? = some v → ((w.alloc (.cells l.toArray t)).drew).cell? ((⟨w.heap.size, 0, none⟩ : Addr).add j) = some v := fun j v h => cells_new w l t j v h
theorem conv_nil (w : World) : (convert 48 9 (.slice none 0 0)).run Tryd.prog w = .ok (.string ⟨#[]⟩) w := by kernel_rfl
set_option maxRecDepth 100000 in
set_option maxHeartbeats 4000000 in
theorem rquotes_doc (s : ByteArray) (w : World) (hs : s.size ≤ 4096) (h1 : 1 ≤ s.size) :
    Calls Tryd.prog 34 #[.string s] w fun e w' => e = QOut (unq (s.data.toList.drop 1)) ∧ Below w.heap.size w w' := by
  obtain ⟨i0, hi, hz0, hz1, hz2⟩ := info_parts infoByte
  have X := Lib.hid (fun c w => rhex_any c w)
  have G := Lib.hid (fun c w => rlong_any c w)
  go_enter Tryd.func34, Tryd.ntmps34
  go_wp2_with fail
  go_loopw [4, 5] (fun bv iv wr => ∃ (k : Nat) (acc : Bs), 1 ≤ k ∧ k ≤ s.size ∧ iv = .int .i64 (k : Int) ∧ wr.ownsRow w.heap.size 5 1 bv acc.length (Lib.byteCells acc) ∧ acc.length ≤ k ∧ (acc = [] → bv = .slice none 0 0) ∧ Hid (unq (s.data.toList.drop 1) = (unq (s.data.toList.drop k)).map fun x => (acc ++ x.1, (k - 1) + x.2)) ∧ Below w.heap.size w wr) (fun _ iv _ => s.size - (intOf iv).toNat)
  case atStart => exact ⟨1, [], Nat.le_refl _, h1, rfl, World.ownsRow_nil _ _ _ _, Nat.zero_le _, fun _ => rfl, Lib.hid (by cases unq (s.data.toList.drop 1) <;> simp), Below.refl _ _⟩
  case round =>
    obtain ⟨k, acc, hk1, hk, rfl, hown, hacc, hnil, hrel, hbr⟩ := hrel
    by_cases hlt : k < s.size
    · have hd := drop_cons_get hlt
      obtain ⟨d, hdd⟩ : ∃ d, s[k] = d := ⟨_, rfl⟩
      have n1 := d.toNat_lt
      have hlt' : (k : Int) < (s.size : Int) := by omega
      have w1 : IntKind.i64.wrap ((k : Int) + 1) = ((k + 1 : Nat) : Int) := by rw [IntWalk.i64_in _ (by omega)]; omega
      by_cases h34 : d = 34
      · subst h34
        have R := Lib.hid (show unq (s.data.toList.drop 1) = some (acc, k) by
          rw [hrel.out, hd, hdd, unq_end]; simp; omega)
        have HB := Lib.hid hbr
        by_cases ha : acc = []
        · subst ha
          obtain rfl := hnil rfl
          have CN := conv_nil
          clear hd hnil hown hrel hbr
          go_wp2_with fail
          go_ret2
          exact ⟨by first | (rw [R.out]; rfl) | (rw [← List.drop_one, R.out]; rfl), HB.out⟩
        · have CR := fun w' (h : wr = w') => conv_row hown rfl ha
          clear hd hnil hown hrel hbr
          go_wp2_with fail
          go_ret2
          exact ⟨by first | (rw [R.out]; rfl) | (rw [← List.drop_one, R.out]; rfl), HB.out⟩
      · by_cases h92 : d = 92
        · subst h92
          have HB := Lib.hid hbr
          have hbw := hbr.size
          by_cases hk2 : k + 1 < s.size
          · have he := drop_cons_get hk2
            obtain ⟨e, hee⟩ : ∃ e, s[k + 1] = e := ⟨_, rfl⟩
            have I1 := fun w => index_any (i := (k : Int) + 1) hk2 (by simp) hee w
            have GE := Lib.hid (fun w => G.out e w)
            have k2' : (k : Int) + 1 < (s.size : Int) := by omega
            rw [hee] at he
            cases hb : byteOf e with
            | some b =>
              have hw : within1 (92 :: s.data.toList.drop (k + 1)) = some (b, 2) := by rw [he]; unfold within1; simp [hb]
              have R := Lib.hid (show unq (s.data.toList.drop 1) = (unq (s.data.toList.drop (k + 2))).map fun x => (acc ++ [b] ++ x.1, (k + 2 - 1) + x.2) by
                rw [hrel.out, hd, hdd, unq_step (by decide) hw, he, List.drop_succ_cons, List.drop_succ_cons, List.drop_zero]
                cases unq (s.data.toList.drop (k + 1 + 1)) with
                | none => rfl
                | some x => simp; omega)
              have hJ : longJ e = (b.toNat : Int) := by unfold longJ; rw [hb]
              rw [hJ] at GE
              have bl := b.toNat_lt
              have wb : IntKind.u8.wrap (b.toNat : Int) = (b.toNat : Int) := by rw [IntKind.wrap_u8]; omega
              have w2 : IntKind.i64.wrap ((k : Int) + 1 + 1) = ((k + 2 : Nat) : Int) := by rw [IntWalk.i64_in _ (by omega)]; omega
              clear hd hnil hrel hbr hw he hb h34 hee hJ
              go_wp2_with fail
              refine (GE.out _).mono ?_
              rintro e' w' ⟨rfl, rfl⟩
              go_wp2_with fail
              refine (GE.out _).mono ?_
              rintro e' w' ⟨rfl, rfl⟩
              go_wp2_with (at_builtin; refine wpList_append_own _ rfl _ _ 48 rfl w.heap.size 5 i0 (.int .u8 0) 1 1 Tryd.underlying48 hi hz0 hz1 hz2 rfl (by decide) _ _ _ rfl (hown.alloc _) ⟨wr.heap.size, 0, none⟩ 1 1 [.int .u8 (b.toNat : Int)] rfl rfl (cells_new _ _ _) (by simp [Value.oneCell']) (by unfold maxLen; omega) (by omega) (by simp; omega) ?_; intro v' w1' hown' hgrow _)
              have hB2 := (HB.out.alloc hbw _).grown hgrow (by simp; omega) (fun j hj => (hown.lt j hj).1)
              exact ⟨⟨k + 2, acc ++ [b], by omega, by omega, by first | rfl | rw [← w2] | simp, by rw [List.length_append, bytes_snoc]; exact hown', by simp; omega, fun h => by simp at h, R, hB2⟩, by simp [intOf]; omega⟩
            | none =>
              have hJ : longJ e = -1 := by unfold longJ; rw [hb]
              rw [hJ] at GE
              by_cases hk4 : k + 3 < s.size
              · have hk3 : k + 2 < s.size := by omega
                have ha := drop_cons_get hk3
                have hc := drop_cons_get hk4
                obtain ⟨x1, hx1⟩ : ∃ x, s[k + 2] = x := ⟨_, rfl⟩
                obtain ⟨x2, hx2⟩ : ∃ x, s[k + 3] = x := ⟨_, rfl⟩
                rw [hx1] at ha
                rw [hx2] at hc
                have hW : within1 (92 :: s.data.toList.drop (k + 1)) = if e = 120 then (match hexV x1, hexV x2 with
                    | some a, some b => some (UInt8.ofNat (16 * a + b), 4)
                    | _, _ => none) else none := by
                  rw [he, show s.data.toList.drop (k + 1 + 1) = x1 :: x2 :: s.data.toList.drop (k + 3 + 1) by rw [ha, hc]]
                  unfold within1; simp only [hb, if_true]
                  by_cases hx : e = 120
                  · rw [if_pos hx, if_pos hx]
                    cases hexV x1 <;> cases hexV x2 <;> rfl
                  · rw [if_neg hx, if_neg hx]
                have I2 := fun w => index_any (i := (k : Int) + 2) hk3 (by simp) hx1 w
                have I3 := fun w => index_any (i := (k : Int) + 3) hk4 (by simp) hx2 w
                have k4' : (k : Int) + 3 < (s.size : Int) := by omega
                have w3 : IntKind.i64.wrap ((k : Int) + 2) = ((k : Int) + 2) := IntWalk.i64_in _ (by omega)
                have w4 : IntKind.i64.wrap ((k : Int) + 3) = ((k : Int) + 3) := IntWalk.i64_in _ (by omega)
                by_cases hx : e = 120
                · subst hx
                  rw [if_pos rfl] at hW
                  have X1 := Lib.hid (fun w => X.out x1 w)
                  have X2 := Lib.hid (fun w => X.out x2 w)
                  cases h1 : hexV x1 with
                  | none =>
                    rw [h1] at hW
                    have R := Lib.hid (show unq (s.data.toList.drop 1) = none by rw [hrel.out, hd, hdd, unq_none (by decide) hW]; rfl)
                    rw [show hexJ x1 = -1 by unfold hexJ; rw [h1]] at X1
                    clear hd hnil hrel hbr hW he hb h34 hee hJ ha hc hx1 hx2 h1 X2
                    go_wp2_with fail
                    refine (GE.out _).mono ?_
                    rintro e' w' ⟨rfl, rfl⟩
                    go_wp2_with fail
                    refine (X1.out _).mono ?_
                    rintro e' w' ⟨rfl, rfl⟩
                    go_wp2_with fail
                    go_ret2
                    exact ⟨by first | (rw [R.out]; rfl) | (rw [← List.drop_one, R.out]; rfl), HB.out⟩
                  | some a =>
                    rw [show hexJ x1 = (a : Int) by unfold hexJ; rw [h1]] at X1
                    have ha0 : ¬ ((a : Int) < 0) := by omega
                    cases h2 : hexV x2 with
                    | none =>
                      rw [h1, h2] at hW
                      have R := Lib.hid (show unq (s.data.toList.drop 1) = none by rw [hrel.out, hd, hdd, unq_none (by decide) hW]; rfl)
                      rw [show hexJ x2 = -1 by unfold hexJ; rw [h2]] at X2
                      clear hd hnil hrel hbr hW he hb h34 hee hJ ha hc hx1 hx2 h1 h2
                      go_wp2_with fail
                      refine (GE.out _).mono ?_
                      rintro e' w' ⟨rfl, rfl⟩
                      go_wp2_with fail
                      refine (X1.out _).mono ?_
                      rintro e' w' ⟨rfl, rfl⟩
                      go_wp2_with fail
                      refine (X2.out _).mono ?_
                      rintro e' w' ⟨rfl, rfl⟩
                      go_wp2_with fail
                      go_ret2
                      exact ⟨by first | (rw [R.out]; rfl) | (rw [← List.drop_one, R.out]; rfl), HB.out⟩
                    | some b =>
                      rw [h1, h2] at hW
                      have hal := hexV_lt h1
                      have hbl := hexV_lt h2
                      have R := Lib.hid (show unq (s.data.toList.drop 1) = (unq (s.data.toList.drop (k + 4))).map fun x => (acc ++ [UInt8.ofNat (16 * a + b)] ++ x.1, (k + 4 - 1) + x.2) by
                        rw [hrel.out, hd, hdd, unq_step (by decide) hW, he, show s.data.toList.drop (k + 1 + 1) = x1 :: x2 :: s.data.toList.drop (k + 3 + 1) by rw [ha, hc], List.drop_succ_cons, List.drop_succ_cons, List.drop_succ_cons, List.drop_succ_cons, List.drop_zero]
                        cases unq (s.data.toList.drop (k + 3 + 1)) with
                        | none => rfl
                        | some x => simp; omega)
                      rw [show hexJ x2 = (b : Int) by unfold hexJ; rw [h2]] at X2
                      have hb0 : ¬ ((b : Int) < 0) := by omega
                      have v1 : IntKind.i64.wrap (16 * (a : Int)) = ((16 * a : Nat) : Int) := by rw [IntWalk.i64_in _ (by omega)]; omega
                      have v2 : IntKind.i64.wrap (((16 * a : Nat) : Int) + (b : Int)) = ((16 * a + b : Nat) : Int) := by rw [IntWalk.i64_in _ (by omega)]; omega
                      have v3 : IntKind.u8.wrap ((16 * a + b : Nat) : Int) = ((UInt8.ofNat (16 * a + b)).toNat : Int) := by
                        rw [IntKind.wrap_u8, UInt8.toNat_ofNat']; omega
                      clear hd hnil hrel hbr hW he hb h34 hee hJ ha hc hx1 hx2 h1 h2
                      go_wp2_with fail
                      refine (GE.out _).mono ?_
                      rintro e' w' ⟨rfl, rfl⟩
                      go_wp2_with fail
                      refine (X1.out _).mono ?_
                      rintro e' w' ⟨rfl, rfl⟩
                      go_wp2_with fail
                      refine (X2.out _).mono ?_
                      rintro e' w' ⟨rfl, rfl⟩
                      go_wp2_with fail
                      clear GE
                      obtain ⟨z, hz⟩ : ∃ z, UInt8.ofNat (16 * a + b) = z := ⟨_, rfl⟩
                      rw [hz] at v3 R
                      have V : IntKind.u8.wrap (IntKind.i64.wrap (IntKind.i64.wrap (16 * (a : Int)) + (b : Int))) = (z.toNat : Int) := by
                        rw [v1, v2, v3]
                      have w5 : IntKind.i64.wrap ((k : Int) + 3 + 1) = ((k + 4 : Nat) : Int) := by rw [IntWalk.i64_in _ (by omega)]; omega
                      clear v1 v2 v3
                      go_region_law (first | (refine step_call_eq (by rfl) 61 (.tmp 90) 5 (by rfl) _ _ (by rfl) enters_hex (X1.out _) ?_) | (refine step_call_eq (by rfl) 61 (.tmp 96) 5 (by rfl) _ _ (by rfl) enters_hex (X2.out _) ?_) | (refine step_append_lies _ (by rfl) (.tmp 86) (.tmp 100) 48 (by rfl) w.heap.size 5 i0 (.int .u8 0) 1 1 Tryd.underlying48 hi hz0 hz1 hz2 (by rfl) (by decide) _ _ _ (by rfl) (hown.drew.alloc _) ⟨wr.heap.size, 0, none⟩ 1 1 [.int .u8 (z.toNat : Int)] (by rfl) (by rfl) (by first | exact cells_new _ _ _ | exact cells_newD _ _ _) (by simp [Value.oneCell']) (by decide) (by unfold maxLen; omega) (by omega) (by simp; omega) _ (by rfl) ?_; intro g cap w1' hown' hgrow _ _))
                      all_goals
                        have hB2 := ((HB.out.alloc hbw (.cells #[.int .u8 (z.toNat : Int)] 5)).drew).grown hgrow (by simp; omega) (fun j hj => (hown.lt j hj).1)
                        go_wp2_with fail
                        exact ⟨⟨k + 4, acc ++ [z], by omega, by omega, by first | rfl | rw [← w5] | (simp; omega), by rw [List.length_append, bytes_snoc]; exact hown', by simp; omega, fun h => by simp at h, R, hB2⟩, by simp [intOf]; omega⟩
                · have R := Lib.hid (show unq (s.data.toList.drop 1) = none by rw [hrel.out, hd, hdd, unq_none (by decide) (by rw [hW, if_neg hx])]; rfl)
                  have hx' : ((e.toNat : Int) != 120) = true := by
                    have : e.toNat ≠ 120 := fun h => hx (UInt8.toNat_inj.1 h)
                    simp; omega
                  clear hd hnil hrel hbr hW he hb h34 hee hJ ha hc hx1 hx2 hx
                  go_wp2_with fail
                  refine (GE.out _).mono ?_
                  rintro e' w' ⟨rfl, rfl⟩
                  go_wp2_with fail
                  go_ret2
                  exact ⟨by first | (rw [R.out]; rfl) | (rw [← List.drop_one, R.out]; rfl), HB.out⟩
              · have hw : within1 (92 :: s.data.toList.drop (k + 1)) = none := by
                  rw [he]; unfold within1; simp only [hb]
                  have hl : (s.data.toList.drop (k + 1 + 1)).length ≤ 1 := by rw [List.length_drop, ← size_list]; omega
                  by_cases hx : e = 120
                  · simp only [hx, if_true]
                    match s.data.toList.drop (k + 1 + 1), hl with
                    | [], _ => rfl
                    | [_], _ => rfl
                    | _ :: _ :: _, h => simp at h
                  · simp [hx]
                have R := Lib.hid (show unq (s.data.toList.drop 1) = none by rw [hrel.out, hd, hdd, unq_none (by decide) hw]; rfl)
                have k4' : (s.size : Int) ≤ (k : Int) + 3 := by omega
                clear hd hnil hrel hbr hw he hb h34 hee hJ
                go_wp2_with fail
                refine (GE.out _).mono ?_
                rintro e' w' ⟨rfl, rfl⟩
                go_wp2_with fail
                go_ret2
                exact ⟨by first | (rw [R.out]; rfl) | (rw [← List.drop_one, R.out]; rfl), HB.out⟩
          · have he : s.data.toList.drop (k + 1) = [] := List.drop_eq_nil_of_le (by rw [← size_list]; omega)
            have hw : within1 (92 :: s.data.toList.drop (k + 1)) = none := by rw [he]; rfl
            have R := Lib.hid (show unq (s.data.toList.drop 1) = none by rw [hrel.out, hd, hdd, unq_none (by decide) hw]; rfl)
            have k2' : (s.size : Int) ≤ (k : Int) + 1 := by omega
            have k4' : (s.size : Int) ≤ (k : Int) + 3 := by omega
            clear hd hnil hrel hbr hw he h34
            go_wp2_with fail
            go_ret2
            exact ⟨by first | (rw [R.out]; rfl) | (rw [← List.drop_one, R.out]; rfl), HB.out⟩
        · have f34 : ((d.toNat : Int) == 34) = false := by
            have : d.toNat ≠ 34 := fun e => h34 (UInt8.toNat_inj.1 e)
            simp; omega
          have f92 : ((d.toNat : Int) != 92) = true := by
            have : d.toNat ≠ 92 := fun e => h92 (UInt8.toNat_inj.1 e)
            simp; omega
          have HB := Lib.hid hbr
          cases hst : stands d 34 with
          | false =>
            have hw : within1 (d :: s.data.toList.drop (k + 1)) = none := by unfold within1; simp [h92, hst]
            have R := Lib.hid (show unq (s.data.toList.drop 1) = none by rw [hrel.out, hd, hdd, unq_none h34 hw]; rfl)
            have hcl : (d.toNat : Int) < 32 ∨ 126 < (d.toNat : Int) := by
              have := stands_int d 34
              rw [hst] at this
              have e : ((34 : UInt8).toNat : Int) = 34 := rfl
              rw [e] at this
              simp only [Bool.and_eq_false_iff, decide_eq_false_iff_not, bne_eq_false_iff_eq] at this
              have h3 : d.toNat ≠ 34 := fun e => h34 (UInt8.toNat_inj.1 e)
              have h9 : d.toNat ≠ 92 := fun e => h92 (UInt8.toNat_inj.1 e)
              omega
            clear hd hnil hown hrel hbr hw hst h34 h92
            rcases hcl with hcl | hcl
            · go_wp2_with fail
              go_ret2
              exact ⟨by first | (rw [R.out]; rfl) | (rw [← List.drop_one, R.out]; rfl), HB.out⟩
            · have hcl2 : 32 ≤ (d.toNat : Int) := by omega
              go_wp2_with fail
              go_ret2
              exact ⟨by first | (rw [R.out]; rfl) | (rw [← List.drop_one, R.out]; rfl), HB.out⟩
          | true =>
            have hw : within1 (d :: s.data.toList.drop (k + 1)) = some (d, 1) := by unfold within1; simp [h92, hst]
            have R := Lib.hid (show unq (s.data.toList.drop 1) = (unq (s.data.toList.drop (k + 1))).map fun x => (acc ++ [d] ++ x.1, (k + 1 - 1) + x.2) by
              rw [hrel.out, hd, hdd, unq_step h34 hw, List.drop_succ_cons, List.drop_zero]
              cases unq (s.data.toList.drop (k + 1)) with
              | none => rfl
              | some x => simp; omega)
            obtain ⟨f32, f126⟩ : 32 ≤ (d.toNat : Int) ∧ (d.toNat : Int) ≤ 126 := by
              have := stands_int d 34
              rw [hst] at this
              simp only [Bool.and_eq_true, decide_eq_true_eq] at this
              exact ⟨this.1.1.1, this.1.1.2⟩
            have hbw := hbr.size
            clear hd hnil hrel hbr hw hst h34 h92
            go_wp2_with (at_builtin; refine wpList_append_own _ rfl _ _ 48 rfl w.heap.size 5 i0 (.int .u8 0) 1 1 Tryd.underlying48 hi hz0 hz1 hz2 rfl (by decide) _ _ _ rfl (hown.alloc _) ⟨wr.heap.size, 0, none⟩ 1 1 [.int .u8 (d.toNat : Int)] rfl rfl (cells_new _ _ _) (by simp [Value.oneCell']) (by unfold maxLen; omega) (by omega) (by simp; omega) ?_; intro v' w1' hown' hgrow _)
            have hB2 := (HB.out.alloc hbw _).grown hgrow (by simp; omega) (fun j hj => (hown.lt j hj).1)
            exact ⟨⟨k + 1, acc ++ [d], by omega, by omega, by simp, by rw [List.length_append, bytes_snoc]; exact hown', by simp; omega, fun h => by simp at h, R, hB2⟩, by simp [intOf]; omega⟩
    · have R := Lib.hid (show unq (s.data.toList.drop 1) = none by
        rw [hrel.out, List.drop_eq_nil_of_le (by rw [← size_list]; omega)]; rfl)
      have HB := Lib.hid hbr
      have hlt' : (s.size : Int) ≤ (k : Int) := by omega
      clear hnil hown hrel hbr
      go_wp2_with fail
      go_ret2
      exact ⟨by first | (rw [R.out]; rfl) | (rw [← List.drop_one, R.out]; rfl), HB.out⟩
end Go.Proofs.YtjmdcimfmmfinaaDoor
