/-
  The law ObjectFound: what each call returns. Conditions: how the object lies, the names' sizes.
-/
import Derived.Test.YtopghgoheaaceaaObjQ
import Derived.Test.YtopghgoheaaceaaObjL
namespace Go.Proofs.Ytopghgoheaaceaa
open Go.RowKit
set_option linter.unusedVariables false
set_option linter.unusedSimpArgs false

theorem findL_get : ∀ {L : List BA} {s : BA} {k : Nat}, findL L s = some k → L[k]? = some s
  | [], s, k, h => by cases h
  | x :: L, s, k, h => by
    have h' : (if x = s then some 0 else (findL L s).map (· + 1)) = some k := h
    by_cases e : x = s
    · rw [if_pos e] at h'; cases h'; rw [e]; rfl
    · rw [if_neg e] at h'
      cases hf : findL L s with
      | none => rw [hf] at h'; cases h'
      | some j => rw [hf] at h'; cases h'; rw [List.getElem?_cons_succ]; exact findL_get hf
theorem findL_at {L : List BA} (hn : L.Nodup) {k : Nat} {s : BA} (h : L[k]? = some s) : findL L s = some k := by
  induction L generalizing k with
  | nil => simp at h
  | cons x L ih =>
    rw [List.nodup_cons] at hn
    show (if x = s then some 0 else (findL L s).map (· + 1)) = some k
    cases k with
    | zero => rw [List.getElem?_cons_zero] at h; cases h; rw [if_pos rfl]
    | succ k =>
      rw [List.getElem?_cons_succ] at h
      have hm : s ∈ L := List.mem_of_getElem? h
      rw [if_neg (fun e => hn.1 (by rw [e]; exact hm)), ih hn.2 h]; rfl
theorem check_nodup {o : Obj'} (h : checkB o = true) : (secNs o).Nodup ∧ (symNs o).Nodup := by
  rw [checkB_e] at h
  simp only [Bool.not_eq_true', Bool.or_eq_false_iff] at h
  obtain ⟨_, _, _, _, h1, h2, _⟩ := h
  exact ⟨by simpa [twiceL] using h1, by simpa [twiceL] using h2⟩
set_option maxRecDepth 100000 in
set_option maxHeartbeats 8000000 in
theorem found_law (o : Obj') (s : BA) (w : World) (ho : ObjO w o) (hs : Sized o) :
    Calls Try.prog 7 #[obV o, .string s] w fun e w' => e = .returned (.bool true) ∧ Below w.heap.size w w' := by
  have BG := Lib.hid (fun W => begun_any W)
  have FW := Lib.hid (fun W (hb : Below w.heap.size w W) => few_any o W (ho.keep hb))
  have FD := Lib.hid (fun n W (hb : Below w.heap.size w W) (hl : o.syms.length ≤ 281474976710656) => find_any o n W (ho.keep hb) hl)
  have SD := Lib.hid (fun n W (hb : Below w.heap.size w W) (hl : o.secs.length ≤ 281474976710656) => section_any o n W (ho.keep hb) hl)
  have CK := Lib.hid (fun W (hb : Below w.heap.size w W) => check_any o W (ho.keep hb) hs)
  have CN := Lib.hid (fun (h : checkB o = true) => check_nodup h)
  have HO := Lib.hid ho
  have hl1 := ho.1.len
  have hl2 := ho.2.len
  clear hs
  obtain ⟨sv, yv, secs, syms⟩ := o
  obtain ⟨sa, sc, h1⟩ := ho.1.slice
  obtain ⟨ya, yc, h2⟩ := ho.2.slice
  unfold maxLen at hl1 hl2
  simp only at h1 h2 hl1 hl2 FW FD SD CK CN
  subst h1 h2
  clear ho
  unfold obV at FW FD SD CK ⊢
  simp only at FW FD SD CK ⊢
  obtain ⟨W1, hW1⟩ : ∃ W1, w.alloc (.cells #[.slice sa secs.length sc, .slice ya syms.length yc] 25) = W1 := ⟨_, rfl⟩
  have HB1 : Hid (Below w.heap.size w W1) := Lib.hid (by rw [← hW1]; exact below1 w _)
  have hz1 : w.heap.size < W1.heap.size := by rw [← hW1]; simp
  have c0 : W1.cell? ⟨w.heap.size, 0, none⟩ = some (.slice sa secs.length sc) := by rw [← hW1]; exact cells_new w _ _ 0 _ rfl
  have c1 : W1.cell? ⟨w.heap.size, 1, none⟩ = some (.slice ya syms.length yc) := by rw [← hW1]; exact cells_new w _ _ 1 _ rfl
  go_enter Try.func7, Try.ntmps7
  go_wp2_with fail
  clear hW1
  refine (BG.out _).mono ?_
  rintro e w2 ⟨rfl, hb⟩
  have HB2 := Lib.hid (Below.thn HB1.out HB1.out.size hb)
  have c0 := (bcell hb).1 w.heap.size 0 hz1 |>.trans c0
  have c1 := (bcell hb).1 w.heap.size 1 hz1 |>.trans c1
  have hz1 := Nat.lt_of_lt_of_le hz1 hb.size
  clear hb
  go_wp2_with fail
  refine (FW.out _ HB2.out).mono ?_
  rintro e w3 ⟨rfl, hb⟩
  have HB3 := Lib.hid (Below.thn HB2.out HB2.out.size hb)
  have c0 := (bcell hb).1 w.heap.size 0 hz1 |>.trans c0
  have c1 := (bcell hb).1 w.heap.size 1 hz1 |>.trans c1
  have hz1 := Nat.lt_of_lt_of_le hz1 hb.size
  clear hb
  obtain ⟨few, hfew⟩ : ∃ b, (decide ((secs.length : Int) ≤ 80) && decide ((syms.length : Int) ≤ 300)) = b := ⟨_, rfl⟩
  rw [hfew]
  cases few with
  | false =>
    clear hfew
    go_wp2_with fail
    refine (BG.out _).mono ?_
    rintro e w4 ⟨rfl, hb⟩
    have HB4 := Lib.hid (Below.thn HB3.out HB3.out.size hb)
    clear hb
    go_wp2_with fail
    go_ret
    exact ⟨rfl, HB4.out⟩
  | true =>
    rw [Bool.and_eq_true, decide_eq_true_eq, decide_eq_true_eq] at hfew
    obtain ⟨hf1, hf2⟩ := hfew
    go_wp2_with fail
    refine (FD.out _ _ HB3.out (by omega)).mono ?_
    rintro e w4 ⟨rfl, hb⟩
    have HB4 := Lib.hid (Below.thn HB3.out HB3.out.size hb)
    have c0 := (bcell hb).1 w.heap.size 0 hz1 |>.trans c0
    have c1 := (bcell hb).1 w.heap.size 1 hz1 |>.trans c1
    have hz1 := Nat.lt_of_lt_of_le hz1 hb.size
    clear hb
    obtain ⟨FR, hFR⟩ : ∃ r, findL (syms.map (·.name)) s = r := ⟨_, rfl⟩
    rw [hFR]
    cases FR with
    | none =>
      clear hFR
      unfold findO
      go_wp2_with fail
      refine (CK.out _ HB4.out).mono ?_
      rintro e w5 ⟨rfl, hb⟩
      have HB5 := Lib.hid (Below.thn HB4.out HB4.out.size hb)
      have c0 := (bcell hb).1 w.heap.size 0 hz1 |>.trans c0
      have c1 := (bcell hb).1 w.heap.size 1 hz1 |>.trans c1
      have hz1 := Nat.lt_of_lt_of_le hz1 hb.size
      clear hb
      cases hcb : checkB ⟨.slice sa secs.length sc, .slice ya syms.length yc, secs, syms⟩ with
      | false =>
        unfold errI
        go_wp2_with fail
        go_ret
        exact ⟨rfl, HB5.out⟩
      | true =>
        have NDs : Hid (secs.map (·.name)).Nodup := Lib.hid (CN.out hcb).1
        have NDy : Hid (syms.map (·.name)).Nodup := Lib.hid (CN.out hcb).2
        clear hcb
        unfold errI
        go_wp2_with fail
        go_loopw [57] (fun iv wr => ∃ k : Nat, k ≤ syms.length ∧ iv = .int .i64 (k : Int) ∧ Hid (Below w5.heap.size w5 wr)) (fun iv _ => syms.length - (intOf iv).toNat)
        case atStart => exact ⟨0, Nat.zero_le _, rfl, Lib.hid (Below.refl _ _)⟩
        case round =>
          obtain ⟨k, hk, rfl, hbr⟩ := hrel
          have c0 := (bcell hbr.out).1 w.heap.size 0 hz1 |>.trans c0
          have c1 := (bcell hbr.out).1 w.heap.size 1 hz1 |>.trans c1
          have hz1 := Nat.lt_of_lt_of_le hz1 hbr.out.size
          have HBR := Lib.hid (Below.thn HB5.out HB5.out.size hbr.out)
          by_cases hlt : (k : Int) < (syms.length : Int)
          · have hlt' : k < syms.length := by omega
            obtain ⟨g, off, cap, x, hx, hv, hg, x0, x1, x2, x3⟩ := (HO.out.keep HBR.out).2.at hlt'
            cases hv
            have w9 : IntKind.i64.wrap ((k : Int) + 1) = ((k + 1 : Nat) : Int) := by rw [IntWalk.i64_in _ (by omega)]; omega
            have FX := Lib.hid (fun W hb hl => FD.out x.name W hb hl)
            have hfx : findL (syms.map (·.name)) x.name = some k := findL_at NDy.out (by rw [List.getElem?_map, hx]; rfl)
            rw [hfx] at FX
            unfold findO at FX
            obtain ⟨name, sec, val, gl⟩ := x
            simp only at x0 x1 x2 x3 FX
            clear hx hfx
            have HBX := Lib.hid (HBR.out.alloc HBR.out.size (.cells #[.string name, .int .i64 sec, .int .i64 val, .bool gl] 36))
            have HBY := Lib.hid (hbr.out.alloc hbr.out.size (.cells #[.string name, .int .i64 sec, .int .i64 val, .bool gl] 36))
            go_wp2_with fail
            refine (FX.out _ HBX.out (by omega)).mono ?_
            rintro e w7 ⟨rfl, hb⟩
            have HB7 := Lib.hid (Below.thn HBY.out HBY.out.size hb)
            clear hb
            go_wp2_with fail
            go_roundw
            case rel => exact ⟨k + 1, by omega, by first | rfl | rw [← w9], HB7⟩
            case measure => simp [intOf]; omega
          · go_wp2_with fail
            clear hbr hk hlt
            go_loopw [80] (fun iv wr2 => ∃ k : Nat, k ≤ secs.length ∧ iv = .int .i64 (k : Int) ∧ Hid (Below wr.heap.size wr wr2)) (fun iv _ => secs.length - (intOf iv).toNat)
            case atStart => exact ⟨0, Nat.zero_le _, rfl, Lib.hid (Below.refl _ _)⟩
            case round =>
              obtain ⟨k, hk, rfl, hbr⟩ := hrel
              have c0 := (bcell hbr.out).1 w.heap.size 0 hz1 |>.trans c0
              have c1 := (bcell hbr.out).1 w.heap.size 1 hz1 |>.trans c1
              have hz1 := Nat.lt_of_lt_of_le hz1 hbr.out.size
              have HBR := Lib.hid (Below.thn HBR.out HBR.out.size hbr.out)
              by_cases hlt : (k : Int) < (secs.length : Int)
              · have hlt' : k < secs.length := by omega
                obtain ⟨g, off, cap, x, hx, hv, hg, hin, x0, x1, x2, x3, x4, x5⟩ := (HO.out.keep HBR.out).1.at hlt'
                cases hv
                have w9 : IntKind.i64.wrap ((k : Int) + 1) = ((k + 1 : Nat) : Int) := by rw [IntWalk.i64_in _ (by omega)]; omega
                have FX := Lib.hid (fun W hb hl => SD.out x.name W hb hl)
                have hfx : findL (secs.map (·.name)) x.name = some k := findL_at NDs.out (by rw [List.getElem?_map, hx]; rfl)
                rw [hfx] at FX
                unfold findO at FX
                obtain ⟨ad, cd, hd⟩ := hin.1.slice
                obtain ⟨ar, cr, hr⟩ := hin.2.slice
                obtain ⟨name, kind, align, size, dv, rv, data, rel⟩ := x
                simp only at hd hr x0 x1 x2 x3 x4 x5 FX
                subst hd hr
                clear hin
                clear hx hfx
                have HBX := Lib.hid (HBR.out.alloc HBR.out.size (.cells #[.string name, .int .i64 kind, .int .i64 align, .int .i64 size, .slice ad data.length cd, .slice ar rel.length cr] 40))
                have HBY := Lib.hid (hbr.out.alloc hbr.out.size (.cells #[.string name, .int .i64 kind, .int .i64 align, .int .i64 size, .slice ad data.length cd, .slice ar rel.length cr] 40))
                go_wp2_with fail
                refine (FX.out _ HBX.out (by omega)).mono ?_
                rintro e w7 ⟨rfl, hb⟩
                have HB7 := Lib.hid (Below.thn HBY.out HBY.out.size hb)
                clear hb
                go_wp2_with fail
                go_roundw
                case rel => exact ⟨k + 1, by omega, by first | rfl | rw [← w9], HB7⟩
                case measure => simp [intOf]; omega
              · go_wp2_with fail
                go_ret
                exact ⟨rfl, HBR.out⟩
    | some q =>
      have hq := findL_get hFR
      rw [List.getElem?_map] at hq
      have hql : q < syms.length := by
        rcases Nat.lt_or_ge q syms.length with h | h
        · exact h
        · rw [List.getElem?_eq_none h] at hq; cases hq
      obtain ⟨g0, off0, cap0, y, hy, hv, hg0, y0, y1, y2, y3⟩ := (HO.out.keep HB4.out).2.at hql
      cases hv
      rw [hy] at hq
      simp only [Option.map_some, Option.some.injEq] at hq
      rw [hq] at y0
      have hqi : (q : Int) < (syms.length : Int) := by omega
      have hqn : decide ((syms.length : Int) ≤ (q : Int)) = false := by rw [decide_eq_false_iff_not]; omega
      have hqm : decide (syms.length ≤ q) = false := by rw [decide_eq_false_iff_not]; omega
      have hq0 : decide ((q : Int) < 0) = false := by rw [decide_eq_false_iff_not]; omega
      clear hFR hq hy y1 y2 y3
      unfold findO
      go_wp2_with fail
      refine (CK.out _ HB4.out).mono ?_
      rintro e w5 ⟨rfl, hb⟩
      have HB5 := Lib.hid (Below.thn HB4.out HB4.out.size hb)
      have c0 := (bcell hb).1 w.heap.size 0 hz1 |>.trans c0
      have c1 := (bcell hb).1 w.heap.size 1 hz1 |>.trans c1
      have hz1 := Nat.lt_of_lt_of_le hz1 hb.size
      clear hb
      cases hcb : checkB ⟨.slice sa secs.length sc, .slice (some ⟨g0, off0, none⟩) syms.length yc, secs, syms⟩ with
      | false =>
        unfold errI
        go_wp2_with fail
        go_ret
        exact ⟨rfl, HB5.out⟩
      | true =>
        have NDs : Hid (secs.map (·.name)).Nodup := Lib.hid (CN.out hcb).1
        have NDy : Hid (syms.map (·.name)).Nodup := Lib.hid (CN.out hcb).2
        clear hcb
        unfold errI
        go_wp2_with fail
        go_loopw [57] (fun iv wr => ∃ k : Nat, k ≤ syms.length ∧ iv = .int .i64 (k : Int) ∧ Hid (Below w5.heap.size w5 wr)) (fun iv _ => syms.length - (intOf iv).toNat)
        case atStart => exact ⟨0, Nat.zero_le _, rfl, Lib.hid (Below.refl _ _)⟩
        case round =>
          obtain ⟨k, hk, rfl, hbr⟩ := hrel
          have c0 := (bcell hbr.out).1 w.heap.size 0 hz1 |>.trans c0
          have c1 := (bcell hbr.out).1 w.heap.size 1 hz1 |>.trans c1
          have hz1 := Nat.lt_of_lt_of_le hz1 hbr.out.size
          have HBR := Lib.hid (Below.thn HB5.out HB5.out.size hbr.out)
          by_cases hlt : (k : Int) < (syms.length : Int)
          · have hlt' : k < syms.length := by omega
            obtain ⟨g, off, cap, x, hx, hv, hg, x0, x1, x2, x3⟩ := (HO.out.keep HBR.out).2.at hlt'
            cases hv
            have w9 : IntKind.i64.wrap ((k : Int) + 1) = ((k + 1 : Nat) : Int) := by rw [IntWalk.i64_in _ (by omega)]; omega
            have FX := Lib.hid (fun W hb hl => FD.out x.name W hb hl)
            have hfx : findL (syms.map (·.name)) x.name = some k := findL_at NDy.out (by rw [List.getElem?_map, hx]; rfl)
            rw [hfx] at FX
            unfold findO at FX
            obtain ⟨name, sec, val, gl⟩ := x
            simp only at x0 x1 x2 x3 FX
            clear hx hfx
            have HBX := Lib.hid (HBR.out.alloc HBR.out.size (.cells #[.string name, .int .i64 sec, .int .i64 val, .bool gl] 36))
            have HBY := Lib.hid (hbr.out.alloc hbr.out.size (.cells #[.string name, .int .i64 sec, .int .i64 val, .bool gl] 36))
            go_wp2_with fail
            refine (FX.out _ HBX.out (by omega)).mono ?_
            rintro e w7 ⟨rfl, hb⟩
            have HB7 := Lib.hid (Below.thn HBY.out HBY.out.size hb)
            clear hb
            go_wp2_with fail
            go_roundw
            case rel => exact ⟨k + 1, by omega, by first | rfl | rw [← w9], HB7⟩
            case measure => simp [intOf]; omega
          · go_wp2_with fail
            clear hbr hk hlt
            go_loopw [80] (fun iv wr2 => ∃ k : Nat, k ≤ secs.length ∧ iv = .int .i64 (k : Int) ∧ Hid (Below wr.heap.size wr wr2)) (fun iv _ => secs.length - (intOf iv).toNat)
            case atStart => exact ⟨0, Nat.zero_le _, rfl, Lib.hid (Below.refl _ _)⟩
            case round =>
              obtain ⟨k, hk, rfl, hbr⟩ := hrel
              have c0 := (bcell hbr.out).1 w.heap.size 0 hz1 |>.trans c0
              have c1 := (bcell hbr.out).1 w.heap.size 1 hz1 |>.trans c1
              have hz1 := Nat.lt_of_lt_of_le hz1 hbr.out.size
              have HBR := Lib.hid (Below.thn HBR.out HBR.out.size hbr.out)
              by_cases hlt : (k : Int) < (secs.length : Int)
              · have hlt' : k < secs.length := by omega
                obtain ⟨g, off, cap, x, hx, hv, hg, hin, x0, x1, x2, x3, x4, x5⟩ := (HO.out.keep HBR.out).1.at hlt'
                cases hv
                have w9 : IntKind.i64.wrap ((k : Int) + 1) = ((k + 1 : Nat) : Int) := by rw [IntWalk.i64_in _ (by omega)]; omega
                have FX := Lib.hid (fun W hb hl => SD.out x.name W hb hl)
                have hfx : findL (secs.map (·.name)) x.name = some k := findL_at NDs.out (by rw [List.getElem?_map, hx]; rfl)
                rw [hfx] at FX
                unfold findO at FX
                obtain ⟨ad, cd, hd⟩ := hin.1.slice
                obtain ⟨ar, cr, hr⟩ := hin.2.slice
                obtain ⟨name, kind, align, size, dv, rv, data, rel⟩ := x
                simp only at hd hr x0 x1 x2 x3 x4 x5 FX
                subst hd hr
                clear hin
                clear hx hfx
                have HBX := Lib.hid (HBR.out.alloc HBR.out.size (.cells #[.string name, .int .i64 kind, .int .i64 align, .int .i64 size, .slice ad data.length cd, .slice ar rel.length cr] 40))
                have HBY := Lib.hid (hbr.out.alloc hbr.out.size (.cells #[.string name, .int .i64 kind, .int .i64 align, .int .i64 size, .slice ad data.length cd, .slice ar rel.length cr] 40))
                go_wp2_with fail
                refine (FX.out _ HBX.out (by omega)).mono ?_
                rintro e w7 ⟨rfl, hb⟩
                have HB7 := Lib.hid (Below.thn HBY.out HBY.out.size hb)
                clear hb
                go_wp2_with fail
                go_roundw
                case rel => exact ⟨k + 1, by omega, by first | rfl | rw [← w9], HB7⟩
                case measure => simp [intOf]; omega
              · go_wp2_with fail
                go_ret
                exact ⟨rfl, HBR.out⟩
end Go.Proofs.Ytopghgoheaaceaa
