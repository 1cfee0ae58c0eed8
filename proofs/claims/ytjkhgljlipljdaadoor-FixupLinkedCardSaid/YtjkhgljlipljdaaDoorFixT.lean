/-
  What each call of the law's address returns. Conditions: how the symbols and the rows of addresses lie.
-/
import Derived.Test.YtjkhgljlipljdaaDoorFixOpen
namespace Go.Proofs.YtjkhgljlipljdaaDoor
open Go.RowKit
set_option linter.unusedVariables false
set_option linter.unusedSimpArgs false

def NusO (W : World) (v : Value) (L : List Int) : Prop := RowsO 1 W v (L.map nuC)
theorem NusO.keep {W W' : World} {v : Value} {L : List Int} (h : NusO W v L) (hb : Below W.heap.size W W') : NusO W' v L := RowsO.keep h hb
theorem NusO.slice {W : World} {v : Value} {L : List Int} (h : NusO W v L) : ∃ a c, v = .slice a L.length c := by
  obtain ⟨a, c, e⟩ := RowsO.slice h; exact ⟨a, c, by rw [e, List.length_map]⟩
theorem NusO.len {W : World} {v : Value} {L : List Int} (h : NusO W v L) : L.length ≤ maxLen := by have := RowsO.len h; rwa [List.length_map] at this
theorem NusO.at {W : World} {v : Value} {L : List Int} (h : NusO W v L) {k : Nat} (hk : k < L.length) : ∃ g off cap x, L[k]? = some x ∧ v = .slice (some ⟨g, off, none⟩) L.length cap ∧ g < W.heap.size ∧
    W.cell? ⟨g, off + k, none⟩ = some (.int .i64 x) := by
  obtain ⟨s, hs⟩ : ∃ s, L[k]? = some s := ⟨_, List.getElem?_eq_getElem hk⟩
  obtain ⟨g, off, cap, e, hg, hc⟩ := RowsO.at h (k := k) (x := nuC s) (by rw [List.getElem?_map, hs]; rfl)
  exact ⟨g, off, cap, s, hs, by rw [e, List.length_map], hg, by have := hc 0 _ rfl; rwa [Nat.mul_one, Nat.add_zero] at this⟩
/-- where a section is -/
def atI (S : List Int) (sec : Int) : Int := if sec < 0 then 0 else S.getD (sec.toNat % S.length) 0
set_option maxHeartbeats 2000000 in
theorem at_any (S : List Int) (sv : Value) (sec : Int) (B : Nat) (w : World) (hB : w.cell? ⟨B, 0, none⟩ = some sv) (hS : NusO w sv S) :
    Calls Tryd.prog 61 #[.int .i64 sec, .pointer (some ⟨B, 0, none⟩)] w fun e w' => e = .returned (.int .i64 (atI S sec)) ∧ ∃ n, w' = w.drewN n := by
  obtain ⟨sa, sc, rfl⟩ := hS.slice
  have hlm := hS.len
  unfold maxLen at hlm
  by_cases h0 : sec < 0
  · have e : atI S sec = 0 := by unfold atI; rw [if_pos h0]
    rw [e]
    clear hS e
    go_enter Tryd.func61, Tryd.ntmps61
    go_wp2_with fail
    go_ret
    exact ⟨rfl, 0, rfl⟩
  · have e : atI S sec = S.getD (sec.toNat % S.length) 0 := by unfold atI; rw [if_neg h0]
    rw [e]
    by_cases hn : S.length = 0
    · obtain rfl : S = [] := List.length_eq_zero_iff.1 hn
      clear hS e
      go_enter Tryd.func61, Tryd.ntmps61
      go_wp2_with fail
      go_ret
      exact ⟨rfl, 0, rfl⟩
    · obtain ⟨q, rfl⟩ : ∃ q : Nat, sec = (q : Int) := ⟨sec.toNat, by omega⟩
      have hq : q % S.length < S.length := Nat.mod_lt _ (by omega)
      obtain ⟨g, off, cap, x, hx, hv, hg, xc⟩ := hS.at hq
      cases hv
      have ex : S.getD ((q : Int).toNat % S.length) 0 = x := by rw [Int.toNat_natCast, List.getD_eq_getElem?_getD, hx]; rfl
      rw [ex]
      have hm : ((q : Int) % (S.length : Int)) = ((q % S.length : Nat) : Int) := by omega
      have n0 : ((S.length : Int) == 0) = false := not_beq (by omega)
      have n1 : ¬ (S.length : Int) = 0 := by omega
      generalize q % S.length = j at *
      have q0 : (0 : Int) ≤ (j : Int) := by omega
      have q1 : (j : Int) < (S.length : Int) := by omega
      clear hS e ex hx hn
      go_enter Tryd.func61, Tryd.ntmps61
      go_wp2_with fail
      go_quiet (fail)
      go_wp2_with fail
      go_ret
      exact ⟨rfl, nq, rfl⟩
/-- where a name is -/
def adrH (S E : List Int) : Option (Nat × Sy) → Int × Bool
  | some (i, y) => (if y.sec = -1 then E.getD (i % E.length) 0 else wrap64 (atI S y.sec + y.val), true)
  | none => (0, false)
def adr (S E : List Int) (sec off : Int) (L : List Sy) (nm : BA) : Int × Bool :=
  if nm = ⟨#[]⟩ then (0, true) else if nm = dotB then (wrap64 (atI S sec + off), true) else adrH S E (lookF nm 0 L)
theorem quiet_ex {P : Program} {f : FuncId} {args : Array Value} {w : World} {n : Nat} {v : Value} (h : Calls P f args (w.drewN n) fun e w' => e = .returned v ∧ ∃ m, w' = (w.drewN n).drewN m) :
    Calls P f args (w.drewN n) fun e w'' => e = .returned v ∧ ∃ m, w'' = w.drewN m :=
  h.mono fun _ _ ⟨a, m, b⟩ => ⟨a, n + m, by rw [b]; simp [World.drewN_drewN]⟩
set_option maxRecDepth 10000 in
set_option maxHeartbeats 4000000 in
theorem address_any (h : Hl) (sec off : Int) (sv u1 u2 : Value) (L : List Sy) (S E : List Int) (nm : BA) (w : World) (hS : SymsO w sv L) (h1 : NusO w u1 S) (h2 : NusO w u2 E) :
    Calls Tryd.prog 31 #[.string nm, csV h sec off sv, u1, u2] w fun e w' => e = .returned (.tuple #[.int .i64 (adr S E sec off L nm).1, .bool (adr S E sec off L nm).2]) ∧ Below w.heap.size w w' := by
  obtain ⟨sa, sc, rfl⟩ := hS.slice
  obtain ⟨ua, uc, rfl⟩ := h1.slice
  obtain ⟨ea, ec, rfl⟩ := h2.slice
  have hlm := hS.len
  have hle := h2.len
  unfold maxLen at hlm hle
  obtain ⟨k, s, a, p, m⟩ := h
  unfold csV
  simp only
  unfold adr
  by_cases c0 : nm = ⟨#[]⟩
  · subst c0
    rw [if_pos rfl]
    clear hS h1 h2
    go_enter Tryd.func31, Tryd.ntmps31
    go_wp2_with fail
    go_returns
    exact ⟨rfl, below2 w _ _⟩
  rw [if_neg c0]
  by_cases c1 : nm = dotB
  · subst c1
    rw [if_pos rfl]
    have AT := Lib.hid (fun B W (hb : Below w.heap.size w W) hB => at_any S _ sec B W hB (h1.keep hb))
    generalize atI S sec = A at *
    clear hS h1 h2 c0
    unfold dotB
    go_enter Tryd.func31, Tryd.ntmps31
    go_wp2_with fail
    have hB0 := below2 w (.cells #[.int .i64 k, .int .i64 s, .int .i64 a, .string p, .string m, .int .i64 sec, .int .i64 off, .slice sa L.length sc] 44) (.cells #[.slice ua S.length uc] 63)
    have g1 := heap_new21 w (.cells #[.int .i64 k, .int .i64 s, .int .i64 a, .string p, .string m, .int .i64 sec, .int .i64 off, .slice sa L.length sc] 44) (.cells #[.slice ua S.length uc] 63)
    have g2 := heap_new2 w (.cells #[.int .i64 k, .int .i64 s, .int .i64 a, .string p, .string m, .int .i64 sec, .int .i64 off, .slice sa L.length sc] 44) (.cells #[.slice ua S.length uc] 63)
    generalize ((w.alloc (.cells #[.int .i64 k, .int .i64 s, .int .i64 a, .string p, .string m, .int .i64 sec, .int .i64 off, .slice sa L.length sc] 44)).alloc (.cells #[.slice ua S.length uc] 63)) = W0 at *
    obtain ⟨x0, x1, x2, x3, x4, x5, x6, x7⟩ := eight g1
    have y0 := Lib.cell_of_heap g2 0
    have AT2 := Lib.hid (fun n => AT.out (w.heap.size + 1) (W0.drewN n) (below_drewN hB0 n) (by simpa using y0))
    have HB := Lib.hid hB0
    clear hB0 g1 g2
    go_quiet (exact quiet_ex (AT2.out _))
    go_wp2_with fail
    go_returns
    exact ⟨rfl, below_drewN HB.out _⟩
  rw [if_neg c1]
  have b0 : (nm.toList == []) = false := by have := str_no (t := ⟨#[]⟩) c0; rw [ByteArray.toList_eq ⟨#[]⟩] at this; exact this
  have b1 : (nm.toList == [46]) = false := by have := str_no (t := ⟨#[46]⟩) c1; rw [ByteArray.toList_eq ⟨#[46]⟩] at this; exact this
  obtain ⟨R, hR⟩ : ∃ R, adrH S E (lookF nm 0 L) = R := ⟨_, rfl⟩
  rw [hR]
  have HRR := Lib.hid hR
  have HS := Lib.hid (fun W (hb : Below w.heap.size w W) => hS.keep hb)
  have HE := Lib.hid (fun W (hb : Below w.heap.size w W) => h2.keep hb)
  have AT := Lib.hid (fun x B W (hb : Below w.heap.size w W) hB => at_any S _ x B W hB (h1.keep hb))
  clear hR c0 c1 hS h1 h2
  go_enter Tryd.func31, Tryd.ntmps31
  go_wp2_with fail
  have hB0 := below2 w (.cells #[.int .i64 k, .int .i64 s, .int .i64 a, .string p, .string m, .int .i64 sec, .int .i64 off, .slice sa L.length sc] 44) (.cells #[.slice ua S.length uc] 63)
  have g1 := heap_new21 w (.cells #[.int .i64 k, .int .i64 s, .int .i64 a, .string p, .string m, .int .i64 sec, .int .i64 off, .slice sa L.length sc] 44) (.cells #[.slice ua S.length uc] 63)
  have g2 := heap_new2 w (.cells #[.int .i64 k, .int .i64 s, .int .i64 a, .string p, .string m, .int .i64 sec, .int .i64 off, .slice sa L.length sc] 44) (.cells #[.slice ua S.length uc] 63)
  generalize ((w.alloc (.cells #[.int .i64 k, .int .i64 s, .int .i64 a, .string p, .string m, .int .i64 sec, .int .i64 off, .slice sa L.length sc] 44)).alloc (.cells #[.slice ua S.length uc] 63)) = W0 at *
  obtain ⟨x0, x1, x2, x3, x4, x5, x6, x7⟩ := eight g1
  have HB := Lib.hid hB0
  have HZ := Lib.hid (heap_lt g2)
  have y0 := Lib.cell_of_heap g2 0
  clear hB0 g1 g2
  go_wp2_with fail
  go_loopw [28] (fun iv wr => ∃ j : Nat, j ≤ L.length ∧ iv = .int .i64 (j : Int) ∧ Hid (Below W0.heap.size W0 wr) ∧ Hid (lookF nm j (L.drop j) = lookF nm 0 L)) (fun iv _ => L.length - (intOf iv).toNat)
  case atStart => exact ⟨0, Nat.zero_le _, rfl, Lib.hid (Below.refl _ _), Lib.hid rfl⟩
  case round =>
    obtain ⟨j, hj, rfl, HW, HK⟩ := hrel
    have HBW := Lib.hid (Below.thn HB.out HB.out.size HW.out)
    have y0' := cell_kept HW.out y0
    by_cases hlt : (j : Int) < (L.length : Int)
    · have hlt' : j < L.length := by omega
      obtain ⟨g, off2, cap, y, hy, hv, hg, z0, z1, z2, z3⟩ := (HS.out _ HBW.out).at hlt'
      cases hv
      have w9 : IntKind.i64.wrap ((j : Int) + 1) = ((j + 1 : Nat) : Int) := by rw [IntWalk.i64_in _ (by omega)]; omega
      have q0 : (0 : Int) ≤ (j : Int) := by omega
      have HBN := Lib.hid (HW.out.alloc HW.out.size (.cells #[.string y.name, .int .i64 y.sec, .int .i64 y.val, .bool y.gl] 67))
      have HBN2 := Lib.hid (HBW.out.alloc HBW.out.size (.cells #[.string y.name, .int .i64 y.sec, .int .i64 y.val, .bool y.gl] 67))
      have hzr : W0.heap.size ≤ wr.heap.size := HW.out.size
      have zn : w.heap.size + 1 < wr.heap.size := Nat.lt_of_lt_of_le HZ.out hzr
      by_cases hn : y.name = nm
      · have e : (y.name.toList == nm.toList) = true := by rw [hn]; exact str_yes nm
        have HIT := Lib.hid (show R = ((if y.sec = -1 then E.getD (j % E.length) 0 else wrap64 (atI S y.sec + y.val)), true) by rw [← HRR.out, lookF_hit hy hn HK.out]; rfl)
        clear hn hy
        obtain ⟨yn, ys, yv, yg⟩ := y
        simp only at z0 z1 z2 z3 e HIT HBN HBN2
        by_cases hs1 : ys = -1
        · subst hs1
          have HIT2 := Lib.hid (show R = (E.getD (j % E.length) 0, true) from HIT.out)
          clear HIT
          by_cases he0 : E.length = 0
          · have he1 : (E.length : Int) = 0 := by omega
            have e0 : ((E.length : Int) == 0) = true := by rw [he1]; rfl
            have HIT3 := Lib.hid (show R = (0, true) by rw [HIT2.out, List.length_eq_zero_iff.1 he0]; rfl)
            clear HIT2 he0 he1
            go_wp2_with fail
            go_returns
            exact ⟨by rw [HIT3.out]; rfl, HBN2.out⟩
          · have e0 : ((E.length : Int) == 0) = false := not_beq (by omega)
            have e1 : ¬ (E.length : Int) = 0 := by omega
            have hq : j % E.length < E.length := Nat.mod_lt _ (by omega)
            obtain ⟨g3, off3, cap3, x, hx, hv, hg3, xc⟩ := (HE.out _ HBW.out).at hq
            cases hv
            have HIT3 := Lib.hid (show R = (x, true) by rw [HIT2.out, List.getD_eq_getElem?_getD, hx]; rfl)
            have hm : ((j : Int) % (E.length : Int)) = ((j % E.length : Nat) : Int) := by omega
            clear HIT2 he0 hx
            generalize j % E.length = jj at *
            have r0 : (0 : Int) ≤ (jj : Int) := by omega
            have r1 : (jj : Int) < (E.length : Int) := by omega
            go_wp2_with fail
            go_returns
            exact ⟨by rw [HIT3.out]; rfl, HBN2.out⟩
        · have e0 : (ys == -1) = false := not_beq hs1
          have HIT2 := Lib.hid (show R = (wrap64 (atI S ys + yv), true) by rw [HIT.out, if_neg hs1])
          have AT3 := Lib.hid (fun n => AT.out ys (w.heap.size + 1) ((wr.alloc (.cells #[.string yn, .int .i64 ys, .int .i64 yv, .bool yg] 67)).drewN n) (below_drewN HBN2.out n) (by
            have := cell_kept (below1 wr (.cells #[.string yn, .int .i64 ys, .int .i64 yv, .bool yg] 67)) y0'
            simpa using this))
          generalize atI S ys = A at *
          clear HIT hs1
          go_wp2_with fail
          go_quiet (exact quiet_ex (AT3.out _))
          go_wp2_with fail
          go_returns
          exact ⟨by rw [HIT2.out]; rfl, below_drewN HBN2.out _⟩
      · have e := str_no hn
        have HN := Lib.hid (lookF_step hy hn HK.out)
        obtain ⟨yn, ys, yv, yg⟩ := y
        simp only at z0 z1 z2 z3 e HBN HBN2
        clear hn hy
        go_wp2_with fail
        go_roundw
        case rel => exact ⟨j + 1, by omega, by first | rfl | rw [← w9], HBN, HN⟩
        case measure => simp [intOf]; omega
    · have hN := Lib.hid (show R = (0, false) by rw [← HRR.out, ← HK.out, List.drop_eq_nil_of_le (by omega)]; rfl)
      go_wp2_with fail
      go_returns
      exact ⟨by rw [hN.out]; rfl, HBW.out⟩
end Go.Proofs.YtjkhgljlipljdaaDoor
