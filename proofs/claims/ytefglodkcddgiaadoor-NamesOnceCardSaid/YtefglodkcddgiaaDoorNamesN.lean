/-
  What each call of systemNumber returns: the number of a form of numbers. Conditions: what the package-level variables hold (Good), and a text of fewer than 2^32 - 15 letters.
-/
import Derived.Test.YtefglodkcddgiaaDoorNamesM
namespace Go.Proofs.YtefglodkcddgiaaDoor
open Go.RowKit Go.Shelf

theorem splitB_len (s : ByteArray) : (Lib.splitB ⟨#[95]⟩ 0 (Lib.countB s ⟨#[95]⟩) s).length = Lib.countB s ⟨#[95]⟩ + 1 := Lib.splitB_all ⟨#[95]⟩ (by decide) 0 _ s rfl
theorem splitB_count (s : ByteArray) : Lib.countB s ⟨#[95]⟩ + 1 = (spl s.data.toList).length := by
  rw [← splitB_len, ← splitB_spl, List.length_map]
theorem cells_at (w : World) (L : List ByteArray) (t : TypeId) (j : Nat) (x : ByteArray) (h : L[j]? = some x) : (w.alloc (.cells (L.map Value.string).toArray t)).cell? ⟨w.heap.size, j, none⟩ = some (.string x) := by
  have := World.alloc_heap_new w (.cells (L.map Value.string).toArray t)
  unfold World.cell?
  simp only [this]
  simp [h]
theorem trim_size {x T : ByteArray} {p : List UInt8} (hT : T.data.toList = Lib.trimPrefix x.data.toList p) : T.size ≤ x.size := by
  show T.data.size ≤ x.data.size
  rw [← Array.length_toList, ← Array.length_toList, hT]
  unfold Lib.trimPrefix; split
  · rw [List.length_drop]; omega
  · exact Nat.le_refl _
theorem i64_or_nat (a b : Nat) (ha : a < 4611686018427387904) (hb : b < 4611686018427387904) : bits .or .i64 (a : Int) (b : Int) = ((a ||| b : Nat) : Int) := by
  have h1 : (BitVec.ofInt 64 (a : Int)).toNat = a := by rw [BitVec.ofInt_natCast, BitVec.toNat_ofNat]; exact Nat.mod_eq_of_lt (by omega)
  have h2 : (BitVec.ofInt 64 (b : Int)).toNat = b := by rw [BitVec.ofInt_natCast, BitVec.toNat_ofNat]; exact Nat.mod_eq_of_lt (by omega)
  show IntKind.i64.wrap ((BitVec.ofInt 64 (a : Int) ||| BitVec.ofInt 64 (b : Int)).toNat : Int) = _
  have e : 2 ^ 62 = 4611686018427387904 := by decide
  have := Nat.or_lt_two_pow (x := a) (y := b) (n := 62) (by rw [e]; exact ha) (by rw [e]; exact hb)
  rw [e] at this
  rw [BitVec.toNat_or, h1, h2, IntWalk.i64_in _ (by omega)]
theorem or_add {n v : Nat} (b : Nat) (hn : n * 2 ^ b < 1000000) (hv : v < 2 ^ b) (hb : 2 ^ b ≤ 1000000) : bits .or .i64 ((n * 2 ^ b : Nat) : Int) (v : Int) = ((n * 2 ^ b + v : Nat) : Int) := by
  have h := Nat.two_pow_add_eq_or_of_lt (i := b) (b := v) hv n
  rw [Nat.mul_comm] at h
  rw [i64_or_nat _ _ (by omega) (by omega), h]
theorem spl_len : ∀ (s : List UInt8), ∀ p ∈ spl s, p.length ≤ s.length
  | [], p, h => by simp [spl] at h; subst h; simp
  | c :: r, p, h => by
    have ih := spl_len r
    have hn := spl_ne r
    unfold spl at h
    split at h
    · rcases List.mem_cons.1 h with rfl | h
      · simp
      · have := ih p h; simp; omega
    · revert ih hn h
      cases spl r with
      | nil => intro _ hn; exact absurd rfl hn
      | cons q qs =>
        intro ih _ h
        rcases List.mem_cons.1 h with rfl | h
        · have := ih q (by simp); simp; omega
        · have := ih p (by simp [h]); simp; omega
theorem part_0 (w : World) : (Instr.index 66 (.agg #[.string ⟨#[115]⟩, .int .i64 2, .int .i64 1, .string ⟨#[]⟩, .int .i64 0, .int .i64 3, .string ⟨#[99]⟩, .int .i64 0, .int .i64 4, .string ⟨#[99]⟩, .int .i64 0, .int .i64 4, .string ⟨#[]⟩, .int .i64 0, .int .i64 3]) (.int .i64 0)).run Tryd.prog w = .ok (.agg #[.string ⟨#[115]⟩, .int .i64 2, .int .i64 1]) w := by kernel_rfl
theorem part_1 (w : World) : (Instr.index 66 (.agg #[.string ⟨#[115]⟩, .int .i64 2, .int .i64 1, .string ⟨#[]⟩, .int .i64 0, .int .i64 3, .string ⟨#[99]⟩, .int .i64 0, .int .i64 4, .string ⟨#[99]⟩, .int .i64 0, .int .i64 4, .string ⟨#[]⟩, .int .i64 0, .int .i64 3]) (.int .i64 1)).run Tryd.prog w = .ok (.agg #[.string ⟨#[]⟩, .int .i64 0, .int .i64 3]) w := by kernel_rfl
theorem part_2 (w : World) : (Instr.index 66 (.agg #[.string ⟨#[115]⟩, .int .i64 2, .int .i64 1, .string ⟨#[]⟩, .int .i64 0, .int .i64 3, .string ⟨#[99]⟩, .int .i64 0, .int .i64 4, .string ⟨#[99]⟩, .int .i64 0, .int .i64 4, .string ⟨#[]⟩, .int .i64 0, .int .i64 3]) (.int .i64 2)).run Tryd.prog w = .ok (.agg #[.string ⟨#[99]⟩, .int .i64 0, .int .i64 4]) w := by kernel_rfl
theorem part_3 (w : World) : (Instr.index 66 (.agg #[.string ⟨#[115]⟩, .int .i64 2, .int .i64 1, .string ⟨#[]⟩, .int .i64 0, .int .i64 3, .string ⟨#[99]⟩, .int .i64 0, .int .i64 4, .string ⟨#[99]⟩, .int .i64 0, .int .i64 4, .string ⟨#[]⟩, .int .i64 0, .int .i64 3]) (.int .i64 3)).run Tryd.prog w = .ok (.agg #[.string ⟨#[99]⟩, .int .i64 0, .int .i64 4]) w := by kernel_rfl
theorem part_4 (w : World) : (Instr.index 66 (.agg #[.string ⟨#[115]⟩, .int .i64 2, .int .i64 1, .string ⟨#[]⟩, .int .i64 0, .int .i64 3, .string ⟨#[99]⟩, .int .i64 0, .int .i64 4, .string ⟨#[99]⟩, .int .i64 0, .int .i64 4, .string ⟨#[]⟩, .int .i64 0, .int .i64 3]) (.int .i64 4)).run Tryd.prog w = .ok (.agg #[.string ⟨#[]⟩, .int .i64 0, .int .i64 3]) w := by kernel_rfl
theorem cutp (x p : ByteArray) (b : Bool) (T : ByteArray) (hb : Lib.hasPrefix x.data.toList p.data.toList = b) (hT : T.data.toList = Lib.trimPrefix x.data.toList p.data.toList) (w : World) (n : Nat) :
    Calls Tryd.prog 40 #[.string x, .string p] (w.drewN n) fun e w'' => e = .returned (.tuple #[.string T, .bool b]) ∧ ∃ m, w'' = w.drewN m := by
  refine quiet_eq ((Tryd.strings_CutPrefix x p _).mono ?_)
  rintro e w' ⟨rfl, rfl⟩
  rw [hb, ← hT]
  exact ⟨by rw [show (⟨T.data.toList.toArray⟩ : ByteArray) = T from bytes_eq rfl], rfl⟩
theorem s_keep {w1 W W' : World} {B : Nat} {u v : Value} (hb : Below W.heap.size W W') (h : (W.cell? ⟨B, 1, none⟩ = some u ∧ W.cell? ⟨B, 2, none⟩ = some v) ∧ B < W.heap.size ∧ Good W ∧ Below w1.heap.size w1 W) :
    (W'.cell? ⟨B, 1, none⟩ = some u ∧ W'.cell? ⟨B, 2, none⟩ = some v) ∧ B < W'.heap.size ∧ Good W' ∧ Below w1.heap.size w1 W' := by
  obtain ⟨⟨a, b⟩, c, d, e⟩ := h
  refine ⟨⟨((bcell hb).1 B 1 c).trans a, ((bcell hb).1 B 2 c).trans b⟩, Nat.lt_of_lt_of_le c hb.size, d.thn hb, Below.thn e e.size hb⟩
theorem s_good {w1 W : World} {B : Nat} {u v : Value} (h : (W.cell? ⟨B, 1, none⟩ = some u ∧ W.cell? ⟨B, 2, none⟩ = some v) ∧ B < W.heap.size ∧ Good W ∧ Below w1.heap.size w1 W) : Good W := h.2.2.1
theorem s_drew {w1 W : World} {B : Nat} {u v : Value} (h : (W.cell? ⟨B, 1, none⟩ = some u ∧ W.cell? ⟨B, 2, none⟩ = some v) ∧ B < W.heap.size ∧ Good W ∧ Below w1.heap.size w1 W) :
    (W.drew.cell? ⟨B, 1, none⟩ = some u ∧ W.drew.cell? ⟨B, 2, none⟩ = some v) ∧ B < W.drew.heap.size ∧ Good W.drew ∧ Below w1.heap.size w1 W.drew := s_keep (Below.refl _ _).drew h
theorem s_new {w1 wr : World} (u0 u v : Value) (t : TypeId) (nq : Nat) (hG : Good wr) (hb : Below w1.heap.size w1 wr) :
    (((wr.alloc (.cells #[u0, u, v] t)).drewN nq).cell? ⟨wr.heap.size, 1, none⟩ = some u ∧ ((wr.alloc (.cells #[u0, u, v] t)).drewN nq).cell? ⟨wr.heap.size, 2, none⟩ = some v) ∧ wr.heap.size < ((wr.alloc (.cells #[u0, u, v] t)).drewN nq).heap.size ∧ Good ((wr.alloc (.cells #[u0, u, v] t)).drewN nq) ∧ Below w1.heap.size w1 ((wr.alloc (.cells #[u0, u, v] t)).drewN nq) := by
  have hb1 : Below wr.heap.size wr ((wr.alloc (.cells #[u0, u, v] t)).drewN nq) := below_drewN ((Below.refl _ _).alloc (Nat.le_refl _) _) nq
  have hn : ((wr.alloc (.cells #[u0, u, v] t)).drewN nq).heap = (wr.alloc (.cells #[u0, u, v] t)).heap := rfl
  have hh := World.alloc_heap_new wr (.cells #[u0, u, v] t)
  refine ⟨⟨?_, ?_⟩, by rw [hn]; simp, hG.thn hb1, Below.thn hb hb.size hb1⟩
  · unfold World.cell?; rw [hn]; simp only [hh]; rfl
  · unfold World.cell?; rw [hn]; simp only [hh]; rfl
set_option maxHeartbeats 1000000 in
theorem sysNo_len (s : ByteArray) (w : World) (hG : Good w) (hs : s.size < 4294967281) (h : (spl s.data.toList).length ≠ 5) :
    Calls Tryd.prog 29 #[.string s] w fun e w' => e = numOut (sysLook s.data.toList) ∧ Below w.heap.size w w' := by
  obtain ⟨m, hm⟩ := hG.most
  have SP := Lib.hid (Tryd.strings_Split s ⟨#[95]⟩ m w hs hm (by decide))
  rw [sysLook_len h]
  rw [← splitB_count] at h
  obtain ⟨N, hN⟩ : ∃ N, Lib.countB s ⟨#[95]⟩ + 1 = N := ⟨_, rfl⟩
  rw [hN] at SP h
  have h' : ((N : Int) != 5) = true := by rw [bne_iff_ne]; omega
  clear h hm hG hs hN
  generalize Lib.splitB ⟨#[95]⟩ 0 (Lib.countB s ⟨#[95]⟩) s = L at *
  go_enter Tryd.func29, Tryd.ntmps29
  go_wp2_with fail
  refine SP.out.mono ?_
  rintro e w1 ⟨rfl, rfl⟩
  go_wp2_with fail
  go_ret2
  exact ⟨rfl, (Below.refl _ _).alloc (Nat.le_refl _) _⟩

set_option maxRecDepth 100000 in
set_option maxHeartbeats 4000000 in
theorem sysNo_five (s : ByteArray) (w : World) (hG : Good w) (hs : s.size < 4294967281) (h : (spl s.data.toList).length = 5) :
    Calls Tryd.prog 29 #[.string s] w fun e w' => e = numOut (sysLook s.data.toList) ∧ Below w.heap.size w w' := by
  obtain ⟨m, hm⟩ := hG.most
  have SP := Lib.hid (Tryd.strings_Split s ⟨#[95]⟩ m w hs hm (by decide))
  rw [sysLook_acc h]
  have hsp := splitB_spl s
  rw [← splitB_count] at h
  rw [h] at SP
  have hL := splitB_len s
  rw [h] at hL
  generalize Lib.splitB ⟨#[95]⟩ 0 (Lib.countB s ⟨#[95]⟩) s = L at *
  rw [← hsp]
  have hsz : ∀ x ∈ L, x.size ≤ 281474976710656 := fun x hx => by
    have h1 := spl_len s.data.toList x.data.toList (by rw [← hsp]; exact List.mem_map.2 ⟨x, hx, rfl⟩)
    rw [Array.length_toList, Array.length_toList] at h1
    have h2 : x.size ≤ s.size := h1
    omega
  obtain ⟨W, hW⟩ : ∃ W, w.alloc (.cells (L.map Value.string).toArray 9) = W := ⟨_, rfl⟩
  have hc : ∀ (j : Nat) x, L[j]? = some x → W.cell? ⟨w.heap.size, j, none⟩ = some (.string x) := fun j x hj => by rw [← hW]; exact cells_at w L _ j x hj
  have hWs : W.heap.size = w.heap.size + 1 := by rw [← hW]; simp
  have hWB : Below w.heap.size w W := by rw [← hW]; exact (Below.refl _ _).alloc (Nat.le_refl _) _
  have hGW := hG.thn hWB
  rw [hW] at SP
  have HW := Lib.hid hW
  have HC := Lib.hid hc
  have HS := Lib.hid hWs
  have HZ := Lib.hid hsz
  have g0 := hGW.parts 0 _ rfl
  have g1 := hGW.parts 1 _ rfl
  have g2 := hGW.parts 2 _ rfl
  have g3 := hGW.parts 3 _ rfl
  have g4 := hGW.parts 4 _ rfl
  have g5 := hGW.parts 5 _ rfl
  have g6 := hGW.parts 6 _ rfl
  have g7 := hGW.parts 7 _ rfl
  have g8 := hGW.parts 8 _ rfl
  have g9 := hGW.parts 9 _ rfl
  have g10 := hGW.parts 10 _ rfl
  have g11 := hGW.parts 11 _ rfl
  have g12 := hGW.parts 12 _ rfl
  have g13 := hGW.parts 13 _ rfl
  have g14 := hGW.parts 14 _ rfl
  have HL := Lib.hid hL
  clear hW hc hWs hsz hm hG hs hsp hL h
  go_enter Tryd.func29, Tryd.ntmps29
  go_wp2_with fail
  refine SP.out.mono ?_
  rintro e w1 ⟨rfl, rfl⟩
  go_wp2_with fail
  clear g0 g1 g2 g3 g4 g5 g6 g7 g8 g9 g10 g11 g12 g13 g14
  go_loopw [5, 17] (fun nv iv wr => ∃ k n : Nat, k ≤ 5 ∧ iv = .int .i64 (k : Int) ∧ nv = .int .i64 (n : Int) ∧ accP k (L.map (·.data.toList)) = some n ∧ Good wr ∧ Below w1.heap.size w1 wr) (fun _ iv _ => 5 - (intOf iv).toNat)
  case atStart => exact ⟨0, 0, by decide, rfl, rfl, rfl, hGW, Below.refl _ _⟩
  case round =>
    obtain ⟨k, n, hk, rfl, rfl, hn, hGr, hbr⟩ := hrel
    by_cases hlt : k < 5
    · obtain ⟨x, hx⟩ : ∃ x, L[k]? = some x := ⟨_, List.getElem?_eq_getElem (by have := HL.out; omega)⟩
      have hpk := hlt
      clear hk
      rcases (show k = 0 ∨ k = 1 ∨ k = 2 ∨ k = 3 ∨ k = 4 by omega) with rfl | rfl | rfl | rfl | rfl
      · -- piece 0
        have ik := part_0
        have nb : n < 1 := accP_lt 0 hn (by decide)
        have cx := HC.out 0 x hx
        have cxr : wr.cell? ⟨w.heap.size, 0, none⟩ = some (.string x) := (hbr.cell (p := ⟨w.heap.size, 0, none⟩) (by show w.heap.size < w1.heap.size; have := HS.out; omega)).trans cx
        have hzr : w.heap.size < wr.heap.size := by have := hbr.size; have := HS.out; omega
        obtain ⟨T, hT⟩ : ∃ T : ByteArray, T.data.toList = Lib.trimPrefix x.data.toList [115] := ⟨⟨(Lib.trimPrefix x.data.toList [115]).toArray⟩, rfl⟩
        have hTz : T.size ≤ x.size := trim_size hT
        have hxL : (L.map (·.data.toList))[0]? = some x.data.toList := by rw [List.getElem?_map, hx]; rfl
        by_cases hpf : Lib.hasPrefix x.data.toList [115] = true
        · have CP := Lib.hid (fun w n => cutp x ⟨#[115]⟩ true T hpf hT w n)
          have hpv : pieceV 0 x.data.toList = dig T.data.toList 2 3 := by unfold pieceV; rw [show letterC 0 = [115] from rfl, if_pos hpf, hT]; rfl
          cases hd : dig T.data.toList 2 3 with
          | none =>
            have DN := Lib.hid (fun w' (h : Good w') => show Calls Tryd.prog 22 #[.string T, .int .i64 2, .int .i64 3] w' (fun e w'' => e = .returned (.tuple #[.int .i64 0, .bool false]) ∧ Below w'.heap.size w' w'') from decimal_none T 2 3 w' h (by decide) (Nat.le_trans hTz (HZ.out x (List.mem_of_getElem? hx))) hd)
            have HR := Lib.hid (show accP 5 (L.map (·.data.toList)) = none from accP_none 1 4 (accP_stop hxL (hpv.trans hd)))
            clear hn hx hT hTz hpf hd cx nb hxL hpv
            go_wp2
            go_quiet ((go_at_call 40; exact CP.out _ _))
            go_wp2
            have hS0 := s_new (.string ⟨#[115]⟩) (.int .i64 2) (.int .i64 1) 65 nq hGr hbr
            generalize hX : (wr.alloc (.cells #[.string ⟨#[115]⟩, .int .i64 2, .int .i64 1] 65)).drewN nq = X at *
            generalize hB : wr.heap.size = B at *
            go_region_held3 (fun w' => (w'.cell? ⟨B, 1, none⟩ = some (.int .i64 2) ∧ w'.cell? ⟨B, 2, none⟩ = some (.int .i64 1)) ∧ B < w'.heap.size ∧ Good w' ∧ Below w1.heap.size w1 w')
              (first | exact hS0 | exact s_drew hS0 | exact s_keep (by assumption) (by assumption) | exact s_drew (s_keep (by assumption) (by assumption)))
              ((go_at_call 22; refine (DN.out _ (s_good (by assumption))).mono ?_; rintro e w3 ⟨rfl, hb3⟩))
            rename_i hS
            obtain ⟨⟨k1, k2⟩, k3, k4, k5⟩ := hS
            have K5 := Lib.hid k5
            clear k5
            go_wp2
            go_ret2
            exact ⟨by rw [HR.out]; rfl, Below.thn hWB hWB.size K5.out⟩
          | some v =>
            have DN := Lib.hid (fun w' (_ : Good w') => show Calls Tryd.prog 22 #[.string T, .int .i64 2, .int .i64 3] w' (fun e w'' => e = .returned (.tuple #[.int .i64 (v : Int), .bool true]) ∧ Below w'.heap.size w' w'') from decimal_some T 2 3 v w' hd)
            have HR := Lib.hid (show accP 1 (L.map (·.data.toList)) = some (n * 2 + (v - 2)) from accP_step hn hxL (hpv.trans hd))
            obtain ⟨hv1, hv2, _, _⟩ := dig_spec hd
            have E1 := Lib.hid (show IntKind.i64.wrap ((n : Int) * 2) = ((n * 2 : Nat) : Int) by rw [IntWalk.i64_in _ (by omega)]; omega)
            have E2 := Lib.hid (show IntKind.i64.wrap ((v : Int) - 2) = ((v - 2 : Nat) : Int) by rw [IntWalk.i64_in _ (by omega)]; omega)
            have E3 := Lib.hid (show bits .or .i64 ((n * 2 : Nat) : Int) ((v - 2 : Nat) : Int) = ((n * 2 + (v - 2) : Nat) : Int) from or_add 1 (by omega) (by omega) (by decide))
            have E4 := Lib.hid (show bits .or .i64 ((n : Int) * 2) ((v - 2 : Nat) : Int) = ((n * 2 + (v - 2) : Nat) : Int) by have h := E3.out; rw [show ((n * 2 : Nat) : Int) = (n : Int) * 2 by omega] at h; exact h)
            clear hn hx hT hTz hpf hd cx nb hxL hpv hv1 hv2
            go_wp2
            go_quiet ((go_at_call 40; exact CP.out _ _))
            go_wp2
            have hS0 := s_new (.string ⟨#[115]⟩) (.int .i64 2) (.int .i64 1) 65 nq hGr hbr
            generalize hX : (wr.alloc (.cells #[.string ⟨#[115]⟩, .int .i64 2, .int .i64 1] 65)).drewN nq = X at *
            generalize hB : wr.heap.size = B at *
            go_region_held3 (fun w' => (w'.cell? ⟨B, 1, none⟩ = some (.int .i64 2) ∧ w'.cell? ⟨B, 2, none⟩ = some (.int .i64 1)) ∧ B < w'.heap.size ∧ Good w' ∧ Below w1.heap.size w1 w')
              (first | exact hS0 | exact s_drew hS0 | exact s_keep (by assumption) (by assumption) | exact s_drew (s_keep (by assumption) (by assumption)))
              ((go_at_call 22; refine (DN.out _ (s_good (by assumption))).mono ?_; rintro e w3 ⟨rfl, hb3⟩))
            rename_i hS
            obtain ⟨⟨k1, k2⟩, k3, k4, k5⟩ := hS
            have K5 := Lib.hid k5
            clear k5
            go_wp2
            have e1 := E1.out
            have e2 := E2.out
            have e3 := E3.out
            go_quiet (fail)
            clear e1 e2 e3
            go_wp2
            go_roundw
            case rel => exact ⟨1, _, by decide, by first | rfl | decide, by rw [E4.out], HR.out, k4.drewN _, below_drewN K5.out _⟩
            case measure => simp [intOf]
        · have hpf' : Lib.hasPrefix x.data.toList [115] = false := by simpa using hpf
          have CP := Lib.hid (fun w n => cutp x ⟨#[115]⟩ false T hpf' hT w n)
          have HR := Lib.hid (show accP 5 (L.map (·.data.toList)) = none from accP_none 1 4 (accP_stop hxL (by unfold pieceV; rw [show letterC 0 = [115] from rfl, if_neg hpf])))
          clear hn hx hT hTz hpf hpf' cx nb hxL
          go_wp2
          go_quiet ((go_at_call 40; exact CP.out _ _))
          go_wp2
          go_ret2
          exact ⟨by rw [HR.out]; rfl, below_drewN ((Below.thn hWB hWB.size hbr).alloc (Nat.le_of_lt hzr) _) _⟩
      · -- piece 1
        have ik := part_1
        have nb : n < 2 := accP_lt 1 hn (by decide)
        have cx := HC.out 1 x hx
        have cxr : wr.cell? ⟨w.heap.size, 1, none⟩ = some (.string x) := (hbr.cell (p := ⟨w.heap.size, 1, none⟩) (by show w.heap.size < w1.heap.size; have := HS.out; omega)).trans cx
        have hzr : w.heap.size < wr.heap.size := by have := hbr.size; have := HS.out; omega
        obtain ⟨T, hT⟩ : ∃ T : ByteArray, T.data.toList = Lib.trimPrefix x.data.toList [] := ⟨⟨(Lib.trimPrefix x.data.toList []).toArray⟩, rfl⟩
        have hTz : T.size ≤ x.size := trim_size hT
        have hxL : (L.map (·.data.toList))[1]? = some x.data.toList := by rw [List.getElem?_map, hx]; rfl
        by_cases hpf : Lib.hasPrefix x.data.toList [] = true
        · have CP := Lib.hid (fun w n => cutp x ⟨#[]⟩ true T hpf hT w n)
          have hpv : pieceV 1 x.data.toList = dig T.data.toList 0 7 := by unfold pieceV; rw [show letterC 1 = [] from rfl, if_pos hpf, hT]; rfl
          cases hd : dig T.data.toList 0 7 with
          | none =>
            have DN := Lib.hid (fun w' (h : Good w') => show Calls Tryd.prog 22 #[.string T, .int .i64 0, .int .i64 7] w' (fun e w'' => e = .returned (.tuple #[.int .i64 0, .bool false]) ∧ Below w'.heap.size w' w'') from decimal_none T 0 7 w' h (by decide) (Nat.le_trans hTz (HZ.out x (List.mem_of_getElem? hx))) hd)
            have HR := Lib.hid (show accP 5 (L.map (·.data.toList)) = none from accP_none 2 3 (accP_stop hxL (hpv.trans hd)))
            clear hn hx hT hTz hpf hd cx nb hxL hpv
            go_wp2
            go_quiet ((go_at_call 40; exact CP.out _ _))
            go_wp2
            have hS0 := s_new (.string ⟨#[]⟩) (.int .i64 0) (.int .i64 3) 65 nq hGr hbr
            generalize hX : (wr.alloc (.cells #[.string ⟨#[]⟩, .int .i64 0, .int .i64 3] 65)).drewN nq = X at *
            generalize hB : wr.heap.size = B at *
            go_region_held3 (fun w' => (w'.cell? ⟨B, 1, none⟩ = some (.int .i64 0) ∧ w'.cell? ⟨B, 2, none⟩ = some (.int .i64 3)) ∧ B < w'.heap.size ∧ Good w' ∧ Below w1.heap.size w1 w')
              (first | exact hS0 | exact s_drew hS0 | exact s_keep (by assumption) (by assumption) | exact s_drew (s_keep (by assumption) (by assumption)))
              ((go_at_call 22; refine (DN.out _ (s_good (by assumption))).mono ?_; rintro e w3 ⟨rfl, hb3⟩))
            rename_i hS
            obtain ⟨⟨k1, k2⟩, k3, k4, k5⟩ := hS
            have K5 := Lib.hid k5
            clear k5
            go_wp2
            go_ret2
            exact ⟨by rw [HR.out]; rfl, Below.thn hWB hWB.size K5.out⟩
          | some v =>
            have DN := Lib.hid (fun w' (_ : Good w') => show Calls Tryd.prog 22 #[.string T, .int .i64 0, .int .i64 7] w' (fun e w'' => e = .returned (.tuple #[.int .i64 (v : Int), .bool true]) ∧ Below w'.heap.size w' w'') from decimal_some T 0 7 v w' hd)
            have HR := Lib.hid (show accP 2 (L.map (·.data.toList)) = some (n * 8 + (v - 0)) from accP_step hn hxL (hpv.trans hd))
            obtain ⟨hv1, hv2, _, _⟩ := dig_spec hd
            have E1 := Lib.hid (show IntKind.i64.wrap ((n : Int) * 8) = ((n * 8 : Nat) : Int) by rw [IntWalk.i64_in _ (by omega)]; omega)
            have E2 := Lib.hid (show IntKind.i64.wrap ((v : Int) - 0) = ((v - 0 : Nat) : Int) by rw [IntWalk.i64_in _ (by omega)]; omega)
            have E3 := Lib.hid (show bits .or .i64 ((n * 8 : Nat) : Int) ((v - 0 : Nat) : Int) = ((n * 8 + (v - 0) : Nat) : Int) from or_add 3 (by omega) (by omega) (by decide))
            have E4 := Lib.hid (show bits .or .i64 ((n : Int) * 8) (v : Int) = ((n * 8 + (v - 0) : Nat) : Int) by have h := E3.out; rw [show ((n * 8 : Nat) : Int) = (n : Int) * 8 by omega] at h; exact h)
            clear hn hx hT hTz hpf hd cx nb hxL hpv hv1 hv2
            go_wp2
            go_quiet ((go_at_call 40; exact CP.out _ _))
            go_wp2
            have hS0 := s_new (.string ⟨#[]⟩) (.int .i64 0) (.int .i64 3) 65 nq hGr hbr
            generalize hX : (wr.alloc (.cells #[.string ⟨#[]⟩, .int .i64 0, .int .i64 3] 65)).drewN nq = X at *
            generalize hB : wr.heap.size = B at *
            go_region_held3 (fun w' => (w'.cell? ⟨B, 1, none⟩ = some (.int .i64 0) ∧ w'.cell? ⟨B, 2, none⟩ = some (.int .i64 3)) ∧ B < w'.heap.size ∧ Good w' ∧ Below w1.heap.size w1 w')
              (first | exact hS0 | exact s_drew hS0 | exact s_keep (by assumption) (by assumption) | exact s_drew (s_keep (by assumption) (by assumption)))
              ((go_at_call 22; refine (DN.out _ (s_good (by assumption))).mono ?_; rintro e w3 ⟨rfl, hb3⟩))
            rename_i hS
            obtain ⟨⟨k1, k2⟩, k3, k4, k5⟩ := hS
            have K5 := Lib.hid k5
            clear k5
            go_wp2
            have e1 := E1.out
            have e2 := E2.out
            have e3 := E3.out
            go_quiet (fail)
            clear e1 e2 e3
            go_wp2
            go_roundw
            case rel => exact ⟨2, _, by decide, by first | rfl | decide, by rw [E4.out], HR.out, k4.drewN _, below_drewN K5.out _⟩
            case measure => simp [intOf]
        · have hpf' : Lib.hasPrefix x.data.toList [] = false := by simpa using hpf
          have CP := Lib.hid (fun w n => cutp x ⟨#[]⟩ false T hpf' hT w n)
          have HR := Lib.hid (show accP 5 (L.map (·.data.toList)) = none from accP_none 2 3 (accP_stop hxL (by unfold pieceV; rw [show letterC 1 = [] from rfl, if_neg hpf])))
          clear hn hx hT hTz hpf hpf' cx nb hxL
          go_wp2
          go_quiet ((go_at_call 40; exact CP.out _ _))
          go_wp2
          go_ret2
          exact ⟨by rw [HR.out]; rfl, below_drewN ((Below.thn hWB hWB.size hbr).alloc (Nat.le_of_lt hzr) _) _⟩
      · -- piece 2
        have ik := part_2
        have nb : n < 16 := accP_lt 2 hn (by decide)
        have cx := HC.out 2 x hx
        have cxr : wr.cell? ⟨w.heap.size, 2, none⟩ = some (.string x) := (hbr.cell (p := ⟨w.heap.size, 2, none⟩) (by show w.heap.size < w1.heap.size; have := HS.out; omega)).trans cx
        have hzr : w.heap.size < wr.heap.size := by have := hbr.size; have := HS.out; omega
        obtain ⟨T, hT⟩ : ∃ T : ByteArray, T.data.toList = Lib.trimPrefix x.data.toList [99] := ⟨⟨(Lib.trimPrefix x.data.toList [99]).toArray⟩, rfl⟩
        have hTz : T.size ≤ x.size := trim_size hT
        have hxL : (L.map (·.data.toList))[2]? = some x.data.toList := by rw [List.getElem?_map, hx]; rfl
        by_cases hpf : Lib.hasPrefix x.data.toList [99] = true
        · have CP := Lib.hid (fun w n => cutp x ⟨#[99]⟩ true T hpf hT w n)
          have hpv : pieceV 2 x.data.toList = dig T.data.toList 0 15 := by unfold pieceV; rw [show letterC 2 = [99] from rfl, if_pos hpf, hT]; rfl
          cases hd : dig T.data.toList 0 15 with
          | none =>
            have DN := Lib.hid (fun w' (h : Good w') => show Calls Tryd.prog 22 #[.string T, .int .i64 0, .int .i64 15] w' (fun e w'' => e = .returned (.tuple #[.int .i64 0, .bool false]) ∧ Below w'.heap.size w' w'') from decimal_none T 0 15 w' h (by decide) (Nat.le_trans hTz (HZ.out x (List.mem_of_getElem? hx))) hd)
            have HR := Lib.hid (show accP 5 (L.map (·.data.toList)) = none from accP_none 3 2 (accP_stop hxL (hpv.trans hd)))
            clear hn hx hT hTz hpf hd cx nb hxL hpv
            go_wp2
            go_quiet ((go_at_call 40; exact CP.out _ _))
            go_wp2
            have hS0 := s_new (.string ⟨#[99]⟩) (.int .i64 0) (.int .i64 4) 65 nq hGr hbr
            generalize hX : (wr.alloc (.cells #[.string ⟨#[99]⟩, .int .i64 0, .int .i64 4] 65)).drewN nq = X at *
            generalize hB : wr.heap.size = B at *
            go_region_held3 (fun w' => (w'.cell? ⟨B, 1, none⟩ = some (.int .i64 0) ∧ w'.cell? ⟨B, 2, none⟩ = some (.int .i64 4)) ∧ B < w'.heap.size ∧ Good w' ∧ Below w1.heap.size w1 w')
              (first | exact hS0 | exact s_drew hS0 | exact s_keep (by assumption) (by assumption) | exact s_drew (s_keep (by assumption) (by assumption)))
              ((go_at_call 22; refine (DN.out _ (s_good (by assumption))).mono ?_; rintro e w3 ⟨rfl, hb3⟩))
            rename_i hS
            obtain ⟨⟨k1, k2⟩, k3, k4, k5⟩ := hS
            have K5 := Lib.hid k5
            clear k5
            go_wp2
            go_ret2
            exact ⟨by rw [HR.out]; rfl, Below.thn hWB hWB.size K5.out⟩
          | some v =>
            have DN := Lib.hid (fun w' (_ : Good w') => show Calls Tryd.prog 22 #[.string T, .int .i64 0, .int .i64 15] w' (fun e w'' => e = .returned (.tuple #[.int .i64 (v : Int), .bool true]) ∧ Below w'.heap.size w' w'') from decimal_some T 0 15 v w' hd)
            have HR := Lib.hid (show accP 3 (L.map (·.data.toList)) = some (n * 16 + (v - 0)) from accP_step hn hxL (hpv.trans hd))
            obtain ⟨hv1, hv2, _, _⟩ := dig_spec hd
            have E1 := Lib.hid (show IntKind.i64.wrap ((n : Int) * 16) = ((n * 16 : Nat) : Int) by rw [IntWalk.i64_in _ (by omega)]; omega)
            have E2 := Lib.hid (show IntKind.i64.wrap ((v : Int) - 0) = ((v - 0 : Nat) : Int) by rw [IntWalk.i64_in _ (by omega)]; omega)
            have E3 := Lib.hid (show bits .or .i64 ((n * 16 : Nat) : Int) ((v - 0 : Nat) : Int) = ((n * 16 + (v - 0) : Nat) : Int) from or_add 4 (by omega) (by omega) (by decide))
            have E4 := Lib.hid (show bits .or .i64 ((n : Int) * 16) (v : Int) = ((n * 16 + (v - 0) : Nat) : Int) by have h := E3.out; rw [show ((n * 16 : Nat) : Int) = (n : Int) * 16 by omega] at h; exact h)
            clear hn hx hT hTz hpf hd cx nb hxL hpv hv1 hv2
            go_wp2
            go_quiet ((go_at_call 40; exact CP.out _ _))
            go_wp2
            have hS0 := s_new (.string ⟨#[99]⟩) (.int .i64 0) (.int .i64 4) 65 nq hGr hbr
            generalize hX : (wr.alloc (.cells #[.string ⟨#[99]⟩, .int .i64 0, .int .i64 4] 65)).drewN nq = X at *
            generalize hB : wr.heap.size = B at *
            go_region_held3 (fun w' => (w'.cell? ⟨B, 1, none⟩ = some (.int .i64 0) ∧ w'.cell? ⟨B, 2, none⟩ = some (.int .i64 4)) ∧ B < w'.heap.size ∧ Good w' ∧ Below w1.heap.size w1 w')
              (first | exact hS0 | exact s_drew hS0 | exact s_keep (by assumption) (by assumption) | exact s_drew (s_keep (by assumption) (by assumption)))
              ((go_at_call 22; refine (DN.out _ (s_good (by assumption))).mono ?_; rintro e w3 ⟨rfl, hb3⟩))
            rename_i hS
            obtain ⟨⟨k1, k2⟩, k3, k4, k5⟩ := hS
            have K5 := Lib.hid k5
            clear k5
            go_wp2
            have e1 := E1.out
            have e2 := E2.out
            have e3 := E3.out
            go_quiet (fail)
            clear e1 e2 e3
            go_wp2
            go_roundw
            case rel => exact ⟨3, _, by decide, by first | rfl | decide, by rw [E4.out], HR.out, k4.drewN _, below_drewN K5.out _⟩
            case measure => simp [intOf]
        · have hpf' : Lib.hasPrefix x.data.toList [99] = false := by simpa using hpf
          have CP := Lib.hid (fun w n => cutp x ⟨#[99]⟩ false T hpf' hT w n)
          have HR := Lib.hid (show accP 5 (L.map (·.data.toList)) = none from accP_none 3 2 (accP_stop hxL (by unfold pieceV; rw [show letterC 2 = [99] from rfl, if_neg hpf])))
          clear hn hx hT hTz hpf hpf' cx nb hxL
          go_wp2
          go_quiet ((go_at_call 40; exact CP.out _ _))
          go_wp2
          go_ret2
          exact ⟨by rw [HR.out]; rfl, below_drewN ((Below.thn hWB hWB.size hbr).alloc (Nat.le_of_lt hzr) _) _⟩
      · -- piece 3
        have ik := part_3
        have nb : n < 256 := accP_lt 3 hn (by decide)
        have cx := HC.out 3 x hx
        have cxr : wr.cell? ⟨w.heap.size, 3, none⟩ = some (.string x) := (hbr.cell (p := ⟨w.heap.size, 3, none⟩) (by show w.heap.size < w1.heap.size; have := HS.out; omega)).trans cx
        have hzr : w.heap.size < wr.heap.size := by have := hbr.size; have := HS.out; omega
        obtain ⟨T, hT⟩ : ∃ T : ByteArray, T.data.toList = Lib.trimPrefix x.data.toList [99] := ⟨⟨(Lib.trimPrefix x.data.toList [99]).toArray⟩, rfl⟩
        have hTz : T.size ≤ x.size := trim_size hT
        have hxL : (L.map (·.data.toList))[3]? = some x.data.toList := by rw [List.getElem?_map, hx]; rfl
        by_cases hpf : Lib.hasPrefix x.data.toList [99] = true
        · have CP := Lib.hid (fun w n => cutp x ⟨#[99]⟩ true T hpf hT w n)
          have hpv : pieceV 3 x.data.toList = dig T.data.toList 0 15 := by unfold pieceV; rw [show letterC 3 = [99] from rfl, if_pos hpf, hT]; rfl
          cases hd : dig T.data.toList 0 15 with
          | none =>
            have DN := Lib.hid (fun w' (h : Good w') => show Calls Tryd.prog 22 #[.string T, .int .i64 0, .int .i64 15] w' (fun e w'' => e = .returned (.tuple #[.int .i64 0, .bool false]) ∧ Below w'.heap.size w' w'') from decimal_none T 0 15 w' h (by decide) (Nat.le_trans hTz (HZ.out x (List.mem_of_getElem? hx))) hd)
            have HR := Lib.hid (show accP 5 (L.map (·.data.toList)) = none from accP_none 4 1 (accP_stop hxL (hpv.trans hd)))
            clear hn hx hT hTz hpf hd cx nb hxL hpv
            go_wp2
            go_quiet ((go_at_call 40; exact CP.out _ _))
            go_wp2
            have hS0 := s_new (.string ⟨#[99]⟩) (.int .i64 0) (.int .i64 4) 65 nq hGr hbr
            generalize hX : (wr.alloc (.cells #[.string ⟨#[99]⟩, .int .i64 0, .int .i64 4] 65)).drewN nq = X at *
            generalize hB : wr.heap.size = B at *
            go_region_held3 (fun w' => (w'.cell? ⟨B, 1, none⟩ = some (.int .i64 0) ∧ w'.cell? ⟨B, 2, none⟩ = some (.int .i64 4)) ∧ B < w'.heap.size ∧ Good w' ∧ Below w1.heap.size w1 w')
              (first | exact hS0 | exact s_drew hS0 | exact s_keep (by assumption) (by assumption) | exact s_drew (s_keep (by assumption) (by assumption)))
              ((go_at_call 22; refine (DN.out _ (s_good (by assumption))).mono ?_; rintro e w3 ⟨rfl, hb3⟩))
            rename_i hS
            obtain ⟨⟨k1, k2⟩, k3, k4, k5⟩ := hS
            have K5 := Lib.hid k5
            clear k5
            go_wp2
            go_ret2
            exact ⟨by rw [HR.out]; rfl, Below.thn hWB hWB.size K5.out⟩
          | some v =>
            have DN := Lib.hid (fun w' (_ : Good w') => show Calls Tryd.prog 22 #[.string T, .int .i64 0, .int .i64 15] w' (fun e w'' => e = .returned (.tuple #[.int .i64 (v : Int), .bool true]) ∧ Below w'.heap.size w' w'') from decimal_some T 0 15 v w' hd)
            have HR := Lib.hid (show accP 4 (L.map (·.data.toList)) = some (n * 16 + (v - 0)) from accP_step hn hxL (hpv.trans hd))
            obtain ⟨hv1, hv2, _, _⟩ := dig_spec hd
            have E1 := Lib.hid (show IntKind.i64.wrap ((n : Int) * 16) = ((n * 16 : Nat) : Int) by rw [IntWalk.i64_in _ (by omega)]; omega)
            have E2 := Lib.hid (show IntKind.i64.wrap ((v : Int) - 0) = ((v - 0 : Nat) : Int) by rw [IntWalk.i64_in _ (by omega)]; omega)
            have E3 := Lib.hid (show bits .or .i64 ((n * 16 : Nat) : Int) ((v - 0 : Nat) : Int) = ((n * 16 + (v - 0) : Nat) : Int) from or_add 4 (by omega) (by omega) (by decide))
            have E4 := Lib.hid (show bits .or .i64 ((n : Int) * 16) (v : Int) = ((n * 16 + (v - 0) : Nat) : Int) by have h := E3.out; rw [show ((n * 16 : Nat) : Int) = (n : Int) * 16 by omega] at h; exact h)
            clear hn hx hT hTz hpf hd cx nb hxL hpv hv1 hv2
            go_wp2
            go_quiet ((go_at_call 40; exact CP.out _ _))
            go_wp2
            have hS0 := s_new (.string ⟨#[99]⟩) (.int .i64 0) (.int .i64 4) 65 nq hGr hbr
            generalize hX : (wr.alloc (.cells #[.string ⟨#[99]⟩, .int .i64 0, .int .i64 4] 65)).drewN nq = X at *
            generalize hB : wr.heap.size = B at *
            go_region_held3 (fun w' => (w'.cell? ⟨B, 1, none⟩ = some (.int .i64 0) ∧ w'.cell? ⟨B, 2, none⟩ = some (.int .i64 4)) ∧ B < w'.heap.size ∧ Good w' ∧ Below w1.heap.size w1 w')
              (first | exact hS0 | exact s_drew hS0 | exact s_keep (by assumption) (by assumption) | exact s_drew (s_keep (by assumption) (by assumption)))
              ((go_at_call 22; refine (DN.out _ (s_good (by assumption))).mono ?_; rintro e w3 ⟨rfl, hb3⟩))
            rename_i hS
            obtain ⟨⟨k1, k2⟩, k3, k4, k5⟩ := hS
            have K5 := Lib.hid k5
            clear k5
            go_wp2
            have e1 := E1.out
            have e2 := E2.out
            have e3 := E3.out
            go_quiet (fail)
            clear e1 e2 e3
            go_wp2
            go_roundw
            case rel => exact ⟨4, _, by decide, by first | rfl | decide, by rw [E4.out], HR.out, k4.drewN _, below_drewN K5.out _⟩
            case measure => simp [intOf]
        · have hpf' : Lib.hasPrefix x.data.toList [99] = false := by simpa using hpf
          have CP := Lib.hid (fun w n => cutp x ⟨#[99]⟩ false T hpf' hT w n)
          have HR := Lib.hid (show accP 5 (L.map (·.data.toList)) = none from accP_none 4 1 (accP_stop hxL (by unfold pieceV; rw [show letterC 3 = [99] from rfl, if_neg hpf])))
          clear hn hx hT hTz hpf hpf' cx nb hxL
          go_wp2
          go_quiet ((go_at_call 40; exact CP.out _ _))
          go_wp2
          go_ret2
          exact ⟨by rw [HR.out]; rfl, below_drewN ((Below.thn hWB hWB.size hbr).alloc (Nat.le_of_lt hzr) _) _⟩
      · -- piece 4
        have ik := part_4
        have nb : n < 4096 := accP_lt 4 hn (by decide)
        have cx := HC.out 4 x hx
        have cxr : wr.cell? ⟨w.heap.size, 4, none⟩ = some (.string x) := (hbr.cell (p := ⟨w.heap.size, 4, none⟩) (by show w.heap.size < w1.heap.size; have := HS.out; omega)).trans cx
        have hzr : w.heap.size < wr.heap.size := by have := hbr.size; have := HS.out; omega
        obtain ⟨T, hT⟩ : ∃ T : ByteArray, T.data.toList = Lib.trimPrefix x.data.toList [] := ⟨⟨(Lib.trimPrefix x.data.toList []).toArray⟩, rfl⟩
        have hTz : T.size ≤ x.size := trim_size hT
        have hxL : (L.map (·.data.toList))[4]? = some x.data.toList := by rw [List.getElem?_map, hx]; rfl
        by_cases hpf : Lib.hasPrefix x.data.toList [] = true
        · have CP := Lib.hid (fun w n => cutp x ⟨#[]⟩ true T hpf hT w n)
          have hpv : pieceV 4 x.data.toList = dig T.data.toList 0 7 := by unfold pieceV; rw [show letterC 4 = [] from rfl, if_pos hpf, hT]; rfl
          cases hd : dig T.data.toList 0 7 with
          | none =>
            have DN := Lib.hid (fun w' (h : Good w') => show Calls Tryd.prog 22 #[.string T, .int .i64 0, .int .i64 7] w' (fun e w'' => e = .returned (.tuple #[.int .i64 0, .bool false]) ∧ Below w'.heap.size w' w'') from decimal_none T 0 7 w' h (by decide) (Nat.le_trans hTz (HZ.out x (List.mem_of_getElem? hx))) hd)
            have HR := Lib.hid (show accP 5 (L.map (·.data.toList)) = none from accP_none 5 0 (accP_stop hxL (hpv.trans hd)))
            clear hn hx hT hTz hpf hd cx nb hxL hpv
            go_wp2
            go_quiet ((go_at_call 40; exact CP.out _ _))
            go_wp2
            have hS0 := s_new (.string ⟨#[]⟩) (.int .i64 0) (.int .i64 3) 65 nq hGr hbr
            generalize hX : (wr.alloc (.cells #[.string ⟨#[]⟩, .int .i64 0, .int .i64 3] 65)).drewN nq = X at *
            generalize hB : wr.heap.size = B at *
            go_region_held3 (fun w' => (w'.cell? ⟨B, 1, none⟩ = some (.int .i64 0) ∧ w'.cell? ⟨B, 2, none⟩ = some (.int .i64 3)) ∧ B < w'.heap.size ∧ Good w' ∧ Below w1.heap.size w1 w')
              (first | exact hS0 | exact s_drew hS0 | exact s_keep (by assumption) (by assumption) | exact s_drew (s_keep (by assumption) (by assumption)))
              ((go_at_call 22; refine (DN.out _ (s_good (by assumption))).mono ?_; rintro e w3 ⟨rfl, hb3⟩))
            rename_i hS
            obtain ⟨⟨k1, k2⟩, k3, k4, k5⟩ := hS
            have K5 := Lib.hid k5
            clear k5
            go_wp2
            go_ret2
            exact ⟨by rw [HR.out]; rfl, Below.thn hWB hWB.size K5.out⟩
          | some v =>
            have DN := Lib.hid (fun w' (_ : Good w') => show Calls Tryd.prog 22 #[.string T, .int .i64 0, .int .i64 7] w' (fun e w'' => e = .returned (.tuple #[.int .i64 (v : Int), .bool true]) ∧ Below w'.heap.size w' w'') from decimal_some T 0 7 v w' hd)
            have HR := Lib.hid (show accP 5 (L.map (·.data.toList)) = some (n * 8 + (v - 0)) from accP_step hn hxL (hpv.trans hd))
            obtain ⟨hv1, hv2, _, _⟩ := dig_spec hd
            have E1 := Lib.hid (show IntKind.i64.wrap ((n : Int) * 8) = ((n * 8 : Nat) : Int) by rw [IntWalk.i64_in _ (by omega)]; omega)
            have E2 := Lib.hid (show IntKind.i64.wrap ((v : Int) - 0) = ((v - 0 : Nat) : Int) by rw [IntWalk.i64_in _ (by omega)]; omega)
            have E3 := Lib.hid (show bits .or .i64 ((n * 8 : Nat) : Int) ((v - 0 : Nat) : Int) = ((n * 8 + (v - 0) : Nat) : Int) from or_add 3 (by omega) (by omega) (by decide))
            have E4 := Lib.hid (show bits .or .i64 ((n : Int) * 8) (v : Int) = ((n * 8 + (v - 0) : Nat) : Int) by have h := E3.out; rw [show ((n * 8 : Nat) : Int) = (n : Int) * 8 by omega] at h; exact h)
            clear hn hx hT hTz hpf hd cx nb hxL hpv hv1 hv2
            go_wp2
            go_quiet ((go_at_call 40; exact CP.out _ _))
            go_wp2
            have hS0 := s_new (.string ⟨#[]⟩) (.int .i64 0) (.int .i64 3) 65 nq hGr hbr
            generalize hX : (wr.alloc (.cells #[.string ⟨#[]⟩, .int .i64 0, .int .i64 3] 65)).drewN nq = X at *
            generalize hB : wr.heap.size = B at *
            go_region_held3 (fun w' => (w'.cell? ⟨B, 1, none⟩ = some (.int .i64 0) ∧ w'.cell? ⟨B, 2, none⟩ = some (.int .i64 3)) ∧ B < w'.heap.size ∧ Good w' ∧ Below w1.heap.size w1 w')
              (first | exact hS0 | exact s_drew hS0 | exact s_keep (by assumption) (by assumption) | exact s_drew (s_keep (by assumption) (by assumption)))
              ((go_at_call 22; refine (DN.out _ (s_good (by assumption))).mono ?_; rintro e w3 ⟨rfl, hb3⟩))
            rename_i hS
            obtain ⟨⟨k1, k2⟩, k3, k4, k5⟩ := hS
            have K5 := Lib.hid k5
            clear k5
            go_wp2
            have e1 := E1.out
            have e2 := E2.out
            have e3 := E3.out
            go_quiet (fail)
            clear e1 e2 e3
            go_wp2
            go_roundw
            case rel => exact ⟨5, _, by decide, by first | rfl | decide, by rw [E4.out], HR.out, k4.drewN _, below_drewN K5.out _⟩
            case measure => simp [intOf]
        · have hpf' : Lib.hasPrefix x.data.toList [] = false := by simpa using hpf
          have CP := Lib.hid (fun w n => cutp x ⟨#[]⟩ false T hpf' hT w n)
          have HR := Lib.hid (show accP 5 (L.map (·.data.toList)) = none from accP_none 5 0 (accP_stop hxL (by unfold pieceV; rw [show letterC 4 = [] from rfl, if_neg hpf])))
          clear hn hx hT hTz hpf hpf' cx nb hxL
          go_wp2
          go_quiet ((go_at_call 40; exact CP.out _ _))
          go_wp2
          go_ret2
          exact ⟨by rw [HR.out]; rfl, below_drewN ((Below.thn hWB hWB.size hbr).alloc (Nat.le_of_lt hzr) _) _⟩
    · have hk5 : k = 5 := by omega
      subst hk5
      have HR := Lib.hid hn
      clear hn
      go_wp2
      go_ret2
      exact ⟨by rw [HR.out]; rfl, Below.thn hWB hWB.size hbr⟩

theorem sysNo_any (s : ByteArray) (w : World) (hG : Good w) (hs : s.size < 4294967281) :
    Calls Tryd.prog 29 #[.string s] w fun e w' => e = numOut (sysLook s.data.toList) ∧ Below w.heap.size w w' := by
  by_cases h : (spl s.data.toList).length = 5
  · exact sysNo_five s w hG hs h
  · exact sysNo_len s w hG hs h
end Go.Proofs.YtefglodkcddgiaaDoor
