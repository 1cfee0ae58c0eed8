/-
  LexBlanks: what each call returns. Conditions: what the variables of the library hold (Good), texts of at most 1048576 bytes and a slice of bytes no longer than that.
-/
import Derived.Test.YtjmdcimfmmfinaaDoorLexRise
import Derived.Test.YtjmdcimfmmfinaaDoorLexW
import Derived.Lib.AppendStr
import Derived.Deep.AppendLies
import Derived.Test.YtjmdcimfmmfinaaDoorLexM
namespace Go.Proofs.YtjmdcimfmmfinaaDoor
open Go.RowKit Go.Shelf
set_option linter.unusedVariables false
attribute [local go_sem] Oper.semAt_some

/-! ### the line that is put together, piece by piece -/
def blkC : ByteArray := ⟨#[32, 9, 32, 32]⟩
def slB (line : Bs) (T : List Tok) (k : Nat) : Bs := match T.drop k with
  | [] => []
  | t :: T' => (line.take (pieceEnd line T')).drop t.p.toNat
def preB (line : Bs) (T : List Tok) (B : Nat → Bs) : Nat → Bs
  | 0 => []
  | k + 1 => preB line T B k ++ (B k ++ slB line T k)
theorem pre_join (line tail : Bs) (T : List Tok) (B : Nat → Bs) : ∀ k, k ≤ T.length → joinB line tail B 0 T = preB line T B k ++ joinB line tail B k (T.drop k)
  | 0, _ => rfl
  | k + 1, h => by
    rw [pre_join line tail T B k (by omega), preB, List.append_assoc]
    congr 1
    have hk : k < T.length := by omega
    have hd := List.drop_eq_getElem_cons hk
    unfold slB
    rw [hd, joinB, List.append_assoc]
theorem pre_all (line tail : Bs) (T : List Tok) (B : Nat → Bs) : joinB line tail B 0 T = preB line T B T.length ++ tail := by
  rw [pre_join line tail T B T.length (Nat.le_refl _), List.drop_length]; rfl
theorem pre_len (line : Bs) (T : List Tok) (B : Nat → Bs) (hB : ∀ i, (B i).length ≤ 4) : ∀ k, (preB line T B k).length ≤ k * (line.length + 4)
  | 0 => Nat.zero_le _
  | k + 1 => by
    have ih := pre_len line T B hB k
    have h1 : (slB line T k).length ≤ line.length := by
      unfold slB
      split
      · exact Nat.zero_le _
      · rw [List.length_drop, List.length_take]; omega
    have h2 := hB k
    rw [preB, List.length_append, List.length_append, Nat.add_mul]
    omega
/-- the number that stands for a place among the blanks -/
def kB (zs : List Int) (i : Nat) : Int := if zs = [] then 0 else zs.getD (i % zs.length) 0
def blB (zs : List Int) (i : Nat) : Bs := blkC.data.toList.take (kB zs i % 4).toNat
theorem bl_blanks (zs : List Int) (i : Nat) : (blB zs i).all isBl = true := by
  unfold blB
  have : ∀ n, n ≤ 4 → (blkC.data.toList.take n).all isBl = true := by decide
  exact this _ (by omega)
theorem bl_len (zs : List Int) (i : Nat) : (blB zs i).length ≤ 4 := by
  unfold blB; rw [List.length_take]; exact Nat.min_le_right _ _
theorem sl_last {line : Bs} {T : List Tok} {k : Nat} {x : Tok} (hx : T[k]? = some x) (h : T.length = k + 1) : slB line T k = (line.take line.length).drop x.p.toNat := by
  obtain ⟨hk, rfl⟩ := List.getElem?_eq_some_iff.1 hx
  unfold slB
  rw [List.drop_eq_getElem_cons hk, List.drop_of_length_le (by omega)]; rfl
theorem sl_mid {line : Bs} {T : List Tok} {k : Nat} {x y : Tok} (hx : T[k]? = some x) (hy : T[k + 1]? = some y) : slB line T k = (line.take y.p.toNat).drop x.p.toNat := by
  obtain ⟨hk, rfl⟩ := List.getElem?_eq_some_iff.1 hx
  obtain ⟨hk2, rfl⟩ := List.getElem?_eq_some_iff.1 hy
  unfold slB
  rw [List.drop_eq_getElem_cons hk, List.drop_eq_getElem_cons hk2]; rfl

/-- a slice reads as bytes -/
def BlS (W : World) (v : Value) (zs : List Int) : Prop := (∃ p c, v = .slice p 0 c ∧ zs = []) ∨ ∃ b off cap, v = .slice (some ⟨b, off, none⟩) zs.length cap ∧ b < W.heap.size ∧ ∀ (j : Nat) (z : Int), zs[j]? = some z → W.cell? ⟨b, off + j, none⟩ = some (.int .u8 z)
theorem BlS.keep {W W' : World} {v : Value} {zs : List Int} (h : BlS W v zs) (hb : Below W.heap.size W W') : BlS W' v zs := by
  rcases h with h | ⟨b, off, cap, h1, h2, h3⟩
  · exact .inl h
  · exact .inr ⟨b, off, cap, h1, Nat.lt_of_lt_of_le h2 hb.size, fun j z hz => (hb.cell (p := ⟨b, off + j, none⟩) h2).trans (h3 j z hz)⟩
theorem bls_len {W : World} {v : Value} {zs : List Int} (h : BlS W v zs) (V' : World) : Sem.run Tryd.prog (Builtin.len_ #[48] 3 #[v]) V' = .ok (.int .i64 (zs.length : Int)) V' := by
  rcases h with ⟨p, c, h, h0⟩ | ⟨b, off, cap, h, _⟩
  · rw [h0, h]; simp [Builtin.len_, go_sem]
  · rw [h]; simp [Builtin.len_, go_sem]
theorem str_bytes (s : ByteArray) (l : Bs) (h : s.data.toList = l) : Lib.strCells s = Lib.byteCells l := by rw [← h]; rfl
theorem byteCells_app (a b : Bs) : Lib.byteCells (a ++ b) = Lib.byteCells a ++ Lib.byteCells b := by simp [Lib.byteCells]
theorem lex_size {line : Bs} {T : List Tok} {a : Nat} (h : lineB line = (T, a, 0)) : line.length ≤ 512 ∧ lexS 0 line = (T, a, 0) := by
  unfold lineB at h
  by_cases hl : 512 < line.length
  · rw [if_pos hl] at h; simp at h
  · rw [if_neg hl] at h; exact ⟨by omega, h⟩
theorem cell_block {W : World} {b o : Nat} {cs : Array Value} {t : TypeId} {f : Nat × Nat} (h : W.heap[b]? = some (.cells cs t f)) : W.cell? ⟨b, o, none⟩ = cs[o]? := by
  simp [World.cell?, h]
theorem own_str {W : World} {B : Nat} {v : Value} {n : Nat} {l m : Bs} {s : ByteArray} (h : W.ownsRow B 5 1 v (n + s.size) (Lib.byteCells l ++ Lib.strCells s)) (hn : n = l.length) (hs : s.data.toList = m) : W.ownsRow B 5 1 v (l ++ m).length (Lib.byteCells (l ++ m)) := by
  rw [str_bytes s m hs, ← byteCells_app] at h
  rw [List.length_append, ← hs, ← size_list, ← hn]
  rw [← hs] at h
  exact h
theorem ext_le (s : ByteArray) (a b : Nat) : (s.extract a b).size ≤ s.size := by
  rw [size_list, extract_list, List.length_drop, List.length_take, size_list]; omega
theorem stop_here {p : Prop} (h : Hid p) : p := h.out
theorem rem_any (k n : Nat) (h : 0 < n) (V : World) : (binOp BinOp.rem 3 (.int .i64 (k : Int)) (.int .i64 (n : Int))).run Tryd.prog V = .ok (.int .i64 ((k % n : Nat) : Int)) V := by
  have hn : n ≠ 0 := by omega
  have e : Int.tmod (k : Int) (n : Int) = ((k % n : Nat) : Int) := rfl
  unfold binOp
  simp [go_sem, hn, e]
set_option maxRecDepth 100000 in
set_option maxHeartbeats 16000000 in
theorem blanks_any (line behind : ByteArray) (bv : Value) (zs : List Int) (w : World) (hG : Good w) (hm : line.size ≤ 1048576) (hm2 : behind.size ≤ 1048576) (hz : BlS w bv zs) (hz8 : ∀ z ∈ zs, 0 ≤ z ∧ z ≤ 255) :
    Calls Tryd.prog 7 #[.string line, .string behind, bv] w fun e w' => e = .returned (.bool true) ∧ Below w.heap.size w w' := by
  obtain ⟨i0, hi, hi0, hi1, hi2⟩ := info_parts infoByte
  have hR := lineB_rises line.data.toList
  have hF := lineB_few line.data.toList
  have LX := Lib.hid (fun (V : World) (hb : Below w.heap.size w V) => lex_toks line V (hG.thn hb) (by unfold maxLen; omega))
  have BG := Lib.hid (fun (V : World) (hb : Below w.heap.size w V) => begun_any V (hG.thn hb))
  have HG := Lib.hid (fun (V : World) (hb : Below w.heap.size w V) => hG.thn hb)
  obtain ⟨T, a, er, hL⟩ : ∃ T a e, lineB line.data.toList = (T, a, e) := ⟨_, _, _, rfl⟩
  rw [hL] at hR hF LX
  simp only at hF LX
  rw [← size_list] at hR
  obtain ⟨r1, r2, r3, r4, r5⟩ := hR
  simp only at r1 r2 r3 r4 r5
  have R1 := Lib.hid r1
  have R2 := Lib.hid r2
  have HBZ := Lib.hid hz
  have LB := bls_len hz
  have HZ8 := Lib.hid hz8
  clear r1 r2 r3 r4 r5 hG hz hz8
  by_cases he : er = 0
  · subst he
    obtain ⟨hl5, hS⟩ := lex_size hL
    rw [← size_list] at hl5
    have HS := Lib.hid hS
    clear hL hS
    rw [if_pos rfl] at LX
    have hpl := Lib.hid (fun k => pre_len line.data.toList T (blB zs) (bl_len zs) k)
    rw [← size_list] at hpl
    go_enter Tryd.func7, Tryd.ntmps7
    go_wp2_with fail
    refine (LX.out _ (Below.refl _ _)).mono ?_
    rintro e w1 ⟨⟨v1, rfl, ht1⟩, hb1⟩
    have HB1 := Lib.hid hb1
    have HT1 := Lib.hid ht1
    clear ht1 hb1 LX
    go_wp2_with fail
    refine (BG.out _ HB1.out).mono ?_
    rintro e w2 ⟨rfl, hb2⟩
    have HT2 := Lib.hid (HT1.out.keep hb2)
    have HB2 := Lib.hid (Below.thn HB1.out HB1.out.size hb2)
    clear hb2 HT1
    have LN := toks_len HT2.out
    have hn2 := HB2.out.size
    go_wp2_with fail
    go_loopw [10, 33] (fun cv iv wr => ∃ k : Nat, k ≤ T.length ∧ iv = .int .i64 (k : Int) ∧ wr.ownsRow w2.heap.size 5 1 cv (preB line.data.toList T (blB zs) k).length (Lib.byteCells (preB line.data.toList T (blB zs) k)) ∧ Below w2.heap.size w2 wr) (fun _ iv _ => T.length - (intOf iv).toNat)
    case atStart => exact ⟨0, Nat.zero_le _, rfl, World.ownsRow_nil _ _ _ _, Below.refl _ _⟩
    case round =>
      obtain ⟨k, hk, rfl, hrow, hbr⟩ := hrel
      by_cases hlt : (k : Int) < (T.length : Int)
      · have hlt' : k < T.length := by omega
        obtain ⟨g, cap, x, hx, rfl, x1, x2, x3, x4⟩ := toks_at (HT2.out.keep hbr) hlt'
        obtain ⟨h1, h2, _, _⟩ := R1.out x (List.mem_of_getElem? hx)
        obtain ⟨D, hD⟩ : ∃ D, (⟨x.t.toArray⟩ : ByteArray) = D := ⟨_, rfl⟩
        rw [hD] at x2
        have w9 : IntKind.i64.wrap ((k : Int) + 1) = ((k + 1 : Nat) : Int) := by rw [IntWalk.i64_in _ (by omega)]; omega
        obtain ⟨kk, tt, nn, pp⟩ := x
        simp only at x1 x2 x3 x4 h1 h2
        have hrw := hbr.size
        obtain ⟨z, hzk⟩ : ∃ z, kB zs k = z := ⟨_, rfl⟩
        have HX := Lib.hid hx
        have hHR := Lib.hid hrow
        have HBR := Lib.hid hbr
        by_cases h0 : zs = []
        · have hz0 : z = 0 := by rw [← hzk]; unfold kB; rw [if_pos h0]
          subst hz0
          have LB0 : ∀ V' : World, Sem.run Tryd.prog (Builtin.len_ #[48] 3 #[bv]) V' = .ok (.int .i64 0) V' := fun V' => by rw [LB V', h0]; rfl
          have HZK := Lib.hid hzk
          clear hD hbr hx hrow h0 hzk LB
          have hlenk : (preB line.data.toList T (blB zs) k).length ≤ 264192 := Nat.le_trans (hpl.out k) (Nat.mul_le_mul (by omega : k ≤ 512) (by omega : line.size + 4 ≤ 516))
          go_wp2_with (at_builtin; refine Lib.wpList_append_own_string _ rfl _ _ 48 9 rfl w2.heap.size 5 i0 Tryd.underlying48 Tryd.underlying9 hi hi0 hi1 hi2 _ _ _ rfl (hHR.out.alloc _) _ rfl (by unfold maxLen; first | omega | (simp; omega)) (by first | omega | (simp; omega)) (by simp; omega) ?_; intro v3 w3 hown3 hgrow3 _; refine stop_here ?_)
          obtain ⟨P1, hP1⟩ : ∃ P1, preB line.data.toList T (blB zs) k ++ blB zs k = P1 := ⟨_, rfl⟩
          have hP1l : P1.length ≤ 264196 := by rw [← hP1, List.length_append]; have := bl_len zs k; omega
          have ho3 : w3.ownsRow w2.heap.size 5 1 v3 P1.length (Lib.byteCells P1) := by
            rw [← hP1]
            exact own_str hown3 rfl (by unfold blB; rw [HZK.out]; rfl)
          have hb3 : Below w2.heap.size w2 w3 := (HBR.out.alloc hrw _).grown hgrow3 (by simp; omega) (fun j ej => (hHR.out.lt j ej).1)
          have q3 : w3.cell? ⟨wr.heap.size, 3, none⟩ = some (.int .i64 pp) := (hgrow3.cell_far ⟨wr.heap.size, 3, none⟩ (by simp) (fun e => Nat.lt_irrefl _ (hHR.out.lt _ e.symm).2)).trans (cell_four_new wr _ _ _ _ _ 3 _ rfl)
          have hpre : ∀ r, r = slB line.data.toList T k → P1 ++ r = preB line.data.toList T (blB zs) (k + 1) := fun r hr => by rw [hr, ← hP1, List.append_assoc]; rfl
          have HPRE := Lib.hid hpre
          have HO3 := Lib.hid ho3
          have HB3 := Lib.hid hb3
          have HT3 := Lib.hid (HT2.out.keep hb3)
          have hz3 := hb3.size
          have hpp : pp.toNat ≤ line.size := by omega
          clear hown3 hgrow3 ho3 hb3 x1 x2 x3 x4 hP1 hpre
          refine Lib.hid ?_
          by_cases hlast : T.length = k + 1
          · have hl1 : (T.length : Int) ≤ (k : Int) + 1 := by omega
            have hsl := sl_last (line := line.data.toList) HX.out hlast
            have HSL := Lib.hid hsl
            have hxl := ext_le line pp.toNat line.size
            clear hsl hlast
            go_wp2_with (at_builtin; refine Lib.wpList_append_own_string _ rfl _ _ 48 9 rfl w2.heap.size 5 i0 Tryd.underlying48 Tryd.underlying9 hi hi0 hi1 hi2 _ _ _ rfl HO3.out _ rfl (by unfold maxLen; omega) (by omega) hz3 ?_; intro v4 w4 hown4 hgrow4 _; refine stop_here ?_)
            have ho4 := own_str hown4 rfl (extract_list _ _ _)
            rw [HPRE.out _ (by rw [HSL.out, size_list])] at ho4
            have hb4 : Below w2.heap.size w2 w4 := HB3.out.grown hgrow4 hz3 (fun j ej => (HO3.out.lt j ej).1)
            have HO4 := Lib.hid ho4
            have HB4 := Lib.hid hb4
            clear hown4 hgrow4 ho4 hb4 q3
            refine Lib.hid ?_
            go_wp2_with fail
            go_roundw
            case rel => exact ⟨k + 1, by omega, by first | rfl | rw [← w9], HO4.out, HB4.out⟩
            case measure => simp [intOf]; omega
          · have hl1 : (k : Int) + 1 < (T.length : Int) := by omega
            obtain ⟨g', cap', y, hy, hv, _, _, _, y4⟩ := toks_at HT3.out (k := k + 1) (by omega)
            cases hv
            have hsl := sl_mid (line := line.data.toList) HX.out hy
            have HSL := Lib.hid hsl
            have hpn := pair_next R2.out HX.out hy
            obtain ⟨hy1, hy2, _, _⟩ := R1.out y (List.mem_of_getElem? hy)
            obtain ⟨yk, yt, yn, yp⟩ := y
            simp only at hpn hy1 hy2 y4
            have hp1 : pp ≤ yp := by omega
            have hp2 : yp ≤ (line.size : Int) := by omega
            have hp3 : pp.toNat ≤ yp.toNat := by omega
            have hp4 : yp.toNat ≤ line.size := by omega
            have hxl := ext_le line pp.toNat yp.toNat
            clear hsl hy hlast
            go_wp2_with (at_builtin; refine Lib.wpList_append_own_string _ rfl _ _ 48 9 rfl w2.heap.size 5 i0 Tryd.underlying48 Tryd.underlying9 hi hi0 hi1 hi2 _ _ _ rfl HO3.out _ rfl (by unfold maxLen; omega) (by omega) hz3 ?_; intro v4 w4 hown4 hgrow4 _; refine stop_here ?_)
            have ho4 := own_str hown4 rfl (extract_list _ _ _)
            rw [HPRE.out _ HSL.out.symm] at ho4
            have hb4 : Below w2.heap.size w2 w4 := HB3.out.grown hgrow4 hz3 (fun j ej => (HO3.out.lt j ej).1)
            have HO4 := Lib.hid ho4
            have HB4 := Lib.hid hb4
            clear hown4 hgrow4 ho4 hb4 q3 y4
            refine Lib.hid ?_
            go_wp2_with fail
            go_roundw
            case rel => exact ⟨k + 1, by omega, by first | rfl | rw [← w9], HO4.out, HB4.out⟩
            case measure => simp [intOf]; omega
        · rcases HBZ.out with ⟨_, _, _, h⟩ | ⟨b, off, bcap, rfl, hb, hbc⟩
          · exact absurd h h0
          have hn0 : 0 < zs.length := List.length_pos_iff.2 h0
          have hmod : k % zs.length < zs.length := Nat.mod_lt _ hn0
          have hzg : zs[k % zs.length]? = some z := by
            rw [← hzk]; unfold kB; rw [if_neg h0, List.getD_eq_getElem?_getD, List.getElem?_eq_getElem hmod]; rfl
          have hzr := HZ8.out z (List.mem_of_getElem? hzg)
          have bc : wr.cell? ⟨b, off + k % zs.length, none⟩ = some (.int .u8 z) := ((hbr.mono hn2).cell (p := ⟨b, off + k % zs.length, none⟩) hb).trans ((HB2.out.cell (p := ⟨b, off + k % zs.length, none⟩) hb).trans (hbc _ _ hzg))
          have RM := rem_any k zs.length hn0
          have bcA := fun (o : Obj) => ((below1 wr o).cell (p := ⟨b, off + k % zs.length, none⟩) (by show b < wr.heap.size; omega)).trans bc
          obtain ⟨hz1, hz2⟩ := hzr
          have hn0' : (0 : Int) < (zs.length : Int) := by omega
          have hm' : ((k % zs.length : Nat) : Int) < (zs.length : Int) := by omega
          have HZK := Lib.hid hzk
          clear hD hzg hbc hbr hx hrow h0 hzk
          have hlenk : (preB line.data.toList T (blB zs) k).length ≤ 264192 := Nat.le_trans (hpl.out k) (Nat.mul_le_mul (by omega : k ≤ 512) (by omega : line.size + 4 ≤ 516))
          go_wp2_with (at_builtin; refine Lib.wpList_append_own_string _ rfl _ _ 48 9 rfl w2.heap.size 5 i0 Tryd.underlying48 Tryd.underlying9 hi hi0 hi1 hi2 _ _ _ rfl (hHR.out.alloc _) _ rfl (by unfold maxLen; simp; omega) (by simp; omega) (by simp; omega) ?_; intro v3 w3 hown3 hgrow3 _; refine stop_here ?_)
          obtain ⟨P1, hP1⟩ : ∃ P1, preB line.data.toList T (blB zs) k ++ blB zs k = P1 := ⟨_, rfl⟩
          have hP1l : P1.length ≤ 264196 := by rw [← hP1, List.length_append]; have := bl_len zs k; omega
          have ho3 : w3.ownsRow w2.heap.size 5 1 v3 P1.length (Lib.byteCells P1) := by
            rw [← hP1]
            exact own_str hown3 rfl (by rw [extract_list, List.drop_zero]; unfold blB; rw [HZK.out]; rfl)
          have hb3 : Below w2.heap.size w2 w3 := (HBR.out.alloc hrw _).grown hgrow3 (by simp; omega) (fun j ej => (hHR.out.lt j ej).1)
          have q3 : w3.cell? ⟨wr.heap.size, 3, none⟩ = some (.int .i64 pp) := (hgrow3.cell_far ⟨wr.heap.size, 3, none⟩ (by simp) (fun e => Nat.lt_irrefl _ (hHR.out.lt _ e.symm).2)).trans (cell_four_new wr _ _ _ _ _ 3 _ rfl)
          have hpre : ∀ r, r = slB line.data.toList T k → P1 ++ r = preB line.data.toList T (blB zs) (k + 1) := fun r hr => by rw [hr, ← hP1, List.append_assoc]; rfl
          have HPRE := Lib.hid hpre
          have HO3 := Lib.hid ho3
          have HB3 := Lib.hid hb3
          have HT3 := Lib.hid (HT2.out.keep hb3)
          have hz3 := hb3.size
          have hpp : pp.toNat ≤ line.size := by omega
          clear hown3 hgrow3 ho3 hb3 x1 x2 x3 x4 hP1 hpre
          refine Lib.hid ?_
          by_cases hlast : T.length = k + 1
          · have hl1 : (T.length : Int) ≤ (k : Int) + 1 := by omega
            have hsl := sl_last (line := line.data.toList) HX.out hlast
            have HSL := Lib.hid hsl
            have hxl := ext_le line pp.toNat line.size
            clear hsl hlast
            go_wp2_with (at_builtin; refine Lib.wpList_append_own_string _ rfl _ _ 48 9 rfl w2.heap.size 5 i0 Tryd.underlying48 Tryd.underlying9 hi hi0 hi1 hi2 _ _ _ rfl HO3.out _ rfl (by unfold maxLen; omega) (by omega) hz3 ?_; intro v4 w4 hown4 hgrow4 _; refine stop_here ?_)
            have ho4 := own_str hown4 rfl (extract_list _ _ _)
            rw [HPRE.out _ (by rw [HSL.out, size_list])] at ho4
            have hb4 : Below w2.heap.size w2 w4 := HB3.out.grown hgrow4 hz3 (fun j ej => (HO3.out.lt j ej).1)
            have HO4 := Lib.hid ho4
            have HB4 := Lib.hid hb4
            clear hown4 hgrow4 ho4 hb4 q3
            refine Lib.hid ?_
            go_wp2_with fail
            go_roundw
            case rel => exact ⟨k + 1, by omega, by first | rfl | rw [← w9], HO4.out, HB4.out⟩
            case measure => simp [intOf]; omega
          · have hl1 : (k : Int) + 1 < (T.length : Int) := by omega
            obtain ⟨g', cap', y, hy, hv, _, _, _, y4⟩ := toks_at HT3.out (k := k + 1) (by omega)
            cases hv
            have hsl := sl_mid (line := line.data.toList) HX.out hy
            have HSL := Lib.hid hsl
            have hpn := pair_next R2.out HX.out hy
            obtain ⟨hy1, hy2, _, _⟩ := R1.out y (List.mem_of_getElem? hy)
            obtain ⟨yk, yt, yn, yp⟩ := y
            simp only at hpn hy1 hy2 y4
            have hp1 : pp ≤ yp := by omega
            have hp2 : yp ≤ (line.size : Int) := by omega
            have hp3 : pp.toNat ≤ yp.toNat := by omega
            have hp4 : yp.toNat ≤ line.size := by omega
            have hxl := ext_le line pp.toNat yp.toNat
            clear hsl hy hlast
            go_wp2_with (at_builtin; refine Lib.wpList_append_own_string _ rfl _ _ 48 9 rfl w2.heap.size 5 i0 Tryd.underlying48 Tryd.underlying9 hi hi0 hi1 hi2 _ _ _ rfl HO3.out _ rfl (by unfold maxLen; omega) (by omega) hz3 ?_; intro v4 w4 hown4 hgrow4 _; refine stop_here ?_)
            have ho4 := own_str hown4 rfl (extract_list _ _ _)
            rw [HPRE.out _ HSL.out.symm] at ho4
            have hb4 : Below w2.heap.size w2 w4 := HB3.out.grown hgrow4 hz3 (fun j ej => (HO3.out.lt j ej).1)
            have HO4 := Lib.hid ho4
            have HB4 := Lib.hid hb4
            clear hown4 hgrow4 ho4 hb4 q3 y4
            refine Lib.hid ?_
            go_wp2_with fail
            go_roundw
            case rel => exact ⟨k + 1, by omega, by first | rfl | rw [← w9], HO4.out, HB4.out⟩
            case measure => simp [intOf]; omega
      · have hkl : k = T.length := by omega
        subst hkl
        obtain ⟨P, hP⟩ : ∃ P, preB line.data.toList T (blB zs) T.length = P := ⟨_, rfl⟩
        have hPl : P.length ≤ 264192 := by rw [← hP]; exact Nat.le_trans (hpl.out T.length) (Nat.mul_le_mul hF (by omega : line.size + 4 ≤ 516))
        have hJ := pre_all line.data.toList (32 :: 47 :: 47 :: behind.data.toList) T (blB zs)
        rw [hP] at hrow hJ
        have HJ := Lib.hid hJ
        have HRW := Lib.hid hrow
        have HBR := Lib.hid hbr
        have hzr := hbr.size
        clear hP hJ hrow hbr hpl
        go_wp2_with (at_builtin; refine Lib.wpList_append_own_string _ rfl _ _ 48 9 rfl w2.heap.size 5 i0 Tryd.underlying48 Tryd.underlying9 hi hi0 hi1 hi2 _ _ _ rfl HRW.out ⟨#[32, 47, 47]⟩ rfl (by have e : (⟨#[32, 47, 47]⟩ : ByteArray).size = 3 := rfl; unfold maxLen; omega) (by have e : (⟨#[32, 47, 47]⟩ : ByteArray).size = 3 := rfl; omega) hzr ?_; intro v5 w5 hown5 hgrow5 _; refine stop_here ?_)
        have ho5 := own_str (m := [32, 47, 47]) hown5 rfl rfl
        have hb5 : Below w2.heap.size w2 w5 := HBR.out.grown hgrow5 hzr (fun j ej => (HRW.out.lt j ej).1)
        obtain ⟨P2, hP2⟩ : ∃ P2, P ++ [32, 47, 47] = P2 := ⟨_, rfl⟩
        have hP2l : P2.length ≤ 264195 := by rw [← hP2, List.length_append]; simp; omega
        rw [hP2] at ho5
        have HO5 := Lib.hid ho5
        have HB5 := Lib.hid hb5
        have hz5 := hb5.size
        have HP2 := Lib.hid hP2
        clear hown5 hgrow5 ho5 hb5 hP2
        refine Lib.hid ?_
        go_wp2_with (at_builtin; refine Lib.wpList_append_own_string _ rfl _ _ 48 9 rfl w2.heap.size 5 i0 Tryd.underlying48 Tryd.underlying9 hi hi0 hi1 hi2 _ _ _ rfl HO5.out behind rfl (by unfold maxLen; omega) (by omega) hz5 ?_; intro v6 w6 hown6 hgrow6 _; refine stop_here ?_)
        have ho6 := own_str (m := behind.data.toList) hown6 rfl rfl
        have hb6 : Below w2.heap.size w2 w6 := HB5.out.grown hgrow6 hz5 (fun j ej => (HO5.out.lt j ej).1)
        have hJ2 : P2 ++ behind.data.toList = joinB line.data.toList (32 :: 47 :: 47 :: behind.data.toList) (blB zs) 0 T := by
          rw [HJ.out, ← HP2.out, List.append_assoc]; rfl
        rw [hJ2] at ho6
        obtain ⟨J, hJJ⟩ : ∃ J, joinB line.data.toList (32 :: 47 :: 47 :: behind.data.toList) (blB zs) 0 T = J := ⟨_, rfl⟩
        rw [hJJ] at ho6
        have hJ3 : 3 ≤ J.length := by
          rw [← hJJ, HJ.out, List.length_append]; simp only [List.length_cons]; omega
        obtain ⟨vb, vc, rfl⟩ := own_sliceN ho6
        have HO6 := Lib.hid ho6
        have HB6 := Lib.hid hb6
        have HT6 := Lib.hid (HT2.out.keep hb6)
        have HW6 := Lib.hid (show Below w.heap.size w w6 from Below.thn HB2.out HB2.out.size hb6)
        have HJJ := Lib.hid hJJ
        clear hown6 hgrow6 ho6 hb6 hJ2 hJJ
        refine Lib.hid ?_
        by_cases hT0 : T.length = 0
        · have ht : ¬ ((0 : Int) < (T.length : Int)) := by omega
          have ht2 : decide (0 < T.length) = false := decide_eq_false (by omega)
          go_wp2_with fail
          go_ret
          exact ⟨rfl, HW6.out⟩
        · have ht : (0 : Int) < (T.length : Int) := by omega
          have ht2 : 0 < T.length := by omega
          have hj0 : (0 : Int) < (J.length : Int) := by omega
          have hj1 : 0 < J.length := by omega
          by_cases h512 : J.length ≤ 512
          · have h5 : (J.length : Int) ≤ 512 := by omega
            have hne : T ≠ [] := fun e => hT0 (by rw [e]; rfl)
            have CR := conv_row HO6.out rfl (fun e => by rw [e] at hj1; simp at hj1)
            have hjl := join_lex line.data.toList behind.data.toList (blB zs) (bl_blanks zs) (line.data.toList.length + 1) 0 T a (Nat.zero_le _) (Nat.lt_succ_self _) HS.out hne [] 0 0 rfl
            rw [List.nil_append, HJJ.out] at hjl
            have hlb : lineB J = lexS 0 J := by unfold lineB; rw [if_neg (by omega)]
            have LJ := lex_toks ⟨J.toArray⟩ w6 (HG.out _ HW6.out) (by unfold maxLen; rw [size_list]; show J.length ≤ _; omega)
            rw [show (⟨J.toArray⟩ : ByteArray).data.toList = J from rfl, hlb, hjl.2, if_pos rfl] at LJ
            obtain ⟨X, hX⟩ : ∃ X, (lexS 0 J).1 = X := ⟨_, rfl⟩
            obtain ⟨xa, hxa⟩ : ∃ xa, (lexS 0 J).2.1 = xa := ⟨_, rfl⟩
            rw [hX, hxa] at LJ
            rw [hX] at hjl
            have HXT := Lib.hid hjl.1
            have hXl : X.length = T.length := by have := congrArg List.length hjl.1; rw [List.length_map, List.length_map] at this; exact this
            have LH := Lib.hid LJ
            clear LJ hjl hlb hX hxa hne hT0
            go_wp2_with fail
            refine LH.out.mono ?_
            rintro e w7 ⟨⟨v7, rfl, ht7⟩, hb7⟩
            have HW7 := Lib.hid (Below.thn HW6.out HW6.out.size hb7)
            have HT7 := Lib.hid (HT6.out.keep hb7)
            have PX := Lib.hid (plain_any v7 X w7 ht7 (by omega))
            clear hb7 ht7 LH CR
            go_wp2_with fail
            refine PX.out.mono ?_
            rintro e w8 ⟨⟨v8, rfl, ht8⟩, hb8⟩
            rw [HXT.out] at ht8
            have HW8 := Lib.hid (Below.thn HW7.out HW7.out.size hb8)
            have HT8 := Lib.hid ht8
            have PT := Lib.hid (plain_any v1 T w8 (HT7.out.keep hb8) (by omega))
            clear hb8 ht8 PX
            go_wp2_with fail
            refine PT.out.mono ?_
            rintro e w9' ⟨⟨v9, rfl, ht9⟩, hb9⟩
            have HW9 := Lib.hid (Below.thn HW8.out HW8.out.size hb9)
            have EQ := Lib.hid (equal_toks v8 v9 (T.map plainT) w9' (HT8.out.keep hb9) ht9 (by rw [List.length_map]; omega))
            clear hb9 ht9 PT
            go_wp2_with fail
            refine EQ.out.mono ?_
            rintro e wA ⟨rfl, hbA⟩
            have HWA := Lib.hid (Below.thn HW9.out HW9.out.size hbA)
            clear hbA EQ
            go_wp2_with fail
            go_ret
            exact ⟨rfl, HWA.out⟩
          · have h5 : ¬ ((J.length : Int) ≤ 512) := by omega
            go_wp2_with fail
            go_ret
            exact ⟨rfl, HW6.out⟩
  · have e1 : (er == 0) = false := by simp [he]
    have e2 : (er != 0) = true := by simp [he]
    rw [if_neg he] at LX
    clear hL
    go_enter Tryd.func7, Tryd.ntmps7
    go_wp2_with fail
    refine (LX.out _ (Below.refl _ _)).mono ?_
    rintro e w1 ⟨⟨v1, rfl, ht1⟩, hb1⟩
    have HB1 := Lib.hid hb1
    clear ht1 hb1 LX
    go_wp2_with fail
    refine (BG.out _ HB1.out).mono ?_
    rintro e w2 ⟨rfl, hb2⟩
    have HB2 := Lib.hid (Below.thn HB1.out HB1.out.size hb2)
    clear hb2
    go_wp2_with fail
    refine (BG.out _ HB2.out).mono ?_
    rintro e w3 ⟨rfl, hb3⟩
    have HB3 := Lib.hid (Below.thn HB2.out HB2.out.size hb3)
    clear hb3
    go_wp2_with fail
    go_ret
    exact ⟨rfl, HB3.out⟩
end Go.Proofs.YtjmdcimfmmfinaaDoor
