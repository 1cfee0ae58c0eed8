/-
  What each call of Pack returns, the program's own and the document's, for any fields and numbers; nothing that lay in memory has changed.
-/
import Derived.Test.YtklibabeojpkhaaBitsD
namespace Go.Proofs.Ytklibabeojpkhaa
open Go.RowKit BM

/-! ### Put, in one -/
def liesB (l n : Int) : Bool := decide (0 ≤ l ∧ l < 32 ∧ 1 ≤ n ∧ n ≤ 32 ∧ l + n ≤ 32)
def putR (x l n v : Int) : Int × Int := if liesB l n then if v < powI n then (putI x l n v, 0) else (0, 7) else (0, 10)
theorem putR_bd {x l n v : Int} (b1 : 0 ≤ x) (b2 : x < 4294967296) (c1 : 0 ≤ v) : 0 ≤ (putR x l n v).1 ∧ (putR x l n v).1 < 4294967296 := by
  unfold putR
  by_cases h : liesB l n = true
  · rw [if_pos h]
    have h' := of_decide_eq_true h
    by_cases g : v < powI n
    · rw [if_pos g]; exact putI_bd b1 b2 c1 g h'.1 h'.2.2.1 h'.2.2.2.2
    · rw [if_neg g]; decide
  · rw [if_neg h]; decide
theorem put_all (x l n v : Int) (w : World) (b1 : 0 ≤ x) (b2 : x < 4294967296) (c1 : 0 ≤ v) (c2 : v < 4294967296) :
    Calls Try.prog 12 #[.int .u32 x, .agg #[.int .i64 l, .int .i64 n], .int .u32 v] w fun e w' => e = .returned (.tuple #[.int .u32 (putR x l n v).1, .int .i64 (putR x l n v).2]) ∧ Below w.heap.size w w' := by
  unfold putR
  by_cases h : liesB l n = true
  · rw [if_pos h]
    obtain ⟨h1, h2, h3, h4, h5⟩ := of_decide_eq_true h
    by_cases g : v < powI n
    · rw [if_pos g]; exact put_yes x l n v w b1 b2 c1 c2 h1 h2 h3 h4 h5 g
    · rw [if_neg g]; exact put_over x l n v w c1 c2 h1 h2 h3 h4 h5 g
  · rw [if_neg h]; exact put_no x l n v w (fun g => h (decide_eq_true g))
theorem rput_all (x l n v : Int) (w : World) (b1 : 0 ≤ x) (b2 : x < 4294967296) (c1 : 0 ≤ v) (c2 : v < 4294967296) :
    Calls Try.prog 13 #[.int .u32 x, .agg #[.int .i64 l, .int .i64 n], .int .u32 v] w fun e w' => e = .returned (.tuple #[.int .u32 (putR x l n v).1, .int .i64 (putR x l n v).2]) ∧ Below w.heap.size w w' := by
  unfold putR
  by_cases h : liesB l n = true
  · rw [if_pos h]
    obtain ⟨h1, h2, h3, h4, h5⟩ := of_decide_eq_true h
    by_cases g : v < powI n
    · rw [if_pos g]; exact rput_yes x l n v w b1 b2 c1 c2 h1 h2 h3 h4 h5 g
    · rw [if_neg g]; exact rput_over x l n v w c1 c2 h1 h2 h3 h4 h5 g
  · rw [if_neg h]; exact rput_no x l n v w (fun g => h (decide_eq_true g))

/-! ### a row of fields, a row of numbers in memory -/
def Flds (w : World) (A : Option Addr) (len : Nat) (L N : Nat → Int) : Prop :=
  ∀ i, i < len → ∃ b off, A = some ⟨b, off, none⟩ ∧ b < w.heap.size ∧ w.cell? ⟨b, off + i * 2, none⟩ = some (.int .i64 (L i)) ∧ w.cell? ⟨b, off + i * 2 + 1, none⟩ = some (.int .i64 (N i))
def Nums (w : World) (A : Option Addr) (len : Nat) (V : Nat → Int) : Prop :=
  ∀ i, i < len → ∃ b off, A = some ⟨b, off, none⟩ ∧ b < w.heap.size ∧ w.cell? ⟨b, off + i, none⟩ = some (.int .u32 (V i)) ∧ 0 ≤ V i ∧ V i < 4294967296
theorem Flds.keep {w w' : World} {A : Option Addr} {len : Nat} {L N : Nat → Int} (h : Flds w A len L N) (hb : Below w.heap.size w w') : Flds w' A len L N := fun i hi => by
  obtain ⟨b, off, e, hlt, h0, h1⟩ := h i hi
  have := hb.size
  exact ⟨b, off, e, by omega, by rw [hb.cell (p := ⟨b, off + i * 2, none⟩) hlt, h0], by rw [hb.cell (p := ⟨b, off + i * 2 + 1, none⟩) hlt, h1]⟩
theorem Nums.keep {w w' : World} {A : Option Addr} {len : Nat} {V : Nat → Int} (h : Nums w A len V) (hb : Below w.heap.size w w') : Nums w' A len V := fun i hi => by
  obtain ⟨b, off, e, hlt, h0, h1⟩ := h i hi
  have := hb.size
  exact ⟨b, off, e, by omega, by rw [hb.cell (p := ⟨b, off + i, none⟩) hlt, h0], h1⟩

def packS (x : Int) (L N V : Nat → Int) : Nat → Int × Int
  | 0 => (x, 0)
  | k + 1 => if (packS x L N V k).2 = 0 then putR (packS x L N V k).1 (L k) (N k) (V k) else packS x L N V k
theorem packS_stuck {x : Int} {L N V : Nat → Int} {k m : Nat} (h : (packS x L N V k).2 ≠ 0) (hm : k ≤ m) : packS x L N V m = packS x L N V k := by
  induction m with
  | zero => rw [show k = 0 by omega]
  | succ m ih =>
    by_cases g : k = m + 1
    · rw [g]
    · have e := ih (by omega)
      show (if (packS x L N V m).2 = 0 then _ else _) = _
      rw [e, if_neg h]

set_option maxHeartbeats 400000 in
theorem pack_no (x : Int) (A B : Option Addr) (len cap vlen vcap : Nat) (w : World) (h : len ≠ vlen) :
    Calls Try.prog 15 #[.int .u32 x, .slice A len cap, .slice B vlen vcap] w fun e w' => e = .returned (.tuple #[.int .u32 0, .int .i64 1]) ∧ Below w.heap.size w w' := by
  have h' : ((len : Int) != (vlen : Int)) = true := by rw [bne_iff_ne]; omega
  clear h
  go_enter Try.func15, Try.ntmps15
  go_wp2
  go_ret2
  exact ⟨rfl, Below.refl _ _⟩
/-- three cells that are read beside a call that makes memory -/
theorem three_start {w W : World} {a b : Value} {c : Option Value} {T : TypeId} {n bv ov : Nat} (hb : Below n w W) (hn : n ≤ W.heap.size) (hv : bv < W.heap.size) (hc : W.cell? ⟨bv, ov, none⟩ = c) :
    (((W.alloc (.cells #[a, b] T)).drew.cell? ⟨W.heap.size, 0, none⟩ = some a ∧ (W.alloc (.cells #[a, b] T)).drew.cell? ⟨W.heap.size, 1, none⟩ = some b) ∧ (W.alloc (.cells #[a, b] T)).drew.cell? ⟨bv, ov, none⟩ = c) ∧
      W.heap.size < (W.alloc (.cells #[a, b] T)).drew.heap.size ∧ bv < (W.alloc (.cells #[a, b] T)).drew.heap.size ∧ Below n w (W.alloc (.cells #[a, b] T)).drew := by
  have h := two_start (Below.refl (w := W.alloc (.cells #[a, b] T)) _)
  have hk : (W.alloc (.cells #[a, b] T)).cell? ⟨bv, ov, none⟩ = W.cell? ⟨bv, ov, none⟩ := ((Below.refl W.heap.size W).alloc (Nat.le_refl _) _).cell (p := ⟨bv, ov, none⟩) hv
  refine ⟨⟨h.1, ?_⟩, h.2.1, ?_, ?_⟩
  · show (W.alloc (.cells #[a, b] T)).cell? _ = _; rw [hk, hc]
  · show bv < (W.alloc _).heap.size; simp; omega
  · exact (Below.thn hb hn ((Below.refl _ _).alloc (Nat.le_refl _) _)).drew
theorem three_keep {w W w1 : World} {a b c : Option Value} {B n bv ov : Nat} (hb : Below W.heap.size W w1)
    (h : ((W.cell? ⟨B, 0, none⟩ = a ∧ W.cell? ⟨B, 1, none⟩ = b) ∧ W.cell? ⟨bv, ov, none⟩ = c) ∧ B < W.heap.size ∧ bv < W.heap.size ∧ Below n w W) (hn : n ≤ w.heap.size) :
    ((w1.cell? ⟨B, 0, none⟩ = a ∧ w1.cell? ⟨B, 1, none⟩ = b) ∧ w1.cell? ⟨bv, ov, none⟩ = c) ∧ B < w1.heap.size ∧ bv < w1.heap.size ∧ Below n w w1 := by
  obtain ⟨⟨⟨h0, h1⟩, h2⟩, hz, hz2, hB⟩ := h
  have hs := hb.size
  have hs2 := hB.size
  refine ⟨⟨⟨?_, ?_⟩, ?_⟩, by omega, by omega, Below.thn hB (by omega) hb⟩
  · rw [(bcell hb).1 B 0 hz, h0]
  · rw [(bcell hb).1 B 1 hz, h1]
  · rw [(bcell hb).1 bv ov hz2, h2]
theorem putR_err {x l n v : Int} (h : (putR x l n v).2 ≠ 0) : (putR x l n v).1 = 0 := by
  unfold putR at h ⊢
  by_cases h1 : liesB l n = true
  · rw [if_pos h1] at h ⊢
    by_cases g : v < powI n
    · rw [if_pos g] at h; exact absurd rfl h
    · rw [if_neg g]
  · rw [if_neg h1]
theorem packS_next {x : Int} {L N V : Nat → Int} {k : Nat} (hz : (packS x L N V k).2 = 0) : packS x L N V (k + 1) = putR (packS x L N V k).1 (L k) (N k) (V k) := by
  show (if (packS x L N V k).2 = 0 then _ else _) = _
  rw [if_pos hz]
theorem pack_err {x : Int} {L N V : Nat → Int} {k len : Nat} (hk : k < len) (hz : (packS x L N V k).2 = 0) (hq : (putR (packS x L N V k).1 (L k) (N k) (V k)).2 ≠ 0) :
    (0, (putR (packS x L N V k).1 (L k) (N k) (V k)).2) = packS x L N V len := by
  have e := packS_next hz
  rw [packS_stuck (k := k + 1) (m := len) (by rw [e]; exact hq) (by omega), e]
  exact Prod.ext (putR_err hq).symm rfl
theorem retP {r s : Int × Int} (h : r = s) : Ending.returned (.tuple #[.int .u32 r.1, .int .i64 r.2]) = .returned (.tuple #[.int .u32 s.1, .int .i64 s.2]) := by rw [h]

set_option maxHeartbeats 400000 in
theorem pack_yes (x : Int) (A B : Option Addr) (len cap vcap : Nat) (L N V : Nat → Int) (w : World) (b1 : 0 ≤ x) (b2 : x < 4294967296) (hlen : len ≤ 200) (hL : Flds w A len L N) (hV : Nums w B len V) :
    Calls Try.prog 15 #[.int .u32 x, .slice A len cap, .slice B len vcap] w fun e w' => e = .returned (.tuple #[.int .u32 (packS x L N V len).1, .int .i64 (packS x L N V len).2]) ∧ Below w.heap.size w w' := by
  have HL := Lib.hid hL
  have HV := Lib.hid hV
  have BB := Lib.hid (And.intro b1 b2)
  clear hL hV b1 b2
  go_enter Try.func15, Try.ntmps15
  go_wp2
  go_loopw [8, 20] (fun v i wr => ∃ k : Nat, k ≤ len ∧ i = .int .i64 k ∧ v = .int .u32 (packS x L N V k).1 ∧ (packS x L N V k).2 = 0 ∧ (0 ≤ (packS x L N V k).1 ∧ (packS x L N V k).1 < 4294967296) ∧ Below w.heap.size w wr) (fun _ i _ => len - (intOf i).toNat)
  case atStart => exact ⟨0, by omega, rfl, rfl, rfl, BB.out, Below.refl _ _⟩
  case round =>
    obtain ⟨k, hk, rfl, rfl, hz, hbd, hbel⟩ := hrel
    by_cases hlt : k < len
    · obtain ⟨b, off, rfl, hb, c0, c1⟩ := (HL.out.keep hbel) k hlt
      obtain ⟨bv, offv, rfl, hbv, d0, d1, d2⟩ := (HV.out.keep hbel) k hlt
      have P := put_all (packS x L N V k).1 (L k) (N k) (V k)
      have nx := Lib.hid (packS_next hz)
      have bd := Lib.hid (putR_bd (l := L k) (n := N k) hbd.1 hbd.2 d1)
      have er := Lib.hid (pack_err hlt hz)
      have Z := Lib.hid hz
      have HB := Lib.hid hbd
      have D := Lib.hid (And.intro d1 d2)
      have hsz := hbel.size
      clear hz hbd d1 d2
      generalize (packS x L N V k).1 = p at *
      generalize putR p (L k) (N k) (V k) = q at *
      by_cases hq : q.2 = 0
      · have P' := Lib.hid P
        have Q := Lib.hid hq
        clear P hq
        go_wp2
        go_region_held3 (fun w' => ((w'.cell? ⟨wr.heap.size, 0, none⟩ = some (.int .i64 (L k)) ∧ w'.cell? ⟨wr.heap.size, 1, none⟩ = some (.int .i64 (N k))) ∧ w'.cell? ⟨bv, offv + k, none⟩ = some (.int .u32 (V k))) ∧ wr.heap.size < w'.heap.size ∧ bv < w'.heap.size ∧ Below w.heap.size w w')
          (first | exact three_start (by assumption) (by assumption) (by assumption) (by assumption) | exact three_keep (by assumption) (by assumption) (Nat.le_refl _))
          ((go_at_call 12; refine (P'.out _ HB.out.1 HB.out.2 D.out.1 D.out.2).mono ?_; rintro e w1 ⟨rfl, hb⟩; rw [Q.out]))
        go_wp2
        go_roundw
        case rel =>
          rename_i hS
          exact ⟨k + 1, by omega, by go_num, by rw [nx.out], by rw [nx.out]; exact Q.out, by rw [nx.out]; exact bd.out, hS.2.2.2⟩
        case measure => simp [intOf]; omega
      · have P' := Lib.hid P
        have ht : (q.2 != 0) = true := by rw [bne_iff_ne]; exact hq
        have Q := Lib.hid hq
        clear P hq
        go_wp2
        go_region_held3 (fun w' => ((w'.cell? ⟨wr.heap.size, 0, none⟩ = some (.int .i64 (L k)) ∧ w'.cell? ⟨wr.heap.size, 1, none⟩ = some (.int .i64 (N k))) ∧ w'.cell? ⟨bv, offv + k, none⟩ = some (.int .u32 (V k))) ∧ wr.heap.size < w'.heap.size ∧ bv < w'.heap.size ∧ Below w.heap.size w w')
          (first | exact three_start (by assumption) (by assumption) (by assumption) (by assumption) | exact three_keep (by assumption) (by assumption) (Nat.le_refl _))
          ((go_at_call 12; refine (P'.out _ HB.out.1 HB.out.2 D.out.1 D.out.2).mono ?_; rintro e w1 ⟨rfl, hb⟩))
        go_wp2
        go_ret2
        rename_i hS
        exact ⟨retP (er.out Q.out), hS.2.2.2⟩
    · have hkl : k = len := by omega
      subst hkl
      have Z := Lib.hid hz
      clear hz
      go_wp2
      go_ret2
      exact ⟨retP (r := ((packS x L N V k).1, 0)) (Prod.ext rfl Z.out.symm), hbel⟩
set_option maxHeartbeats 400000 in
theorem rpack_no (x : Int) (A B : Option Addr) (len cap vlen vcap : Nat) (w : World) (h : len ≠ vlen) :
    Calls Try.prog 16 #[.int .u32 x, .slice A len cap, .slice B vlen vcap] w fun e w' => e = .returned (.tuple #[.int .u32 0, .int .i64 1]) ∧ Below w.heap.size w w' := by
  have h' : ((len : Int) != (vlen : Int)) = true := by rw [bne_iff_ne]; omega
  clear h
  go_enter Try.func16, Try.ntmps16
  go_wp2
  go_ret2
  exact ⟨rfl, Below.refl _ _⟩

/-- the same at any places -/
theorem any_start {w W : World} {a b c : Option Value} {n B o0 o1 bv ov : Nat} (hB : Below n w W) (h0 : W.cell? ⟨B, o0, none⟩ = a) (h1 : W.cell? ⟨B, o1, none⟩ = b) (hz : B < W.heap.size) (h2 : W.cell? ⟨bv, ov, none⟩ = c) (hv : bv < W.heap.size) :
    ((W.drew.cell? ⟨B, o0, none⟩ = a ∧ W.drew.cell? ⟨B, o1, none⟩ = b) ∧ W.drew.cell? ⟨bv, ov, none⟩ = c) ∧ B < W.drew.heap.size ∧ bv < W.drew.heap.size ∧ Below n w W.drew :=
  ⟨⟨⟨h0, h1⟩, h2⟩, hz, hv, hB.drew⟩
theorem any_keep {w W w1 : World} {a b c : Option Value} {B n o0 o1 bv ov : Nat} (hb : Below W.heap.size W w1)
    (h : ((W.cell? ⟨B, o0, none⟩ = a ∧ W.cell? ⟨B, o1, none⟩ = b) ∧ W.cell? ⟨bv, ov, none⟩ = c) ∧ B < W.heap.size ∧ bv < W.heap.size ∧ Below n w W) (hn : n ≤ w.heap.size) :
    ((w1.cell? ⟨B, o0, none⟩ = a ∧ w1.cell? ⟨B, o1, none⟩ = b) ∧ w1.cell? ⟨bv, ov, none⟩ = c) ∧ B < w1.heap.size ∧ bv < w1.heap.size ∧ Below n w w1 := by
  obtain ⟨⟨⟨h0, h1⟩, h2⟩, hz, hz2, hB⟩ := h
  have hs := hb.size
  have hs2 := hB.size
  refine ⟨⟨⟨?_, ?_⟩, ?_⟩, by omega, by omega, Below.thn hB (by omega) hb⟩
  · rw [(bcell hb).1 B o0 hz, h0]
  · rw [(bcell hb).1 B o1 hz, h1]
  · rw [(bcell hb).1 bv ov hz2, h2]
set_option maxHeartbeats 400000 in
theorem rpack_yes (x : Int) (A B : Option Addr) (len cap vcap : Nat) (L N V : Nat → Int) (w : World) (b1 : 0 ≤ x) (b2 : x < 4294967296) (hlen : len ≤ 200) (hL : Flds w A len L N) (hV : Nums w B len V) :
    Calls Try.prog 16 #[.int .u32 x, .slice A len cap, .slice B len vcap] w fun e w' => e = .returned (.tuple #[.int .u32 (packS x L N V len).1, .int .i64 (packS x L N V len).2]) ∧ Below w.heap.size w w' := by
  have HL := Lib.hid hL
  have HV := Lib.hid hV
  have BB := Lib.hid (And.intro b1 b2)
  clear hL hV b1 b2
  go_enter Try.func16, Try.ntmps16
  go_wp2
  go_loopw [0, 8] (fun v i wr => ∃ k : Nat, k ≤ len ∧ i = .int .i64 k ∧ v = .int .u32 (packS x L N V k).1 ∧ (packS x L N V k).2 = 0 ∧ (0 ≤ (packS x L N V k).1 ∧ (packS x L N V k).1 < 4294967296) ∧ Below w.heap.size w wr) (fun _ i _ => len - (intOf i).toNat)
  case atStart => exact ⟨0, by omega, rfl, rfl, rfl, BB.out, Below.refl _ _⟩
  case round =>
    obtain ⟨k, hk, rfl, rfl, hz, hbd, hbel⟩ := hrel
    by_cases hlt : k < len
    · obtain ⟨b, off, rfl, hb, c0, c1⟩ := (HL.out.keep hbel) k hlt
      obtain ⟨bv, offv, rfl, hbv, d0, d1, d2⟩ := (HV.out.keep hbel) k hlt
      have P := rput_all (packS x L N V k).1 (L k) (N k) (V k)
      have nx := Lib.hid (packS_next hz)
      have bd := Lib.hid (putR_bd (l := L k) (n := N k) hbd.1 hbd.2 d1)
      have er := Lib.hid (pack_err hlt hz)
      have Z := Lib.hid hz
      have HB := Lib.hid hbd
      have D := Lib.hid (And.intro d1 d2)
      have hsz := hbel.size
      clear hz hbd d1 d2
      generalize (packS x L N V k).1 = p at *
      generalize putR p (L k) (N k) (V k) = q at *
      by_cases hq : q.2 = 0
      · have P' := Lib.hid P
        have Q := Lib.hid hq
        clear P hq
        go_wp2
        go_region_held3 (fun w' => ((w'.cell? ⟨b, off + k * 2, none⟩ = some (.int .i64 (L k)) ∧ w'.cell? ⟨b, off + k * 2 + 1, none⟩ = some (.int .i64 (N k))) ∧ w'.cell? ⟨bv, offv + k, none⟩ = some (.int .u32 (V k))) ∧ b < w'.heap.size ∧ bv < w'.heap.size ∧ Below w.heap.size w w')
          (first | exact any_start (by assumption) (by assumption) (by assumption) (by assumption) (by assumption) (by assumption) | exact any_keep (by assumption) (by assumption) (Nat.le_refl _))
          ((go_at_call 13; refine (P'.out _ HB.out.1 HB.out.2 D.out.1 D.out.2).mono ?_; rintro e w1 ⟨rfl, hb1⟩; rw [Q.out]))
        go_wp2
        go_roundw
        case rel =>
          rename_i hS
          exact ⟨k + 1, by omega, by go_num, by rw [nx.out], by rw [nx.out]; exact Q.out, by rw [nx.out]; exact bd.out, hS.2.2.2⟩
        case measure => simp [intOf]; omega
      · have P' := Lib.hid P
        have ht : (q.2 != 0) = true := by rw [bne_iff_ne]; exact hq
        have Q := Lib.hid hq
        clear P hq
        go_wp2
        go_region_held3 (fun w' => ((w'.cell? ⟨b, off + k * 2, none⟩ = some (.int .i64 (L k)) ∧ w'.cell? ⟨b, off + k * 2 + 1, none⟩ = some (.int .i64 (N k))) ∧ w'.cell? ⟨bv, offv + k, none⟩ = some (.int .u32 (V k))) ∧ b < w'.heap.size ∧ bv < w'.heap.size ∧ Below w.heap.size w w')
          (first | exact any_start (by assumption) (by assumption) (by assumption) (by assumption) (by assumption) (by assumption) | exact any_keep (by assumption) (by assumption) (Nat.le_refl _))
          ((go_at_call 13; refine (P'.out _ HB.out.1 HB.out.2 D.out.1 D.out.2).mono ?_; rintro e w1 ⟨rfl, hb1⟩))
        go_wp2
        go_ret2
        rename_i hS _ _
        exact ⟨retP (er.out Q.out), hS.2.2.2⟩
    · have hkl : k = len := by omega
      subst hkl
      have Z := Lib.hid hz
      clear hz
      go_wp2
      go_ret2
      exact ⟨retP (r := ((packS x L N V k).1, 0)) (Prod.ext rfl Z.out.symm), hbel⟩
end Go.Proofs.Ytklibabeojpkhaa
