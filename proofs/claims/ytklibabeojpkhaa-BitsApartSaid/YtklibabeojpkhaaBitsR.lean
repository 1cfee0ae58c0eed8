/-
  What each call of the document's own Apart returns, for any fields; nothing that lay in memory has changed.
-/
import Derived.Test.YtklibabeojpkhaaBitsQ
namespace Go.Proofs.Ytklibabeojpkhaa
open Go.RowKit BM

/-- the row 'seen': a bool for each bit of a word -/
def Seen (w : World) (S : Nat) (f : Nat → Bool) : Prop := ∀ i, i < 32 → w.cell? ⟨S, i, none⟩ = some (.bool (f i)) ∧ w.frozen? ⟨S, i, none⟩ = false
theorem Seen.keep {w w' : World} {S : Nat} {f : Nat → Bool} (h : Seen w S f) (hS : S < w.heap.size) (hb : Below w.heap.size w w') : Seen w' S f := fun i hi =>
  ⟨by rw [hb.cell (p := ⟨S, i, none⟩) hS]; exact (h i hi).1, by rw [hb.frozen (p := ⟨S, i, none⟩) hS]; exact (h i hi).2⟩
theorem Seen.set {w : World} {S j : Nat} {f g : Nat → Bool} (h : Seen w S f) (hj : j < 32) (hg : ∀ i, i < 32 → g i = if i = j then true else f i) : Seen (w.setCell ⟨S, j, none⟩ (.bool true)) S g := fun i hi => by
  refine ⟨?_, by simp [go_sem, (h i hi).2]⟩
  rw [hg i hi]
  by_cases e : i = j
  · subst e
    rw [if_pos rfl]; exact World.cell?_setCell_same _ _ _ (h i hi).1
  · rw [if_neg e, World.cell?_setCell_other _ _ _ _ (by intro g; injection g with _ g2 _; exact e g2.symm)]
    exact (h i hi).1
theorem seen_new (w : World) (T : TypeId) (f : Nat → Bool) (hf : ∀ i, f i = false) : Seen (w.alloc (.cells (Array.replicate 32 (.bool false)) T)) w.heap.size f := fun i hi => by
  constructor
  · unfold World.cell?
    rw [show (w.alloc (.cells (Array.replicate 32 (.bool false)) T)).heap[(⟨w.heap.size, i, none⟩ : Addr).block]? = some (.cells (Array.replicate 32 (.bool false)) T) from (MapKept.heap_alloc w _).1]
    simp [hi, hf]
  · unfold World.frozen?
    rw [show (w.alloc (.cells (Array.replicate 32 (.bool false)) T)).heap[(⟨w.heap.size, i, none⟩ : Addr).block]? = some (.cells (Array.replicate 32 (.bool false)) T) from (MapKept.heap_alloc w _).1]
    simp
theorem mask_bits (l n : Int) (i : Nat) : (maskN l n).testBit i = decide (l.toNat ≤ i ∧ i < l.toNat + n.toNat) := mask_bit _ _ _

theorem meets {T : Nat} {l n : Int} {j : Nat} (hj : l.toNat ≤ j) (hj2 : j < l.toNat + n.toNat) (hT : T.testBit j = true) : T &&& maskN l n ≠ 0 := by
  intro h
  have := congrArg (·.testBit j) h
  simp only [Nat.testBit_and, mask_bits, Nat.zero_testBit, hT, Bool.true_and] at this
  simp [hj, hj2] at this
theorem parts {T : Nat} {l n : Int} (h : ∀ i, l.toNat ≤ i → i < l.toNat + n.toNat → T.testBit i = false) : T &&& maskN l n = 0 := by
  apply Nat.eq_of_testBit_eq; intro i
  rw [Nat.testBit_and, mask_bits, Nat.zero_testBit]
  by_cases g : l.toNat ≤ i ∧ i < l.toNat + n.toNat
  · rw [h i g.1 g.2]; rfl
  · rw [show decide (l.toNat ≤ i ∧ i < l.toNat + n.toNat) = false from decide_eq_false g, Bool.and_false]
theorem ap_end {L N : Nat → Int} {k T : Nat} (h : apS L N k = some T) (hl : liesB (L k) (N k) = true) (hp : ∀ i, (L k).toNat ≤ i → i < (L k).toNat + (N k).toNat → T.testBit i = false) :
    apS L N (k + 1) = some (T ||| maskN (L k) (N k)) := by
  rw [apS_next h, if_pos ⟨hl, parts hp⟩]
theorem seen_or {w : World} {S T : Nat} {l n : Int} (h : Seen w S (fun i => T.testBit i || decide (l.toNat ≤ i ∧ i < l.toNat + n.toNat))) : Seen w S (fun i => (T ||| maskN l n).testBit i) := fun i hi => by
  have := h i hi
  simp only [Nat.testBit_or, mask_bits]
  exact this

set_option maxHeartbeats 400000 in
theorem rapart_any (A : Option Addr) (len cap : Nat) (L N : Nat → Int) (w : World) (hlen : len ≤ 200) (hL : Flds w A len L N) :
    Calls Try.prog 18 #[.slice A len cap] w fun e w' => e = .returned (.bool (apS L N len).isSome) ∧ Below w.heap.size w w' := by
  have HL := Lib.hid hL
  clear hL
  go_enter Try.func18, Try.ntmps18
  go_wp2
  go_loopw [4, 5] (fun i _ wr => ∃ k T : Nat, k ≤ len ∧ i = .int .i64 k ∧ apS L N k = some T ∧ T < 4294967296 ∧ Seen wr w.heap.size (fun i => T.testBit i) ∧ w.heap.size < wr.heap.size ∧ Below w.heap.size w wr) (fun i _ _ => len - (intOf i).toNat)
  case atStart => exact ⟨0, 0, by omega, rfl, rfl, by omega, seen_new w _ _ (fun i => Nat.zero_testBit i), by simp, (Below.refl _ _).alloc (Nat.le_refl _) _⟩
  case round =>
    obtain ⟨k, T, hk, rfl, hz, hT, hse, hsz, hbel⟩ := hrel
    by_cases hlt : k < len
    · have FF := (HL.out.keep hbel)
      obtain ⟨b, off, rfl, hb, c0, c1⟩ := FF k hlt
      have hbw : b < w.heap.size := by
        obtain ⟨b', off', e', hb', _⟩ := HL.out k hlt
        injection e' with e'; injection e' with e1; omega
      have Z := Lib.hid hz
      have TT := Lib.hid hT
      have SE := Lib.hid hse
      clear hz hT hse FF
      by_cases hl : liesB (L k) (N k) = true
      · obtain ⟨h1, h2, h3, h4, h5⟩ := of_decide_eq_true hl
        have LL := Lib.hid hl
        clear hl
        go_wp2_with (first | (go_at_call 32; refine (rlies_yes _ _ _ h1 h2 h3 h4 h5).mono ?_; rintro e w1 ⟨rfl, hb1⟩; have k0 := (hb1.cell (p := ⟨b, off + k * 2, none⟩) hb).trans c0; have k1 := (hb1.cell (p := ⟨b, off + k * 2 + 1, none⟩) hb).trans c1; have SE1 := Lib.hid (SE.out.keep hsz hb1); have hz1 := hb1.size; have hbel1 := Below.thn hbel (by omega) hb1))
        go_loopw [5] (fun v wi => ∃ j : Nat, (L k).toNat ≤ j ∧ j ≤ (L k).toNat + (N k).toNat ∧ v = .int .i64 j ∧ (∀ i, (L k).toNat ≤ i → i < j → T.testBit i = false) ∧ Seen wi w.heap.size (fun i => T.testBit i || decide ((L k).toNat ≤ i ∧ i < j)) ∧ w.heap.size < wi.heap.size ∧ Below w.heap.size w wi) (fun v _ => (L k).toNat + (N k).toNat - (intOf v).toNat)
        case atStart =>
          refine ⟨(L k).toNat, by omega, by omega, by rw [Int.toNat_of_nonneg h1], by omega, ?_, by omega, hbel1⟩
          intro i hi
          have := SE1.out i hi
          simp only [show ¬ ((L k).toNat ≤ i ∧ i < (L k).toNat) by omega, decide_false, Bool.or_false]
          exact this
        case round =>
          obtain ⟨j, hj1, hj2, rfl, hno, hsi, hszi, hbi⟩ := hrel
          obtain ⟨b', off', e', _, q0, q1⟩ := HL.out k hlt
          obtain ⟨rfl, rfl⟩ : b = b' ∧ off = off' := by injection e' with e'; injection e' with e1 e2; exact ⟨e1, e2⟩
          have m0 := (hbi.cell (p := ⟨b, off + k * 2, none⟩) hbw).trans q0
          have m1 := (hbi.cell (p := ⟨b, off + k * 2 + 1, none⟩) hbw).trans q1
          have hki : (k : Int) < (len : Int) := by omega
          have NO := Lib.hid hno
          have SI := Lib.hid hsi
          clear e' q0 q1 hno hsi c0 c1 k0 k1
          have sw : IntKind.i64.wrap (L k + N k) = L k + N k := IntWalk.i64_in _ (by omega)
          by_cases hj : j < (L k).toNat + (N k).toNat
          · have hji : (j : Int) < L k + N k := by omega
            have hj32 : (j : Int) < 32 := by omega
            have sc := SI.out j (by omega)
            simp only [show decide ((L k).toNat ≤ j ∧ j < j) = false from decide_eq_false (by omega), Bool.or_false] at sc
            obtain ⟨sc0, sc1⟩ := sc
            cases ht : T.testBit j
            · rw [ht] at sc0
              have HT := Lib.hid ht
              clear ht
              go_wp2_with fail
              go_quiet (fail)
              clear sw
              go_wp2
              go_roundw
              case rel =>
                refine ⟨j + 1, by omega, by omega, by go_num, ?_, ?_, by simpa using hszi, (below_drewN hbi _).setCell (p := ⟨w.heap.size, j, none⟩) (Nat.le_refl _) _⟩
                · intro i a1 a2
                  by_cases g : i = j
                  · rw [g]; exact HT.out
                  · exact NO.out i a1 (by omega)
                · refine Seen.set (f := fun i => T.testBit i || decide ((L k).toNat ≤ i ∧ i < j)) (fun i hi => SI.out i hi) (by omega) (fun i hi => ?_)
                  by_cases g : i = j
                  · rw [if_pos g, g, show decide ((L k).toNat ≤ j ∧ j < j + 1) = true from decide_eq_true (by omega), Bool.or_true]
                  · rw [if_neg g]
                    congr 1
                    rw [decide_eq_decide]; omega
              case measure => simp [intOf]; omega
            · rw [ht] at sc0
              have fl := Lib.hid (ap_fail hlt Z.out (fun g => meets hj1 hj ht g.2))
              clear ht
              go_wp2_with fail
              go_quiet (fail)
              clear sw
              go_wp2
              go_ret
              exact ⟨ret1b fl.out, below_drewN hbi _⟩
          · have hji : ¬ (j : Int) < L k + N k := by omega
            have hji' : decide ((j : Int) < L k + N k) = false := by simpa using hji
            have hje : j = (L k).toNat + (N k).toNat := by omega
            have nx := Lib.hid (ap_end Z.out LL.out (fun i a1 a2 => NO.out i a1 (by omega)))
            have HJ := Lib.hid hje
            clear hje
            go_wp2_with fail
            go_quiet (fail)
            clear sw
            go_wp2
            go_roundw
            case rel =>
              refine ⟨k + 1, _, by omega, by go_num, nx.out, (or_val TT.out h1 h3 h5).2, ?_, by simpa using hszi, below_drewN hbi _⟩
              refine seen_or (fun i hi => ?_)
              have := SI.out i hi
              rw [HJ.out] at this
              exact this
            case measure => simp [intOf]; omega
      · have fl := Lib.hid (ap_fail hlt Z.out (fun g => hl g.1))
        have nl := Lib.hid (show ¬ (0 ≤ L k ∧ L k < 32 ∧ 1 ≤ N k ∧ N k ≤ 32 ∧ L k + N k ≤ 32) from fun g => hl (decide_eq_true g))
        clear hl
        go_wp2_with (go_at_call 32; refine (rlies_no _ _ _ nl.out).mono ?_; rintro e w1 ⟨rfl, hb1⟩)
        go_ret
        exact ⟨ret1b fl.out, Below.thn hbel (by omega) hb1⟩
    · have hkl : k = len := by omega
      subst hkl
      have Z := Lib.hid hz
      have SE := Lib.hid hse
      clear hz hse
      go_wp2
      go_ret
      exact ⟨ret1b (by rw [Z.out]; rfl), hbel⟩
end Go.Proofs.Ytklibabeojpkhaa
