/-
  What each call of the library's ParseUint and of the program's digits returns. Conditions: what the variables of the library hold (Good), and the sizes that each lemma states.
-/
import Derived.Test.YtdkflmpdelfgoaaGreatDoorLexE10
import Derived.Test.YtdkflmpdelfgoaaGreatDoorLexE16
import Derived.Test.YtdkflmpdelfgoaaGreatDoorLexE2
import Derived.Test.YtdkflmpdelfgoaaGreatDoorLexESixb
import Derived.Lib.LaidTab
namespace Go.Proofs.YtdkflmpdelfgoaaGreatDoor
open Go.RowKit

/-- the package-level variables of the library hold what their text lays -/
structure Good (w : World) : Prop where
  size : 6 ≤ w.heap.size
  syn : ∃ te pe, w.cell? ⟨4, 0, none⟩ = some (.iface te pe)
  rng : ∃ te pe, w.cell? ⟨5, 0, none⟩ = some (.iface te pe)
  pow : Lib.TabIs Tryz.prog w "internal/strconv.uint64pow10" .u64 Lib.pow10Tab
theorem gPow : Tryz.prog.globalNamed "internal/strconv.uint64pow10" = some 1 := by kernel_rfl
theorem Good.keep {w w' : World} {B : Nat} (h : Good w) (hB : 6 ≤ B) (hb : Below B w w') : Good w' := by
  have hs := hb.size
  refine ⟨Nat.le_trans h.size hs, ?_, ?_, ?_⟩
  · obtain ⟨te, pe, hc⟩ := h.syn
    exact ⟨te, pe, (hb.cell (p := ⟨4, 0, none⟩) (by show 4 < B; omega)).trans hc⟩
  · obtain ⟨te, pe, hc⟩ := h.rng
    exact ⟨te, pe, (hb.cell (p := ⟨5, 0, none⟩) (by show 5 < B; omega)).trans hc⟩
  · have hp := h.pow
    unfold Lib.TabIs World.var? at hp ⊢
    rw [gPow] at hp ⊢
    simp only [Option.bind_some] at hp ⊢
    rw [hb.block 1 (by omega)]
    exact hp
theorem Good.thn {w w' : World} (h : Good w) (hb : Below w.heap.size w w') : Good w' := h.keep h.size hb
theorem Good.drewN {w : World} (h : Good w) (n : Nat) : Good (w.drewN n) := h.keep h.size (below_drewN (Below.refl _ _) n)

theorem pF_val {base M : Nat} (hb : 1 ≤ base) : ∀ (s : Bs) (a : Nat), a ≤ M → ∀ v, pF base M a s = some (some v) ↔ (valF base a s = some v ∧ v ≤ M)
  | [], a, ha, v => by simp [pF, valF]; omega
  | c :: r, a, ha, v => by
    rw [pF, valF]
    cases hx : hexV c with
    | none => simp
    | some d =>
      simp only
      by_cases hd : d < base
      · rw [if_pos hd, if_pos hd]
        by_cases hm : M < a * base + d
        · rw [if_pos hm]
          constructor
          · intro h; cases h
          · rintro ⟨h1, h2⟩
            have := valF_ge hb _ _ _ h1
            omega
        · rw [if_neg hm]
          exact pF_val hb r _ (by omega) v
      · rw [if_neg hd, if_neg hd]; simp
theorem digitsV_pS {base : Nat} (hb : 1 ≤ base) (s : Bs) (v : Nat) : pS base 18446744073709551615 s = some (some v) ↔ digitsV base s = some v := by
  unfold pS digitsV
  by_cases h : s = []
  · rw [if_pos h, if_pos h]; simp
  · rw [if_neg h, if_neg h, pF_val hb s 0 (by omega)]
    cases hv : valF base 0 s with
    | none => simp
    | some u =>
      simp only [Option.some.injEq]
      by_cases hu : u < 18446744073709551616
      · rw [if_pos hu]; simp only [Option.some.injEq]; omega
      · rw [if_neg hu]
        constructor
        · rintro ⟨rfl, h2⟩; omega
        · intro h; cases h
def ParseOut (o : Option (Option Nat)) (e : Ending) : Prop :=
  (∃ v : Nat, o = some (some v) ∧ e = .returned (.tuple #[.int .u64 (v : Int), .nilIface])) ∨ ((∀ v, o ≠ some (some v)) ∧ ∃ (u : Int) (T : TypeId) (p : Value), e = .returned (.tuple #[.int .u64 u, .iface T p]))
theorem below_bytes (w : World) (t : TypeId) (s : ByteArray) : Below w.heap.size w (Lib.bytesWorld w t s) := Lib.bytesWorld_below _ _ _

set_option maxHeartbeats 2000000 in
theorem parse_of (base bits M : Int) (t : ByteArray) (o : Option (Option Nat)) (w : World) (hG : Good w) (ht : t.size ≤ 281474976710656)
    (h : Calls Tryz.prog 96 #[.string t, .int .i64 base, .int .i64 bits] w fun e w' => e = .returned (pVal M o) ∧ Below w.heap.size w w') :
    Calls Tryz.prog 83 #[.string t, .int .i64 base, .int .i64 bits] w fun e w' => ParseOut o e ∧ Below w.heap.size w w' := by
  have H := Lib.hid h
  clear h
  cases o with
  | none =>
    have S : ∀ w1, Below w.heap.size w w1 → ∃ te pe, w1.cell? ⟨4, 0, none⟩ = some (.iface te pe) := fun w1 hb => (hG.thn hb).syn
    have SH := Lib.hid S
    clear S hG
    go_enter Tryz.func83, Tryz.ntmps83
    go_wp2_with fail
    refine H.out.mono ?_
    rintro e w1 ⟨rfl, hb⟩
    obtain ⟨te, pe, hc⟩ := SH.out w1 hb
    have C := Lib.hid (fun fn => Tryz.strconv_toError_syntax fn t base bits (.iface te pe) w1 ht hc (.inr ⟨te, pe, rfl⟩))
    have HB := Lib.hid hb
    clear hb hc
    simp only [pVal]
    go_wp2_with fail
    refine (C.out _).mono ?_
    rintro e w2 ⟨N, rfl, _, _, hb2⟩
    go_wp2_with fail
    go_ret2
    exact ⟨.inr ⟨(fun v hv => by cases hv), _, _, _, rfl⟩, Below.thn HB.out HB.out.size hb2⟩
  | some o =>
    cases o with
    | none =>
      have S : ∀ w1, Below w.heap.size w w1 → ∃ te pe, w1.cell? ⟨5, 0, none⟩ = some (.iface te pe) := fun w1 hb => (hG.thn hb).rng
      have SH := Lib.hid S
      clear S hG
      go_enter Tryz.func83, Tryz.ntmps83
      go_wp2_with fail
      refine H.out.mono ?_
      rintro e w1 ⟨rfl, hb⟩
      obtain ⟨te, pe, hc⟩ := SH.out w1 hb
      have C := Lib.hid (fun fn => Tryz.strconv_toError_range fn t base bits (.iface te pe) w1 ht hc (.inr ⟨te, pe, rfl⟩))
      have HB := Lib.hid hb
      clear hb hc
      simp only [pVal]
      go_wp2_with fail
      refine (C.out _).mono ?_
      rintro e w2 ⟨N, rfl, _, _, hb2⟩
      go_wp2_with fail
      go_ret2
      exact ⟨.inr ⟨(fun v hv => by cases hv), _, _, _, rfl⟩, Below.thn HB.out HB.out.size hb2⟩
    | some v =>
      clear hG
      go_enter Tryz.func83, Tryz.ntmps83
      go_wp2_with fail
      refine H.out.mono ?_
      rintro e w1 ⟨rfl, hb⟩
      have HB := Lib.hid hb
      clear hb
      simp only [pVal]
      go_wp2_with fail
      go_ret2
      exact ⟨.inl ⟨v, rfl, rfl⟩, HB.out⟩
theorem iparse_any (base bits M : Nat) (t : ByteArray) (w : World)
    (h : t.size ≠ 0 → Calls Tryz.prog 96 #[.string t, .int .i64 base, .int .i64 bits] w fun e w' => e = .returned (pVal M (pF base M 0 t.data.toList)) ∧ w' = Lib.bytesWorld w 5 t) :
    Calls Tryz.prog 96 #[.string t, .int .i64 base, .int .i64 bits] w fun e w' => e = .returned (pVal M (pS base M t.data.toList)) ∧ Below w.heap.size w w' := by
  by_cases h0 : t.size = 0
  · obtain rfl : t = ⟨#[]⟩ := bytes_eq (List.length_eq_zero_iff.1 (by rw [← size_list]; exact h0))
    exact (iparse_empty _ _ w).mono fun e w' ⟨he, hw⟩ => ⟨he, hw ▸ Below.refl _ _⟩
  · refine (h h0).mono fun e w' ⟨he, hw⟩ => ⟨?_, hw ▸ below_bytes _ _ _⟩
    rw [he]
    unfold pS
    rw [if_neg (fun e => h0 (by rw [size_list, e]; rfl))]
theorem parse_10 (t : ByteArray) (w : World) (hG : Good w) (ht : t.size ≤ 281474976710656) :
    Calls Tryz.prog 83 #[.string t, .int .i64 10, .int .i64 64] w fun e w' => ParseOut (pS 10 18446744073709551615 t.data.toList) e ∧ Below w.heap.size w w' :=
  parse_of 10 64 18446744073709551615 t _ w hG ht (iparse_any 10 64 18446744073709551615 t w (fun h => iparse_10 t h (by omega) w))
theorem parse_16 (t : ByteArray) (w : World) (hG : Good w) (ht : t.size ≤ 281474976710656) :
    Calls Tryz.prog 83 #[.string t, .int .i64 16, .int .i64 64] w fun e w' => ParseOut (pS 16 18446744073709551615 t.data.toList) e ∧ Below w.heap.size w w' :=
  parse_of 16 64 18446744073709551615 t _ w hG ht (iparse_any 16 64 18446744073709551615 t w (fun h => iparse_16 t h (by omega) w))
theorem parse_2 (t : ByteArray) (w : World) (hG : Good w) (ht : t.size ≤ 281474976710656) :
    Calls Tryz.prog 83 #[.string t, .int .i64 2, .int .i64 64] w fun e w' => ParseOut (pS 2 18446744073709551615 t.data.toList) e ∧ Below w.heap.size w w' :=
  parse_of 2 64 18446744073709551615 t _ w hG ht (iparse_any 2 64 18446744073709551615 t w (fun h => iparse_2 t h (by omega) w))
theorem parse_16b (t : ByteArray) (w : World) (hG : Good w) (ht : t.size ≤ 281474976710656) :
    Calls Tryz.prog 83 #[.string t, .int .i64 16, .int .i64 8] w fun e w' => ParseOut (pS 16 255 t.data.toList) e ∧ Below w.heap.size w w' :=
  parse_of 16 8 255 t _ w hG ht (iparse_any 16 8 255 t w (fun h => iparse_16b t h (by omega) w))
end Go.Proofs.YtdkflmpdelfgoaaGreatDoor
