/-
  What each call of the document's own Get and Put returns, and that the examples of the document hold ('live'); nothing that lay in memory has changed.
-/
import Derived.Test.YtklibabeojpkhaaBitsB
import Derived.Test.YtklibabeojpkhaaBitsC
namespace Go.Proofs.Ytklibabeojpkhaa
open Go.RowKit BM

set_option maxHeartbeats 400000 in
theorem rget_yes (x l n : Int) (w : World) (b1 : 0 ≤ x) (b2 : x < 4294967296) (h1 : 0 ≤ l) (h2 : l < 32) (h3 : 1 ≤ n) (h4 : n ≤ 32) (h5 : l + n ≤ 32) :
    Calls Try.prog 11 #[.int .u32 x, .agg #[.int .i64 l, .int .i64 n]] w fun e w' => e = .returned (.tuple #[.int .u32 (getI x l n), .int .i64 0]) ∧ Below w.heap.size w w' := by
  have p1 := powI_pos l
  have p2 := powI_pos n
  have p3 : 0 ≤ x / powI l := Int.ediv_nonneg b1 (by omega)
  go_enter Try.func11, Try.ntmps11
  go_wp2_with (go_at_call 32; refine (rlies_yes l n _ h1 h2 h3 h4 h5).mono ?_; rintro e w1 ⟨rfl, hb⟩; obtain ⟨hc, hf⟩ := bcell hb; have hz := hb.size)
  go_quiet ((go_at_call 33; exact quiet_eq (pow_any _ _ (by omega) (by omega))))
  go_wp2
  go_ret2
  exact ⟨ret2 (rget_val b1 b2), below_drewN (Below.thn ((Below.refl _ _).alloc (Nat.le_refl _) _) (by simp) hb) _⟩

set_option maxHeartbeats 400000 in
theorem rput_over (x l n v : Int) (w : World) (c1 : 0 ≤ v) (c2 : v < 4294967296) (h1 : 0 ≤ l) (h2 : l < 32) (h3 : 1 ≤ n) (h4 : n ≤ 32) (h5 : l + n ≤ 32) (hv : ¬ v < powI n) :
    Calls Try.prog 13 #[.int .u32 x, .agg #[.int .i64 l, .int .i64 n], .int .u32 v] w fun e w' => e = .returned (.tuple #[.int .u32 0, .int .i64 7]) ∧ Below w.heap.size w w' := by
  have hv' : powI n ≤ v := by omega
  go_enter Try.func13, Try.ntmps13
  go_wp2_with (first | (go_at_call 32; refine (rlies_yes l n _ h1 h2 h3 h4 h5).mono ?_; rintro e w1 ⟨rfl, hb⟩; obtain ⟨hc, hf⟩ := bcell hb; have hz := hb.size) | (go_at_call 33; refine (pow_any _ _ (by omega) (by omega)).mono ?_; rintro e w2 ⟨rfl, rfl⟩))
  go_ret2
  exact ⟨rfl, Below.thn ((Below.refl _ _).alloc (Nat.le_refl _) _) (by simp) hb⟩

set_option maxRecDepth 100000 in
set_option maxHeartbeats 400000 in
theorem rput_yes (x l n v : Int) (w : World) (b1 : 0 ≤ x) (b2 : x < 4294967296) (c1 : 0 ≤ v) (c2 : v < 4294967296) (h1 : 0 ≤ l) (h2 : l < 32) (h3 : 1 ≤ n) (h4 : n ≤ 32) (h5 : l + n ≤ 32) (hv : v < powI n) :
    Calls Try.prog 13 #[.int .u32 x, .agg #[.int .i64 l, .int .i64 n], .int .u32 v] w fun e w' => e = .returned (.tuple #[.int .u32 (putI x l n v), .int .i64 0]) ∧ Below w.heap.size w w' := by
  have BB := Lib.hid (And.intro b1 b2)
  clear b1 b2
  go_enter Try.func13, Try.ntmps13
  go_wp2_with (first | (go_at_call 32; refine (rlies_yes l n _ h1 h2 h3 h4 h5).mono ?_; rintro e w1 ⟨rfl, hb⟩; obtain ⟨hc, hf⟩ := bcell hb; have hz := hb.size) | (go_at_call 33; refine (pow_any _ _ (by omega) (by omega)).mono ?_; rintro e w2 ⟨rfl, rfl⟩) | (go_at_call 11; refine (rget_yes x l n _ BB.out.1 BB.out.2 h1 h2 h3 h4 h5).mono ?_; rintro e w3 ⟨rfl, hb3⟩; obtain ⟨hc3, hf3⟩ := bcell hb3))
  obtain ⟨b1, b2⟩ := BB.out
  obtain ⟨g1, g2⟩ := getI_bd (l := l) (n := n) b1 b2
  obtain ⟨⟨k0, k1⟩, kz, kB⟩ := two_keep hb3 (two_start0 hb)
  have e1 : IntKind.u64.wrap x = x := by rw [wrap_u64]; omega
  have e2 : IntKind.u64.wrap (getI x l n) = getI x l n := by rw [wrap_u64]; omega
  have e3 : IntKind.u64.wrap v = v := by rw [wrap_u64]; omega
  clear hc3 hf3 hc hf
  go_quiet ((go_at_call 33; exact quiet_eq (pow_any _ _ (by omega) (by omega))))
  go_wp2
  go_ret2
  exact ⟨ret2 (rput_val b1 b2 c1 hv h1 h3 h5), below_drewN (Below.thn (Below.thn ((Below.refl _ _).alloc (Nat.le_refl _) _) (by simp) hb) (by simp at hz ⊢; omega) hb3) _⟩

theorem live_put : putI 0 4 3 5 = 80 := by decide
theorem live_sign : sgn (255 : Int).toNat (8 : Int).toNat = -1 := by decide
theorem live_turn : turnI 1 4 (rot 1 4) = 8 := by decide
set_option maxHeartbeats 400000 in
theorem live_any (w : World) :
    Calls Try.prog 9 #[] w fun e w' => e = .returned (.bool true) ∧ Below w.heap.size w w' := by
  have P := put_yes 0 4 3 5 w (by decide) (by decide) (by decide) (by decide) (by decide) (by decide) (by decide) (by decide) (by decide) (by decide)
  rw [live_put] at P
  have S := fun w => sign_yes 255 8 w (by decide) (by decide) (by decide)
  rw [live_sign] at S
  have T := fun w => turn_yes 1 4 1 w (by decide) (by decide) (by decide) (by decide) (by decide)
  rw [live_turn] at T
  have P' := Lib.hid P
  have S' := Lib.hid S
  have T' := Lib.hid T
  clear P S T
  go_enter Try.func9, Try.ntmps9
  go_wp2_with (first | (go_at_call 12; refine P'.out.mono ?_; rintro e w1 ⟨rfl, hb⟩) | (go_at_call 19; refine (S'.out _).mono ?_; rintro e w2 ⟨rfl, rfl⟩) | (go_at_call 21; refine (T'.out _).mono ?_; rintro e w3 ⟨rfl, hb3⟩))
  go_ret
  exact ⟨rfl, Below.thn hb hb.size hb3⟩
end Go.Proofs.Ytklibabeojpkhaa
