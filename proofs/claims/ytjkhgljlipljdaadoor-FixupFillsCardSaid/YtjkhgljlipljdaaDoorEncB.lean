/-
  What each call of enc's tell returns. Conditions: the parts' widths.
-/
import Derived.Test.YtjkhgljlipljdaaDoorEncA
namespace Go.Proofs.YtjkhgljlipljdaaDoor
open Go.RowKit
set_option linter.unusedVariables false
set_option linter.unusedSimpArgs false
/-- the word when j parts of P stand behind x -/
def foldW (P : Nat → Pa) (x : Int) : Nat → Int
  | 0 => x
  | j + 1 => putW (foldW P x j) (P j)
set_option maxRecDepth 20000 in
set_option maxHeartbeats 4000000 in
theorem tell_of (B : Nat) (x : Int) (C : List Value) (hL : C.length = 30) (P : Nat → Pa) (hP : ∀ j, j < 10 → okP (P j))
    (hC : ∀ W (j : Nat), j < 10 → (Instr.index 143 (.agg C.toArray) (.int .i64 (j : Int))).run Tryd.prog W = .ok (paV (P j)) W)
    (w : World) (h : w.heap[B]? = some (.cells #[.int .u32 x] 139 (0, 0))) :
    Calls Tryd.prog 83 #[.agg C.toArray, .func (.func 84) #[.pointer (some ⟨B, 0, none⟩)] #[]] w fun e w' =>
      (∃ v, e = .returned v) ∧ w'.heap[B]? = some (.cells #[.int .u32 (foldW P x 10)] 139 (0, 0)) ∧ KB B w w' := by
  have PUT := Lib.hid (fun y j (hj : j < 10) W h => put_any B y (P j) W h (hP j hj))
  have HC := Lib.hid hC
  have F0 := Lib.hid (show foldW P x 0 = x from rfl)
  have F1 := Lib.hid (fun j => show foldW P x (j + 1) = putW (foldW P x j) (P j) from rfl)
  generalize foldW P x = F at *
  have H0 := Lib.hid h
  have K0 := Lib.hid (KB.refl B w)
  clear h hC hP
  have HL := Lib.hid hL
  clear hL
  go_enter Tryd.func83, Tryd.ntmps83
  go_upto_region 1 with fail
  have j0 := below1 w (.cells C.toArray 143)
  have HR : (w.alloc (.cells C.toArray 143)).rangeAt w.heap.size 0 C := by
    have g := World.rangeAt_of_block (heap_alloc_new w (.cells C.toArray 143)) 0 C.length
    have e : (C.toArray.extract 0 (0 + C.length)).toList = C := by simp
    rw [e] at g; exact g
  refine wp_region_lit ?_
  refine wpList_load_mid rfl 143 (.tmp 2) rfl w.heap.size 0 rfl C (.array 10 141) HR (by kernel_rfl) (by rfl) (by rw [HL.out]; kernel_rfl) ?_
  go_wp2_with fail
  have H1 := Lib.hid (kept_v j0 H0.out)
  have K1 := Lib.hid (KB.below (heap_lt H0.out) j0)
  clear HR j0 K0 H0
  generalize w.alloc (.cells C.toArray 143) = W0 at *
  go_loopw [7] (fun iv wr => ∃ j : Nat, j ≤ 10 ∧ iv = .int .i64 (j : Int) ∧ Hid (wr.heap[B]? = some (.cells #[.int .u32 (F j)] 139 (0, 0))) ∧ Hid (KB B w wr)) (fun iv _ => 10 - (intOf iv).toNat)
  case atStart => exact ⟨0, by omega, rfl, by rw [F0.out]; exact H1, K1⟩
  case round =>
    obtain ⟨j, hj, rfl, hb, hk⟩ := hrel
    by_cases hlt : (j : Int) < 10
    · have hj10 : j < 10 := by omega
      have hix := fun W => HC.out W j hj10
      have PJ := Lib.hid (fun y W h => PUT.out y j hj10 W h)
      have FJ := Lib.hid (F1.out j)
      clear PUT HC F1
      generalize P j = p at *
      obtain ⟨b, n, f⟩ := p
      unfold paV at *
      have w9 : IntKind.i64.wrap ((j : Int) + 1) = ((j + 1 : Nat) : Int) := by rw [IntWalk.i64_in _ (by omega)]; omega
      have j1 := below1 wr (.cells #[.int .u32 b, .int .i64 n, .bool f] 141)
      have H2 := Lib.hid (kept_v j1 hb.out)
      have K2 := Lib.hid (hk.out.trans (KB.below (heap_lt hb.out) j1))
      clear hb hk
      go_wp2_with fail
      refine (PJ.out _ _ H2.out).mono ?_
      rintro e w2 ⟨⟨v, rfl⟩, h2, k2⟩
      have H3 := Lib.hid h2
      have K3 := Lib.hid (K2.out.trans k2)
      clear j1 h2 k2
      go_wp2_with fail
      go_roundw
      case rel => exact ⟨j + 1, by omega, by first | rfl | rw [← w9], by rw [FJ.out]; exact H3, K3⟩
      case measure => simp [intOf]; omega
    · obtain rfl : j = 10 := by omega
      go_wp2_with fail
      refine bodyPost_end (results_none rfl _ _ _) rfl ?_
      exact ⟨⟨_, rfl⟩, hb.out, hk.out⟩
end Go.Proofs.YtjkhgljlipljdaaDoor
