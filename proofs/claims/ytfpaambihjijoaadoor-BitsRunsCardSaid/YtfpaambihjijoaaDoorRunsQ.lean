/-
  slices.Equal at two slices of the same runs: true. No conditions beyond those that each lemma states.
-/
import Derived.Test.YtfpaambihjijoaaDoorRunsR
namespace Go.Proofs.YtfpaambihjijoaaDoor
open Go.RowKit Go.Shelf BM

theorem len_runs' {V : World} {v : Value} {l : List (Nat × Nat)} (h : RunsRow V v l) (V' : World) : Sem.run Tryd.prog (Builtin.len_ #[30] 3 #[v]) V' = .ok (.int .i64 (l.length : Int)) V' := by
  rcases h with ⟨h, h0⟩ | ⟨g, cap, h, _⟩
  · rw [h0, h]; simp [Builtin.len_, go_sem]
  · rw [h]; simp [Builtin.len_, go_sem]
set_option maxRecDepth 100000 in
set_option maxHeartbeats 2000000 in
theorem equal_runs (s1 s2 : Value) (L : List (Nat × Nat)) (w : World) (h1 : RunsRow w s1 L) (h2 : RunsRow w s2 L) (hlen : L.length ≤ 64) :
    Calls Tryd.prog 8 #[s1, s2] w fun e w' => e = .returned (.bool true) ∧ Below w.heap.size w w' := by
  have LN1 := len_runs' h1
  have LN2 := len_runs' h2
  have R1 := Lib.hid h1
  have R2 := Lib.hid h2
  clear h1 h2
  go_enter Tryd.func8, Tryd.ntmps8
  go_wp2_with fail
  go_loopw [13] (fun i wr => ∃ k q : Nat, k ≤ L.length ∧ i = .int .i64 (k : Int) ∧ wr = w.drewN q) (fun i _ => L.length - (intOf i).toNat)
  case atStart => exact ⟨0, 0, Nat.zero_le _, rfl, rfl⟩
  case round =>
    obtain ⟨k, q, hk, rfl, rfl⟩ := hrel
    obtain ⟨X, hX⟩ : ∃ X, w.drewN q = X := ⟨_, rfl⟩
    rw [hX]
    have HX := Lib.hid hX
    clear hX
    by_cases hlt : (k : Int) < (L.length : Int)
    · have hlt' : k < L.length := by omega
      have f1 : ∀ s, RunsRow w s L → ∃ g cap, s = .slice (some ⟨g, 0, none⟩) L.length cap ∧ X.cell? ⟨g, k * 2, none⟩ = some (.int .i64 (L[k].1 : Int)) ∧ X.cell? ⟨g, k * 2 + 1, none⟩ = some (.int .i64 (L[k].2 : Int)) := by
        intro s h
        rcases h with ⟨_, h0⟩ | ⟨g, cap, h1, hg, h2⟩
        · omega
        · exact ⟨g, cap, h1, by rw [← HX.out]; exact (h2 k hlt').1, by rw [← HX.out]; exact (h2 k hlt').2⟩
      obtain ⟨g1, cap1, rfl, x1, x2⟩ := f1 s1 R1.out
      obtain ⟨g2, cap2, rfl, y1, y2⟩ := f1 s2 R2.out
      obtain ⟨a, ha⟩ : ∃ a, L[k].1 = a := ⟨_, rfl⟩
      obtain ⟨b, hb⟩ : ∃ b, L[k].2 = b := ⟨_, rfl⟩
      rw [ha] at x1 y1
      rw [hb] at x2 y2
      have w9 : IntKind.i64.wrap ((k : Int) + 1) = ((k + 1 : Nat) : Int) := by rw [IntWalk.i64_in _ (by omega)]; omega
      clear f1 ha hb
      go_wp2_with fail
      go_quiet (fail)
      go_wp2_with fail
      all_goals exact ⟨⟨k + 1, q + nq, by omega, by first | rfl | rw [← w9], by rw [← HX.out]; simp⟩, by simp [intOf]; omega⟩
    · go_wp2_with fail
      go_ret
      exact ⟨rfl, by rw [← HX.out]; exact below_drewN (Below.refl _ _) q⟩
end Go.Proofs.YtfpaambihjijoaaDoor
