/-
  What each call of parted returns. No conditions beyond those that each lemma states.
-/
import Derived.Test.YtjmdcimfmmfinaaDoorLexB
namespace Go.Proofs.YtjmdcimfmmfinaaDoor
open Go.RowKit

def wordy (k : Int) : Bool := k == 1 || k == 2
def partedB (ka : Int) (ta : Bs) (kb : Int) (tb : Bs) : Bool := wordy ka && wordy kb || (ta == [47] && tb == [47] && ka == 4 && kb == 4)
theorem slash_int (t : ByteArray) : (t.toList == [47]) = (t.data.toList == [47]) := by rw [ByteArray.toList_eq]
set_option maxHeartbeats 4000000 in
theorem parted_any (ka : Int) (ta : ByteArray) (na pa : Int) (kb : Int) (tb : ByteArray) (nb pb : Int) (w : World) :
    Calls Tryd.prog 46 #[.agg #[.int .i64 ka, .string ta, .int .u64 na, .int .i64 pa], .agg #[.int .i64 kb, .string tb, .int .u64 nb, .int .i64 pb]] w fun e w' => e = .returned (.bool (partedB ka ta.data.toList kb tb.data.toList)) ∧ Below w.heap.size w w' := by
  have IA := Lib.hid (fun w => isWord_any ka ta na pa w)
  have IB := Lib.hid (fun w => isWord_any kb tb nb pb w)
  have R : ∀ x, x = (wordy ka && wordy kb || ((ta.toList == [47]) && (tb.toList == [47]) && ka == 4 && kb == 4)) → x = partedB ka ta.data.toList kb tb.data.toList := fun x h => by rw [h, slash_int, slash_int]; rfl
  have RH := Lib.hid R
  clear R
  change Hid (∀ w, Calls _ _ _ _ fun e w' => e = .returned (.bool (wordy ka)) ∧ _) at IA
  change Hid (∀ w, Calls _ _ _ _ fun e w' => e = .returned (.bool (wordy kb)) ∧ _) at IB
  have HB : Hid (∀ w1, Below (w.heap.size + 1 + 1) ((w.alloc (.cells #[.int .i64 ka, .string ta, .int .u64 na, .int .i64 pa] 30)).alloc (.cells #[.int .i64 kb, .string tb, .int .u64 nb, .int .i64 pb] 30)) w1 → Below w.heap.size w w1) :=
    Lib.hid (fun w1 h => (((Below.refl _ w).alloc (Nat.le_refl _) _).alloc (by simp) _).trans (h.mono (by omega)))
  generalize wordy ka = wa at *
  generalize wordy kb = wb at *
  generalize partedB ka ta.data.toList kb tb.data.toList = y at *
  have key : ∀ (x1 x2 x3 x4 : Bool), (ta.toList == [47]) = x1 → (tb.toList == [47]) = x2 → (ka == 4) = x3 → (kb == 4) = x4 → Hid (∀ x, x = (wa && wb || (x1 && x2 && x3 && x4)) → x = y) := fun x1 x2 x3 x4 e1 e2 e3 e4 => by
    rw [e1, e2, e3, e4] at RH; exact RH
  obtain ⟨x1, e1⟩ : ∃ x, (ta.toList == [47]) = x := ⟨_, rfl⟩
  obtain ⟨x2, e2⟩ : ∃ x, (tb.toList == [47]) = x := ⟨_, rfl⟩
  obtain ⟨x3, e3⟩ : ∃ x, (ka == 4) = x := ⟨_, rfl⟩
  obtain ⟨x4, e4⟩ : ∃ x, (kb == 4) = x := ⟨_, rfl⟩
  have KY := key _ _ _ _ e1 e2 e3 e4
  clear key RH
  have ways : (wa = true ∧ wb = true) ∨ ((wa && wb) = false ∧ x1 = false) ∨ ((wa && wb) = false ∧ x1 = true ∧ x2 = false) ∨ ((wa && wb) = false ∧ x1 = true ∧ x2 = true ∧ x3 = false) ∨ ((wa && wb) = false ∧ x1 = true ∧ x2 = true ∧ x3 = true) := by
    cases wa <;> cases wb <;> cases x1 <;> cases x2 <;> cases x3 <;> simp
  have step : ∀ (P : Prop), ((wa = false) → P) → (wa = true → wb = false → P) → (wa && wb) = false → P := fun P h1 h2 h3 => by
    cases wa
    · exact h1 rfl
    · cases wb
      · exact h2 rfl rfl
      · cases h3
  rcases ways with ⟨rfl, rfl⟩ | ⟨h0, rfl⟩ | ⟨h0, rfl, rfl⟩ | ⟨h0, rfl, rfl, rfl⟩ | ⟨h0, rfl, rfl, rfl⟩
  · go_enter Tryd.func46, Tryd.ntmps46
    go_wp2_with fail
    refine (IA.out _).mono ?_
    rintro e w1 ⟨rfl, hb⟩
    have hb0 := hb
    simp only [World.size_alloc] at hb0
    obtain ⟨hcc, hff⟩ := bcell hb
    simp only [World.size_alloc] at hcc hff
    have hz : w.heap.size + 1 < w1.heap.size := by have := hb0.size; simp at this; omega
    have HB0 := Lib.hid hb0
    clear hb hb0
    go_wp2_with fail
    refine (IB.out _).mono ?_
    rintro e w2 ⟨rfl, hc⟩
    have HC := Lib.hid hc
    clear hc
    go_wp2_with fail
    go_ret
    exact ⟨ret1b (KY.out _ (by simp)), HB.out _ (HB0.out.trans (HC.out.mono (by omega)))⟩
  all_goals
    refine step _ (fun hwa => ?_) (fun hwa hwb => ?_) h0
    · subst hwa
      clear h0 step
      go_enter Tryd.func46, Tryd.ntmps46
      go_wp2_with fail
      refine (IA.out _).mono ?_
      rintro e w1 ⟨rfl, hb⟩
      have hb0 := hb
      simp only [World.size_alloc] at hb0
      obtain ⟨hcc, hff⟩ := bcell hb
      simp only [World.size_alloc] at hcc hff
      have HB0 := Lib.hid hb0
      clear hb hb0
      go_wp2_with fail
      go_ret
      exact ⟨ret1b (KY.out _ (by simp)), HB.out _ HB0.out⟩
    · subst hwa hwb
      clear h0 step
      go_enter Tryd.func46, Tryd.ntmps46
      go_wp2_with fail
      refine (IA.out _).mono ?_
      rintro e w1 ⟨rfl, hb⟩
      have hb0 := hb
      simp only [World.size_alloc] at hb0
      obtain ⟨hcc, hff⟩ := bcell hb
      simp only [World.size_alloc] at hcc hff
      have hz : w.heap.size + 1 < w1.heap.size := by have := hb0.size; simp at this; omega
      have hz0 : w.heap.size < w1.heap.size := by omega
      have HB0 := Lib.hid hb0
      clear hb hb0
      go_wp2_with fail
      refine (IB.out _).mono ?_
      rintro e w2 ⟨rfl, hc⟩
      obtain ⟨hcc2, hff2⟩ := bcell hc
      have HC := Lib.hid hc
      clear hc
      go_wp2_with fail
      go_ret
      exact ⟨ret1b (KY.out _ (by simp)), HB.out _ (HB0.out.trans (HC.out.mono (by omega)))⟩
end Go.Proofs.YtjmdcimfmmfinaaDoor
