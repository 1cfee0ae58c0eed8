/-
  What each call of the document's rows returns. Conditions: how the argument lies, and its size.
-/
import Derived.Test.YtbheeahdbimeiaaStbD
import Derived.Test.YtbheeahdbimeiaaStbN
namespace Go.Proofs.Ytbheeahdbimeiaa
open Go.RowKit
set_option linter.unusedVariables false
set_option linter.unusedSimpArgs false

theorem infoRow : (Try.prog.info? 41).map (fun i => (i.zero, i.size, i.bytes)) = some (some (.agg #[.int .i64 0, .string ⟨#[]⟩]), 2, 24) := by kernel_rfl
theorem RowsO.capL {n : Nat} {W : World} {aa : Option Addr} {l ca : Nat} {C : List (List Value)} (h : RowsO n W (.slice aa l ca) C) : l ≤ ca ∧ ca ≤ maxLen ∨ l = 0 := by
  rcases h with ⟨h | ⟨a, c, h⟩, h0⟩ | ⟨g, off, cap, h, h1, h2, _⟩
  · cases h; exact .inr rfl
  · cases h; exact .inr rfl
  · cases h; exact .inl ⟨h1, h2⟩
theorem BysO.cap {W : World} {aa : Option Addr} {l ca : Nat} {L : List Int} (h : BysO W (.slice aa l ca) L) : l ≤ ca ∧ ca ≤ maxLen ∨ l = 0 := RowsO.capL h
def rwC (r : Nat × BA) : List Value := [.int .i64 (r.1 : Int), .string r.2]
def flatR (L : List (Nat × BA)) : List Value := L.flatMap rwC
theorem flatR_snoc (L : List (Nat × BA)) (r : Nat × BA) : flatR (L ++ [r]) = flatR L ++ rwC r := by simp [flatR, List.flatMap_append]
def rowsS (t : List Int) : List (Nat × BA) := (rowsT t).map fun r => (r.1, strOfNums r.2)
theorem rowsB_S (T : BA) : rowsB T = rowsS (nmOf T) := rfl
def rstr (l : List (Nat × Nm)) : List (Nat × BA) := l.map fun r => (r.1, strOfNums r.2)
/-- what stands in t from a on, up to b -/
def seg (t : List Int) (a b : Nat) : List Int := (t.drop a).take (b - a)
theorem seg_len {t : List Int} {a b : Nat} (h : b ≤ t.length) : (seg t a b).length = b - a := by unfold seg; rw [List.length_take, List.length_drop]; omega
theorem seg_at {t : List Int} {a b j : Nat} (hj : j < b - a) : (seg t a b).getD j 0 = t.getD (a + j) 0 := by
  unfold seg
  simp only [List.getD, List.getElem?_take, if_pos hj, List.getElem?_drop]
theorem seg_snoc {t : List Int} {a b : Nat} {x : Int} (hab : a ≤ b) (hx : t[b]? = some x) : seg t a (b + 1) = seg t a b ++ [x] := by
  unfold seg
  rw [show b + 1 - a = (b - a) + 1 by omega, List.take_add_one, List.getElem?_drop, show a + (b - a) = b by omega, hx]
  rfl
theorem add_pl (b o j : Nat) : (⟨b, o, none⟩ : Addr).add j = ⟨b, o + j, none⟩ := by unfold Addr.add; split <;> simp_all
theorem cell_two_new (W : World) (T : TypeId) (a b : Value) : ∀ j u, [a, b][j]? = some u → (W.alloc (.cells #[a, b] T)).cell? ((⟨W.heap.size, 0, none⟩ : Addr).add j) = some u := by
  intro j u hu
  rw [add_pl, Nat.zero_add]
  exact cells_new W #[a, b] T j u (by rw [List.getElem?_toArray]; exact hu)
set_option maxRecDepth 100000 in
set_option maxHeartbeats 4000000 in
theorem rrows_any (v : Value) (t : List Int) (w : World) (ht : BysO w v t) (hl : t.length ≤ 1048576) :
    Calls Try.prog 32 #[v] w fun e w' => (∃ v', e = .returned v' ∧ w'.ownsRow w.heap.size 41 2 v' (rowsS t).length (flatR (rowsS t))) ∧ Below w.heap.size w w' := by
  have HT := Lib.hid ht
  obtain ⟨aa, ca, rfl⟩ := ht.slice
  obtain ⟨i0, hi, hz0', hz1, hz2⟩ := info_parts infoRow
  clear ht
  go_enter Try.func32, Try.ntmps32
  go_wp2_with fail
  go_loopw [3, 4, 5] (fun lv fv iv wr => ∃ (fr i : Nat) (R : List (Nat × Nm)), 1 ≤ fr ∧ fr ≤ i ∧ (i ≤ t.length ∨ i = 1) ∧ fv = .int .i64 (fr : Int) ∧ iv = .int .i64 (i : Int) ∧ (∃ a c, lv = .slice a R.length c) ∧ Hid (R.length + 1 ≤ i ∧ rowsT t = R ++ rowsAcc fr (seg t fr i) (t.drop i)) ∧ Hid (wr.ownsRow w.heap.size 41 2 lv R.length (flatR (rstr R))) ∧ Hid (Below w.heap.size w wr)) (fun lv fv iv _ => t.length - (intOf iv).toNat)
  case atStart => exact ⟨1, 1, [], by omega, by omega, .inr rfl, rfl, rfl, ⟨_, _, rfl⟩, Lib.hid ⟨by simp, by simp [rowsT, seg]⟩, Lib.hid (World.ownsRow_nil _ _ _ _), Lib.hid (Below.refl _ _)⟩
  case round =>
    obtain ⟨fr, i, R, hf1, hfi, hil, rfl, rfl, ⟨la, lc, rfl⟩, HR, HROW, HBR⟩ := hrel
    by_cases hlt : (i : Int) < (t.length : Int)
    · obtain ⟨g, off, cap, x, hx, hv, hg, x0⟩ := (HT.out.keep HBR.out).at (k := i) (by omega)
      cases hv
      have hit : i < t.length := by omega
      have w9 : IntKind.i64.wrap ((i : Int) + 1) = ((i + 1 : Nat) : Int) := by rw [IntWalk.i64_in _ (by omega)]; omega
      have ip : (0 : Int) ≤ (i : Int) := by omega
      have fp : (0 : Int) ≤ (fr : Int) := by omega
      have fle : (fr : Int) ≤ (i : Int) := by omega
      have HX := Lib.hid hx
      have HF := Lib.hid hf1
      by_cases h0 : x = 0
      · subst h0
        have hcv : ∀ c, (convert 25 9 (.slice (some ⟨g, off + fr, none⟩) (i - fr) c)).run Try.prog wr = .ok (.string (strOfNums (seg t fr i))) wr := fun c => run_convert_bytes_arg wr 25 5 Try.underlying25 Try.underlying5 g (off + fr) (i - fr) c (seg t fr i) (seg_len (by omega)) (fun j hj => by
          obtain ⟨g', off', cap', y, hy, hv, hg', y0⟩ := (HT.out.keep HBR.out).at (k := fr + j) (by omega)
          cases hv
          rw [Nat.add_assoc, y0, seg_at hj]
          simp [List.getD, hy]) 9 Try.underlying9
        have hca : i ≤ ca ∧ ¬ ca = fr := by have := HT.out.cap; omega
        obtain ⟨hca1, hca2⟩ := hca
        have HN := Lib.hid (show rowsT t = (R ++ [(fr, seg t fr i)]) ++ rowsAcc (i + 1) (seg t (i + 1) (i + 1)) (t.drop (i + 1)) by
          rw [HR.out.2, drop_cons HX.out]
          simp only [rowsAcc, if_true]
          rw [seg_len (show i ≤ t.length by omega), show fr + (i - fr) + 1 = i + 1 by omega, show seg t (i + 1) (i + 1) = [] by simp [seg], List.append_assoc]
          rfl)
        have HQ := Lib.hid (And.intro (show R.length + 1 ≤ maxLen by unfold maxLen; have := HR.out.1; omega) (show (R.length + 1) * 24 ≤ 140737488355328 by have := HR.out.1; omega))
        have hz := HBR.out.size
        clear hx hf1 hfi hil hit
        go_wp2_with (at_builtin; (refine wpList_append_own _ rfl _ _ 39 rfl w.heap.size 41 i0 (.agg #[.int .i64 0, .string ⟨#[]⟩]) 2 24 Try.underlying39 hi hz0' hz1 hz2 rfl (by decide) _ _ _ rfl (own_keep HROW.out (below1 wr _)) ⟨wr.heap.size, 0, none⟩ 1 1 (rwC (fr, strOfNums (seg t fr i))) rfl rfl (cell_two_new _ _ _ _) (by simp [Value.oneCell', rwC]) HQ.out.1 HQ.out.2 (by simp; omega) ?_; intro v' w3 hown3 hgrow3 _; obtain ⟨ub, uc, rfl⟩ := own_sliceN hown3))
        have HB3 := Lib.hid (show Below w.heap.size w w3 from (HBR.out.alloc HBR.out.size _).grown hgrow3 (by simp; omega) (fun q hq => (HROW.out.lt q hq).1))
        clear hgrow3
        have HROW3 := Lib.hid hown3
        clear hown3
        go_wp2_with fail
        go_roundw
        case rel => exact ⟨i + 1, i + 1, R ++ [(fr, seg t fr i)], by omega, by omega, .inl (by omega), by first | rfl | rw [← w9], by first | rfl | rw [← w9], ⟨_, _, by rw [List.length_append]; rfl⟩, Lib.hid ⟨by rw [List.length_append]; have := HR.out.1; simp; omega, HN.out⟩, Lib.hid (by rw [show rstr (R ++ [(fr, seg t fr i)]) = rstr R ++ [(fr, strOfNums (seg t fr i))] by simp [rstr], flatR_snoc, List.length_append]; exact HROW3.out), HB3⟩
        case measure => simp [intOf]; omega
      · have hn0 : (x == 0) = false := not_beq h0
        have HN := Lib.hid (show rowsT t = R ++ rowsAcc fr (seg t fr (i + 1)) (t.drop (i + 1)) by
          rw [HR.out.2, drop_cons HX.out]
          simp only [rowsAcc]
          rw [if_neg h0, seg_snoc hfi HX.out])
        have HZ := Lib.hid (show fr ≤ i + 1 ∧ i + 1 ≤ t.length by omega)
        clear hx hf1 hfi hil hit h0
        go_wp2_with fail
        go_roundw
        case rel => exact ⟨fr, i + 1, R, HF.out, HZ.out.1, .inl HZ.out.2, rfl, by first | rfl | rw [← w9], ⟨_, _, rfl⟩, Lib.hid ⟨by have := HR.out.1; omega, HN.out⟩, HROW, HBR⟩
        case measure => simp [intOf]; omega
    · have HN := Lib.hid (show rowsS t = rstr R by
        unfold rowsS rstr
        rw [HR.out.2, List.drop_eq_nil_of_le (by omega)]
        simp [rowsAcc])
      go_wp2_with fail
      go_ret
      exact ⟨⟨_, rfl, by rw [HN.out]; have := HROW.out; rw [show R.length = (rstr R).length by simp [rstr]] at this; simpa [rstr] using this⟩, HBR.out⟩
end Go.Proofs.Ytbheeahdbimeiaa
