/-
  The document's number: what each call returns. Conditions: a text of at most 4096 bytes that is not empty.
-/
import Derived.Test.YtjmdcimfmmfinaaDoorLexRefE
namespace Go.Proofs.YtjmdcimfmmfinaaDoor
open Go.RowKit

set_option maxRecDepth 100000 in
set_option maxHeartbeats 4000000 in
theorem rnumber_10 (s : ByteArray) (c : UInt8) (r : Bs) (w : World) (hs : s.size ≤ 4096) (hl : s.data.toList = c :: r) (h39 : c ≠ 39) (hx : (c :: r).take 2 ≠ [48, 120]) (hb2 : (c :: r).take 2 ≠ [48, 98]) :
    Calls Tryd.prog 58 #[.string s] w fun e w' => e = NOut (docNum (c :: r)) ∧ w = w' := by
  obtain ⟨h0, gx⟩ := byte_of (j := 0) hl rfl
  have h0' : 0 < (s.size : Int) := by omega
  have BS : Hid (∀ w, Calls Tryd.prog 75 #[.string s, .int .i64 10] w fun e w' => e = BOut (basedF 10 0 0 (c :: r)) ∧ w = w') := Lib.hid (fun w => by
    have := rbased_any s 10 w hs (by decide) (by decide); rw [hl] at this; exact this)
  have f39 : ((c.toNat : Int) == 39) = false := by
    have : c.toNat ≠ 39 := fun h => h39 (UInt8.toNat_inj.1 h)
    simp; omega
  have hD : docNum (c :: r) = (match basedF 10 0 0 (c :: r) with
    | some (v, k) => if k < 1 ∨ (1 < k ∧ (c :: r).head? = some 48) then (0, 0) else (v, k)
    | none => (0, 0)) := by
    unfold docNum
    rw [if_neg (by simpa using h39), if_neg hx, if_neg hb2]
    rfl
  have hsz : s.size = r.length + 1 := by rw [size_list, hl]; rfl
  have HN : Hid (s.size ≤ 1 ∨ ∃ h : 1 < s.size, ∃ d, s[1]'h = d ∧ (c ≠ 48 ∨ (d ≠ 120 ∧ d ≠ 98))) := Lib.hid (by
    rcases r with _ | ⟨d, r2⟩
    · left; simp at hsz; omega
    · right
      obtain ⟨h1, g1⟩ := byte_of (j := 1) hl rfl
      refine ⟨h1, d, g1, ?_⟩
      by_cases hc : c = 48
      · right
        subst hc
        exact ⟨fun h => hx (by rw [h]; rfl), fun h => hb2 (by rw [h]; rfl)⟩
      · exact .inl hc)
  have key : ∀ (q : Option (Nat × Nat)), basedF 10 0 0 (c :: r) = q → Calls Tryd.prog 58 #[.string s] w fun e w' => e = NOut (docNum (c :: r)) ∧ w = w' := by
    intro q hq
    have hk : ∀ v k, q = some (v, k) → k ≤ r.length + 1 := fun v k h => based_k (t := c :: r) (by rw [hq, h])
    rw [hq] at BS hD
    clear hl hx hb2 hq h39
    have hc3 : s.size ≤ 1 ∨ (∃ h : 1 < s.size, ∃ d, s[1]'h = d ∧ c ≠ 48) ∨ (∃ h : 1 < s.size, ∃ d, s[1]'h = d ∧ c = 48 ∧ d ≠ 120 ∧ d ≠ 98) := by
      rcases HN.out with h | ⟨h, d, g, h2⟩
      · exact .inl h
      · by_cases hc : c = 48
        · exact .inr (.inr ⟨h, d, g, hc, h2.resolve_left (fun n => n hc)⟩)
        · exact .inr (.inl ⟨h, d, g, hc⟩)
    clear HN
    rcases hc3 with hs0 | ⟨h1, d, g1, hc⟩ | ⟨h1, d, g1, hc, hd1, hd2⟩
    · have hs1 : (s.size : Int) ≤ 1 := by omega
      rcases q with _ | ⟨v, k⟩
      · unfold BOut at BS
        have R := Lib.hid hD
        clear hD hk hs0 hsz
        go_enter Tryd.func58, Tryd.ntmps58
        go_wp2_with fail
        refine (BS.out _).mono ?_
        rintro e w' ⟨rfl, rfl⟩
        go_wp2_with fail
        go_ret2
        exact ⟨by rw [R.out]; rfl, rfl⟩
      · have hkl := hk v k rfl
        unfold BOut at BS
        simp only at hD
        by_cases hk1 : k < 1
        · have R := Lib.hid (show docNum (c :: r) = (0, 0) by rw [hD, if_pos (.inl hk1)])
          have hk1' : (k : Int) < 1 := by omega
          clear hD hk hs0 hsz hk1
          go_enter Tryd.func58, Tryd.ntmps58
          go_wp2_with fail
          refine (BS.out _).mono ?_
          rintro e w' ⟨rfl, rfl⟩
          go_wp2_with fail
          go_ret2
          exact ⟨by rw [R.out]; rfl, rfl⟩
        · have hk1' : 1 ≤ (k : Int) := by omega
          have w0 : IntKind.i64.wrap (0 + (k : Int)) = (k : Int) := by rw [IntWalk.i64_in _ (by omega)]; omega
          have w00 : IntKind.i64.wrap (k : Int) = (k : Int) := IntWalk.i64_in _ (by omega)
          have hk2 : (k : Int) ≤ 1 := by omega
          have R := Lib.hid (show docNum (c :: r) = (v, k) by rw [hD, if_neg (by rintro (h | ⟨h, _⟩) <;> omega)])
          clear hD hk hs0 hsz hk1
          go_enter Tryd.func58, Tryd.ntmps58
          go_wp2_with fail
          refine (BS.out _).mono ?_
          rintro e w' ⟨rfl, rfl⟩
          go_wp2_with fail
          go_ret2
          exact ⟨by rw [R.out]; unfold NOut; first | (simp; done) | (simp; rw [← IntWalk.i64_left]; exact w00), rfl⟩
    · have hs1 : 1 < (s.size : Int) := by omega
      have f48 : ((c.toNat : Int) == 48) = false := by
        have : c.toNat ≠ 48 := fun h => hc (UInt8.toNat_inj.1 h)
        simp; omega
      rcases q with _ | ⟨v, k⟩
      · unfold BOut at BS
        have R := Lib.hid hD
        clear hD hk hsz hc
        go_enter Tryd.func58, Tryd.ntmps58
        go_wp2_with fail
        refine (BS.out _).mono ?_
        rintro e w' ⟨rfl, rfl⟩
        go_wp2_with fail
        go_ret2
        exact ⟨by rw [R.out]; rfl, rfl⟩
      · have hkl := hk v k rfl
        unfold BOut at BS
        simp only at hD
        by_cases hk1 : k < 1
        · have R := Lib.hid (show docNum (c :: r) = (0, 0) by rw [hD, if_pos (.inl hk1)])
          have hk1' : (k : Int) < 1 := by omega
          clear hD hk hsz hc hk1
          go_enter Tryd.func58, Tryd.ntmps58
          go_wp2_with fail
          refine (BS.out _).mono ?_
          rintro e w' ⟨rfl, rfl⟩
          go_wp2_with fail
          go_ret2
          exact ⟨by rw [R.out]; rfl, rfl⟩
        · have hk1' : 1 ≤ (k : Int) := by omega
          have w0 : IntKind.i64.wrap (0 + (k : Int)) = (k : Int) := by rw [IntWalk.i64_in _ (by omega)]; omega
          have w00 : IntKind.i64.wrap (k : Int) = (k : Int) := IntWalk.i64_in _ (by omega)
          by_cases hk2 : 1 < k
          · have hk2' : 1 < (k : Int) := by omega
            have R := Lib.hid (show docNum (c :: r) = (v, k) by rw [hD, if_neg (by rintro (h | ⟨_, h⟩); exact hk1 h; simp at h; exact hc h)])
            clear hD hk hsz hc hk1 hk2
            go_enter Tryd.func58, Tryd.ntmps58
            go_wp2_with fail
            refine (BS.out _).mono ?_
            rintro e w' ⟨rfl, rfl⟩
            go_wp2_with fail
            go_ret2
            exact ⟨by rw [R.out]; unfold NOut; first | (simp; done) | (simp; rw [← IntWalk.i64_left]; exact w00), rfl⟩
          · have hk2' : (k : Int) ≤ 1 := by omega
            have R := Lib.hid (show docNum (c :: r) = (v, k) by rw [hD, if_neg (by rintro (h | ⟨h, _⟩) <;> omega)])
            clear hD hk hsz hc hk1 hk2
            go_enter Tryd.func58, Tryd.ntmps58
            go_wp2_with fail
            refine (BS.out _).mono ?_
            rintro e w' ⟨rfl, rfl⟩
            go_wp2_with fail
            go_ret2
            exact ⟨by rw [R.out]; unfold NOut; first | (simp; done) | (simp; rw [← IntWalk.i64_left]; exact w00), rfl⟩
    · have hs1 : 1 < (s.size : Int) := by omega
      have f120 : ((d.toNat : Int) == 120) = false := by
        have : d.toNat ≠ 120 := fun h => hd1 (UInt8.toNat_inj.1 h)
        simp; omega
      have f98 : ((d.toNat : Int) == 98) = false := by
        have : d.toNat ≠ 98 := fun h => hd2 (UInt8.toNat_inj.1 h)
        simp; omega
      subst hc
      rcases q with _ | ⟨v, k⟩
      · unfold BOut at BS
        have R := Lib.hid hD
        clear hD hk hsz hd1 hd2
        go_enter Tryd.func58, Tryd.ntmps58
        go_wp2_with fail
        refine (BS.out _).mono ?_
        rintro e w' ⟨rfl, rfl⟩
        go_wp2_with fail
        go_ret2
        exact ⟨by rw [R.out]; rfl, rfl⟩
      · have hkl := hk v k rfl
        unfold BOut at BS
        simp only at hD
        by_cases hk1 : k < 1
        · have R := Lib.hid (show docNum (48 :: r) = (0, 0) by rw [hD, if_pos (.inl hk1)])
          have hk1' : (k : Int) < 1 := by omega
          clear hD hk hsz hd1 hd2 hk1
          go_enter Tryd.func58, Tryd.ntmps58
          go_wp2_with fail
          refine (BS.out _).mono ?_
          rintro e w' ⟨rfl, rfl⟩
          go_wp2_with fail
          go_ret2
          exact ⟨by rw [R.out]; rfl, rfl⟩
        · have hk1' : 1 ≤ (k : Int) := by omega
          have w0 : IntKind.i64.wrap (0 + (k : Int)) = (k : Int) := by rw [IntWalk.i64_in _ (by omega)]; omega
          have w00 : IntKind.i64.wrap (k : Int) = (k : Int) := IntWalk.i64_in _ (by omega)
          by_cases hk2 : 1 < k
          · have hk2' : 1 < (k : Int) := by omega
            have R := Lib.hid (show docNum (48 :: r) = (0, 0) by rw [hD, if_pos (.inr ⟨hk2, rfl⟩)])
            clear hD hk hsz hd1 hd2 hk1 hk2
            go_enter Tryd.func58, Tryd.ntmps58
            go_wp2_with fail
            refine (BS.out _).mono ?_
            rintro e w' ⟨rfl, rfl⟩
            go_wp2_with fail
            go_ret2
            exact ⟨by rw [R.out]; rfl, rfl⟩
          · have hk2' : (k : Int) ≤ 1 := by omega
            have R := Lib.hid (show docNum (48 :: r) = (v, k) by rw [hD, if_neg (by rintro (h | ⟨h, _⟩) <;> omega)])
            clear hD hk hsz hd1 hd2 hk1 hk2
            go_enter Tryd.func58, Tryd.ntmps58
            go_wp2_with fail
            refine (BS.out _).mono ?_
            rintro e w' ⟨rfl, rfl⟩
            go_wp2_with fail
            go_ret2
            exact ⟨by rw [R.out]; unfold NOut; first | (simp; done) | (simp; rw [← IntWalk.i64_left]; exact w00), rfl⟩
  exact key _ rfl
end Go.Proofs.YtjmdcimfmmfinaaDoor
