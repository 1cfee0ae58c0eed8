/-
  The document's number: what each call returns. Conditions: a text of at most 4096 bytes that is not empty.
-/
import Derived.Test.YtjmdcimfmmfinaaDoorLexRefD
namespace Go.Proofs.YtjmdcimfmmfinaaDoor
open Go.RowKit

def NOut (x : Nat × Nat) : Ending := .returned (.tuple #[.int .u64 (x.1 : Int), .int .i64 (x.2 : Int)])
theorem byte_of {s : ByteArray} {l : Bs} {j : Nat} {c : UInt8} (hl : s.data.toList = l) (hj : l[j]? = some c) : ∃ h : j < s.size, s[j]'h = c := by
  obtain ⟨h, e⟩ := List.getElem?_eq_some_iff.1 hj
  have hs : j < s.size := by rw [size_list, hl]; exact h
  exact ⟨hs, by rw [get_list hs]; simp only [hl]; exact e⟩
theorem stands_no {c a : UInt8} (h : stands c a = false) : (c.toNat : Int) < 32 ∨ 126 < (c.toNat : Int) ∨ (c.toNat : Int) = 92 ∨ (c.toNat : Int) = (a.toNat : Int) := by
  have := stands_int c a
  rw [h] at this
  simp only [Bool.and_eq_false_iff, decide_eq_false_iff_not, bne_eq_false_iff_eq] at this
  omega
theorem stands_yes {c a : UInt8} (h : stands c a = true) : 32 ≤ (c.toNat : Int) ∧ (c.toNat : Int) ≤ 126 ∧ (c.toNat : Int) ≠ 92 ∧ (c.toNat : Int) ≠ (a.toNat : Int) := by
  have := stands_int c a
  rw [h] at this
  simp only [Bool.and_eq_true, decide_eq_true_eq, bne_iff_ne, ne_eq] at this
  exact ⟨this.1.1.1, this.1.1.2, this.1.2, this.2⟩
set_option maxRecDepth 100000 in
set_option maxHeartbeats 4000000 in
theorem rnumber_quote (s : ByteArray) (r : Bs) (w : World) (hs : s.size ≤ 4096) (hl : s.data.toList = 39 :: r) :
    Calls Tryd.prog 58 #[.string s] w fun e w' => e = NOut (docNum (39 :: r)) ∧ w = w' := by
  obtain ⟨h0, gx⟩ := byte_of (j := 0) hl rfl
  have hsz : s.size = r.length + 1 := by rw [size_list, hl]; rfl
  have h0' : 0 < (s.size : Int) := by omega
  rcases r with _ | ⟨d, _ | ⟨t, r2⟩⟩
  · have hl3 : (s.size : Int) < 3 := by simp at hsz; omega
    have R := Lib.hid (show docNum [39] = (0, 0) by rfl)
    clear hl hsz
    go_enter Tryd.func58, Tryd.ntmps58
    go_wp2_with fail
    go_ret2
    exact ⟨by rw [R.out]; rfl, rfl⟩
  · have hl3 : (s.size : Int) < 3 := by simp at hsz; omega
    have R := Lib.hid (show docNum [39, d] = (0, 0) by rfl)
    clear hl hsz
    go_enter Tryd.func58, Tryd.ntmps58
    go_wp2_with fail
    go_ret2
    exact ⟨by rw [R.out]; rfl, rfl⟩
  · obtain ⟨h1, g1⟩ := byte_of (j := 1) hl rfl
    obtain ⟨h2, g2⟩ := byte_of (j := 2) hl rfl
    have hl3 : 3 ≤ (s.size : Int) := by omega
    have hE : docNum (39 :: d :: t :: r2) = if t = 39 ∧ stands d 39 = true then (d.toNat, 3) else (0, 0) := rfl
    have dl := d.toNat_lt
    clear hl hsz
    by_cases ht : t = 39
    · subst ht
      cases hst : stands d 39 with
      | true =>
        have R := Lib.hid (show docNum (39 :: d :: 39 :: r2) = (d.toNat, 3) by rw [hE, if_pos ⟨rfl, hst⟩])
        obtain ⟨a1, a2, a3, a4⟩ := stands_yes hst
        have a4' : (d.toNat : Int) ≠ 39 := a4
        have wu : IntKind.u64.wrap (d.toNat : Int) = (d.toNat : Int) := by rw [IntKind.wrap_u64]; omega
        have b3 : ((d.toNat : Int) == 92) = false := by simpa using a3
        have b4 : ((d.toNat : Int) == 39) = false := by simpa using a4'
        clear hE hst a3 a4 a4'
        go_enter Tryd.func58, Tryd.ntmps58
        go_wp2_with fail
        go_ret2
        exact ⟨by rw [R.out]; rfl, rfl⟩
      | false =>
        have R := Lib.hid (show docNum (39 :: d :: 39 :: r2) = (0, 0) by rw [hE, if_neg (by rw [hst]; rintro ⟨_, h⟩; cases h)])
        have hn := stands_no hst
        rw [show ((39 : UInt8).toNat : Int) = 39 from rfl] at hn
        clear hE hst
        rcases Int.lt_or_le (d.toNat : Int) 32 with h | h
        · clear hn
          go_enter Tryd.func58, Tryd.ntmps58
          go_wp2_with fail
          go_ret2
          exact ⟨by rw [R.out]; rfl, rfl⟩
        · rcases Int.lt_or_le 126 (d.toNat : Int) with h' | h'
          · clear hn
            go_enter Tryd.func58, Tryd.ntmps58
            go_wp2_with fail
            go_ret2
            exact ⟨by rw [R.out]; rfl, rfl⟩
          · by_cases hn9 : (d.toNat : Int) = 39
            · clear hn
              go_enter Tryd.func58, Tryd.ntmps58
              go_wp2_with fail
              go_ret2
              exact ⟨by rw [R.out]; rfl, rfl⟩
            · have hn2 : (d.toNat : Int) = 92 := by omega
              clear hn hn9
              go_enter Tryd.func58, Tryd.ntmps58
              go_wp2_with fail
              go_ret2
              exact ⟨by rw [R.out]; rfl, rfl⟩
    · have R := Lib.hid (show docNum (39 :: d :: t :: r2) = (0, 0) by rw [hE, if_neg (fun h => ht h.1)])
      have ht' : ((t.toNat : Int) != 39) = true := by
        have : t.toNat ≠ 39 := fun h => ht (UInt8.toNat_inj.1 h)
        simp; omega
      clear hE ht
      go_enter Tryd.func58, Tryd.ntmps58
      go_wp2_with fail
      go_ret2
      exact ⟨by rw [R.out]; rfl, rfl⟩

theorem based_k {base : Nat} {t : Bs} {v k : Nat} (h : basedF base 0 0 t = some (v, k)) : k ≤ t.length := by
  have B : ∀ (t : Bs) (a j : Nat) (v k : Nat), basedF base a j t = some (v, k) → k ≤ j + t.length := by
    intro t
    induction t with
    | nil => intro a j v k h; simp [basedF] at h; omega
    | cons c r ih =>
      intro a j v k h
      rw [basedF] at h
      split at h
      · split at h
        · split at h
          · have := ih _ _ _ _ h; simp only [List.length_cons]; omega
          · cases h
        · cases h; omega
      · cases h; omega
  have := B t 0 0 v k h
  omega
set_option maxRecDepth 100000 in
set_option maxHeartbeats 4000000 in
theorem rnumber_x (s : ByteArray) (r : Bs) (w : World) (hs : s.size ≤ 4096) (hl : s.data.toList = 48 :: 120 :: r) :
    Calls Tryd.prog 58 #[.string s] w fun e w' => e = NOut (docNum (48 :: 120 :: r)) ∧ w = w' := by
  obtain ⟨h0, gx⟩ := byte_of (j := 0) hl rfl
  obtain ⟨h1, g1⟩ := byte_of (j := 1) hl rfl
  have hl2 : 1 < (s.size : Int) := by omega
  have hl3 : 2 ≤ (s.size : Int) := by omega
  have hE : (s.extract 2 s.size).data.toList = r := list_drop hl 2
  have hEs : (s.extract 2 s.size).size ≤ 4096 := by rw [size_list, hE]; have : s.size = r.length + 2 := by rw [size_list, hl]; rfl
                                                    omega
  have BB : Hid (∀ w, Calls Tryd.prog 75 #[.string (s.extract 2 s.size), .int .i64 16] w fun e w' => e = BOut (basedF 16 0 0 r) ∧ w = w') := Lib.hid (fun w => by
    have := rbased_any (s.extract 2 s.size) 16 w hEs (by decide) (by decide); rw [hE] at this; exact this)
  have hD : docNum (48 :: 120 :: r) = (match basedF 16 0 0 r with
    | some (v, k) => if k < 1 then (0, 0) else (v, 2 + k)
    | none => (0, 0)) := rfl
  have hlen : r.length ≤ 4096 := by rw [← hE, ← size_list]; exact hEs
  clear hl hE hEs
  cases hb : basedF 16 0 0 r with
  | none =>
    rw [hb] at BB hD
    have R := Lib.hid hD
    unfold BOut at BB
    clear hD hb
    go_enter Tryd.func58, Tryd.ntmps58
    go_wp2_with fail
    refine (BB.out _).mono ?_
    rintro e w' ⟨rfl, rfl⟩
    go_wp2_with fail
    go_ret2
    exact ⟨by rw [R.out]; rfl, rfl⟩
  | some q =>
    obtain ⟨v, k⟩ := q
    have hk := based_k hb
    rw [hb] at BB hD
    unfold BOut at BB
    by_cases hk1 : k < 1
    · have R := Lib.hid (show docNum (48 :: 120 :: r) = (0, 0) by rw [hD]; simp only; rw [if_pos hk1])
      have hk1' : (k : Int) < 1 := by omega
      clear hD hb hk1
      go_enter Tryd.func58, Tryd.ntmps58
      go_wp2_with fail
      refine (BB.out _).mono ?_
      rintro e w' ⟨rfl, rfl⟩
      go_wp2_with fail
      go_ret2
      exact ⟨by rw [R.out]; rfl, rfl⟩
    · have R := Lib.hid (show docNum (48 :: 120 :: r) = (v, 2 + k) by rw [hD]; simp only; rw [if_neg hk1])
      have hk1' : 1 ≤ (k : Int) := by omega
      have w2 : IntKind.i64.wrap (2 + (k : Int)) = ((2 + k : Nat) : Int) := by rw [IntWalk.i64_in _ (by omega)]; omega
      clear hD hb hk1
      go_enter Tryd.func58, Tryd.ntmps58
      go_wp2_with fail
      refine (BB.out _).mono ?_
      rintro e w' ⟨rfl, rfl⟩
      go_wp2_with fail
      go_ret2
      exact ⟨by rw [R.out]; unfold NOut; simp, rfl⟩
set_option maxRecDepth 100000 in
set_option maxHeartbeats 4000000 in
theorem rnumber_b (s : ByteArray) (r : Bs) (w : World) (hs : s.size ≤ 4096) (hl : s.data.toList = 48 :: 98 :: r) :
    Calls Tryd.prog 58 #[.string s] w fun e w' => e = NOut (docNum (48 :: 98 :: r)) ∧ w = w' := by
  obtain ⟨h0, gx⟩ := byte_of (j := 0) hl rfl
  obtain ⟨h1, g1⟩ := byte_of (j := 1) hl rfl
  have hl2 : 1 < (s.size : Int) := by omega
  have hl3 : 2 ≤ (s.size : Int) := by omega
  have hE : (s.extract 2 s.size).data.toList = r := list_drop hl 2
  have hEs : (s.extract 2 s.size).size ≤ 4096 := by rw [size_list, hE]; have : s.size = r.length + 2 := by rw [size_list, hl]; rfl
                                                    omega
  have BB : Hid (∀ w, Calls Tryd.prog 75 #[.string (s.extract 2 s.size), .int .i64 2] w fun e w' => e = BOut (basedF 2 0 0 r) ∧ w = w') := Lib.hid (fun w => by
    have := rbased_any (s.extract 2 s.size) 2 w hEs (by decide) (by decide); rw [hE] at this; exact this)
  have hD : docNum (48 :: 98 :: r) = (match basedF 2 0 0 r with
    | some (v, k) => if k < 1 then (0, 0) else (v, 2 + k)
    | none => (0, 0)) := rfl
  have hlen : r.length ≤ 4096 := by rw [← hE, ← size_list]; exact hEs
  clear hl hE hEs
  cases hb : basedF 2 0 0 r with
  | none =>
    rw [hb] at BB hD
    have R := Lib.hid hD
    unfold BOut at BB
    clear hD hb
    go_enter Tryd.func58, Tryd.ntmps58
    go_wp2_with fail
    refine (BB.out _).mono ?_
    rintro e w' ⟨rfl, rfl⟩
    go_wp2_with fail
    go_ret2
    exact ⟨by rw [R.out]; rfl, rfl⟩
  | some q =>
    obtain ⟨v, k⟩ := q
    have hk := based_k hb
    rw [hb] at BB hD
    unfold BOut at BB
    by_cases hk1 : k < 1
    · have R := Lib.hid (show docNum (48 :: 98 :: r) = (0, 0) by rw [hD]; simp only; rw [if_pos hk1])
      have hk1' : (k : Int) < 1 := by omega
      clear hD hb hk1
      go_enter Tryd.func58, Tryd.ntmps58
      go_wp2_with fail
      refine (BB.out _).mono ?_
      rintro e w' ⟨rfl, rfl⟩
      go_wp2_with fail
      go_ret2
      exact ⟨by rw [R.out]; rfl, rfl⟩
    · have R := Lib.hid (show docNum (48 :: 98 :: r) = (v, 2 + k) by rw [hD]; simp only; rw [if_neg hk1])
      have hk1' : 1 ≤ (k : Int) := by omega
      have w2 : IntKind.i64.wrap (2 + (k : Int)) = ((2 + k : Nat) : Int) := by rw [IntWalk.i64_in _ (by omega)]; omega
      clear hD hb hk1
      go_enter Tryd.func58, Tryd.ntmps58
      go_wp2_with fail
      refine (BB.out _).mono ?_
      rintro e w' ⟨rfl, rfl⟩
      go_wp2_with fail
      go_ret2
      exact ⟨by rw [R.out]; unfold NOut; simp, rfl⟩
end Go.Proofs.YtjmdcimfmmfinaaDoor
