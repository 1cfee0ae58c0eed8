/-
  The document's one: what each call returns. Conditions: a text of at most 512 bytes that is not empty.
-/
import Derived.Test.YtjmdcimfmmfinaaDoorLexRefF
namespace Go.Proofs.YtjmdcimfmmfinaaDoor
open Go.RowKit

/-- what one returns -/
def ROne (o : Option (Int × Bs × Nat × Nat)) (er : Int) : Ending := match o with
  | some (k, t, n, z) => .returned (.tuple #[.agg #[.int .i64 k, .string ⟨t.toArray⟩, .int .u64 (n : Int), .int .i64 0], .int .i64 (z : Int), .int .i64 0])
  | none => .returned (.tuple #[.agg #[.int .i64 0, .string ⟨#[]⟩, .int .u64 0, .int .i64 0], .int .i64 0, .int .i64 er])
theorem run_take_all (p : UInt8 → Bool) : ∀ (l : Bs) (n : Nat), n ≤ l.length → ((l.take n).all p = true ↔ n ≤ run p l)
  | [], n, h => by simp at h; subst h; simp
  | c :: r, 0, _ => by simp
  | c :: r, n + 1, h => by
    have ih := run_take_all p r n (by simpa using h)
    rw [List.take_succ_cons, List.all_cons]
    cases hc : p c with
    | true => rw [run_head p hc, Bool.true_and, ih]; omega
    | false => rw [run_no p hc]; simp
theorem name_upto {c : UInt8} {r : Bs} {n : Nat} (hc : isL c = true) (hn : n < (c :: r).length) : nameB ((c :: r).take (n + 1)) = decide (n + 1 ≤ run isLD (c :: r)) := by
  have h1 := run_take_all isLD r n (by simp at hn; omega)
  rw [List.take_succ_cons]
  show (isL c && (r.take n).all isLD) = _
  rw [hc, Bool.true_and, run_head _ (by simp [isLD, hc]), Bool.eq_iff_iff, h1]
  simp
theorem ext_list {s : ByteArray} {l : Bs} (h : s.data.toList = l) (k : Nat) : s.extract 0 k = ⟨(l.take k).toArray⟩ := bytes_eq (by rw [list_take h])
set_option maxRecDepth 100000 in
set_option maxHeartbeats 4000000 in
theorem rone_letter (s : ByteArray) (c : UInt8) (r : Bs) (w : World) (hs : s.size ≤ 512) (hl : s.data.toList = c :: r) (hc : isL c = true) :
    Calls Tryd.prog 31 #[.string s] w fun e w' => e = ROne (one (c :: r)) (errO (c :: r)) ∧ Below w.heap.size w w' := by
  obtain ⟨h0, gx⟩ := byte_of (j := 0) hl rfl
  have h0' : 0 < (s.size : Int) := by omega
  have L := Lib.hid (fun w => rletter_any c w)
  rw [hc] at L
  have hsz : s.size = (c :: r).length := by rw [size_list, hl]
  have NM := Lib.hid (fun (n : Nat) (hn : n < s.size) w => by
    have h := docName_any (s.extract 0 (n + 1)) w (by rw [size_list, list_take hl, List.length_take]; unfold maxLen; omega)
    rw [list_take hl, name_upto hc (by omega)] at h
    exact h)
  have hrl := run_le isLD (c :: r)
  have R := Lib.hid (show one (c :: r) = some (1, (c :: r).take (run isLD (c :: r)), 0, run isLD (c :: r)) by unfold one; simp only [hc, if_true])
  have EX := Lib.hid (ext_list hl (run isLD (c :: r)))
  rw [← hsz] at hrl
  generalize run isLD (c :: r) = m at *
  clear hl hsz hc
  go_enter Tryd.func31, Tryd.ntmps31
  go_wp2_with fail
  refine (L.out _).mono ?_
  rintro e w' ⟨rfl, rfl⟩
  go_wp2_with fail
  go_loop [6] (fun i => ∃ n : Nat, n ≤ m ∧ i = .int .i64 (n : Int)) (fun i => s.size - (intOf i).toNat)
  case atStart => exact ⟨0, Nat.zero_le _, rfl⟩
  case round =>
    obtain ⟨n, hn, rfl⟩ := hrel
    by_cases hlt : n < s.size
    · have hlt' : (n : Int) < (s.size : Int) := by omega
      have w9 : IntKind.i64.wrap ((n : Int) + 1) = ((n + 1 : Nat) : Int) := by rw [IntWalk.i64_in _ (by omega)]; omega
      have NN := Lib.hid (fun w => NM.out n hlt w)
      by_cases hnm : n + 1 ≤ m
      · rw [decide_eq_true hnm] at NN
        clear NM
        go_wp2_with fail
        refine (NN.out _).mono ?_
        rintro e w' ⟨rfl, rfl⟩
        go_wp2_with fail
        go_round
        case rel => exact ⟨n + 1, by omega, by first | rfl | rw [← w9] | simp⟩
        case measure => simp [intOf]; omega
      · rw [decide_eq_false hnm] at NN
        obtain rfl : n = m := by omega
        clear NM
        go_wp2_with fail
        refine (NN.out _).mono ?_
        rintro e w' ⟨rfl, rfl⟩
        go_wp2_with fail
        exact bodyPost_ret (v := .tuple #[.agg #[.int .i64 1, .string (s.extract 0 n), .int .u64 0, .int .i64 0], .int .i64 (n : Int), .int .i64 0]) (by simp [results, Tryd.results31, go_sem]) rfl ⟨by rw [R.out, EX.out]; rfl, below1 w _⟩
    · obtain rfl : n = m := by omega
      have hlt' : (s.size : Int) ≤ (n : Int) := by omega
      go_wp2_with fail
      exact bodyPost_ret (v := .tuple #[.agg #[.int .i64 1, .string (s.extract 0 n), .int .u64 0, .int .i64 0], .int .i64 (n : Int), .int .i64 0]) (by simp [results, Tryd.results31, go_sem]) rfl ⟨by rw [R.out, EX.out]; rfl, below1 w _⟩

theorem errO_num {c : UInt8} {r : Bs} (h : isD c = true ∨ c = 39) : errO (c :: r) = 81 := by
  have : (isD c || c == 39) = true := by rcases h with h | h <;> simp [h]
  unfold errO; simp only [this, if_true]
theorem one_num {c : UInt8} {r : Bs} (hL : isL c = false) (h : isD c = true ∨ c = 39) : one (c :: r) = (numB (c :: r)).map fun x => (2, [], x.1, x.2) := by
  have : (isD c || c == 39) = true := by rcases h with h | h <;> simp [h]
  unfold one; simp only [hL, this, if_true, Bool.false_eq_true, if_false]
theorem rnumber_any (s : ByteArray) (c : UInt8) (r : Bs) (w : World) (hs : s.size ≤ 4096) (hl : s.data.toList = c :: r) :
    Calls Tryd.prog 58 #[.string s] w fun e w' => e = NOut (docNum (c :: r)) ∧ w = w' := by
  by_cases h39 : c = 39
  · subst h39; exact rnumber_quote s r w hs hl
  · by_cases hx : (c :: r).take 2 = [48, 120]
    · rcases r with _ | ⟨d, r2⟩
      · simp at hx
      · simp only [List.take_succ_cons, List.take_zero, List.cons.injEq, and_true] at hx
        obtain ⟨rfl, rfl⟩ := hx
        exact rnumber_x s r2 w hs hl
    · by_cases hb : (c :: r).take 2 = [48, 98]
      · rcases r with _ | ⟨d, r2⟩
        · simp at hb
        · simp only [List.take_succ_cons, List.take_zero, List.cons.injEq, and_true] at hb
          obtain ⟨rfl, rfl⟩ := hb
          exact rnumber_b s r2 w hs hl
      · exact rnumber_10 s c r w hs hl h39 hx hb
set_option maxRecDepth 100000 in
set_option maxHeartbeats 4000000 in
theorem rone_num (s : ByteArray) (c : UInt8) (r : Bs) (w : World) (hs : s.size ≤ 512) (hl : s.data.toList = c :: r) (hL : isL c = false) (hc : isD c = true ∨ c = 39) :
    Calls Tryd.prog 31 #[.string s] w fun e w' => e = ROne (one (c :: r)) (errO (c :: r)) ∧ Below w.heap.size w w' := by
  obtain ⟨h0, gx⟩ := byte_of (j := 0) hl rfl
  have h0' : 0 < (s.size : Int) := by omega
  have L := Lib.hid (fun w => rletter_any c w)
  have D := Lib.hid (fun w => rdecimal_any c w)
  rw [hL] at L
  have NB := Lib.hid (fun w => rnumber_any s c r w (by omega) hl)
  have hE := numB_doc (s := c :: r) (fun x hx => by simp at hx; rw [← hx]; exact hc) (by simp)
  have hle := docNum_le (c :: r)
  have hsz : s.size = (c :: r).length := by rw [size_list, hl]
  rw [errO_num hc, one_num hL hc, hE]
  have HD : Hid ((isD c = true) ∨ (isD c = false ∧ ((c.toNat : Int) == 39) = true)) := Lib.hid (by
    rcases hc with h | h
    · exact .inl h
    · subst h; exact .inr ⟨by decide, by decide⟩)
  have NX : Hid (∀ h : (docNum (c :: r)).2 < s.size, okEnd ((c :: r).drop (docNum (c :: r)).2) = !(isLD (s[(docNum (c :: r)).2]'h))) := Lib.hid (fun h => by
    have := drop_cons_get h
    rw [hl] at this
    rw [this]; rfl)
  have NE : Hid (s.size ≤ (docNum (c :: r)).2 → okEnd ((c :: r).drop (docNum (c :: r)).2) = true) := Lib.hid (fun h => by
    rw [List.drop_eq_nil_of_le (by omega)]; rfl)
  unfold NOut at NB
  obtain ⟨v, n, hvn⟩ : ∃ v n, docNum (c :: r) = (v, n) := ⟨_, _, rfl⟩
  rw [hvn] at NB NX NE hle ⊢
  simp only at NB NX NE hle ⊢
  rw [← hsz] at hle
  generalize okEnd ((c :: r).drop n) = ok at *
  clear hl hL hE hvn hsz hc
  obtain ⟨o, ho⟩ : ∃ o : Option (Nat × Nat), (if n = 0 ∨ ok = false then none else some (v, n)) = o := ⟨_, rfl⟩
  rw [ho]
  have HO := Lib.hid ho
  clear ho
  rcases HD.out with hD | ⟨hD, h39⟩
  · rw [hD] at D
    clear HD hD
    by_cases hn0 : n = 0
    · subst hn0
      have R := Lib.hid (show o = none by rw [← HO.out]; exact if_pos (.inl rfl))
      clear NX NE
      go_enter Tryd.func31, Tryd.ntmps31
      go_wp2_with fail
      refine (L.out _).mono ?_
      rintro e w' ⟨rfl, rfl⟩
      go_wp2_with fail
      refine (D.out _).mono ?_
      rintro e w' ⟨rfl, rfl⟩
      go_wp2_with fail
      refine (NB.out _).mono ?_
      rintro e w' ⟨rfl, rfl⟩
      go_wp2_with fail
      exact bodyPost_ret (v := .tuple #[.agg #[.int .i64 0, .string ⟨#[]⟩, .int .u64 0, .int .i64 0], .int .i64 0, .int .i64 81]) (by simp [results, Tryd.results31, go_sem]) rfl ⟨by rw [R.out]; rfl, below1 w _⟩
    · have hn1 : ((n : Int) == 0) = false := by simp; omega
      by_cases hlt : n < s.size
      · have hlt' : (n : Int) < (s.size : Int) := by omega
        have hx := NX.out hlt
        obtain ⟨x, hxx⟩ : ∃ x, s[n] = x := ⟨_, rfl⟩
        have LX := Lib.hid (fun w => rletter_any x w)
        have DX := Lib.hid (fun w => rdecimal_any x w)
        rw [hxx] at hx
        clear NX NE
        cases hLx : isL x with
        | true =>
          rw [hLx] at LX
          have R := Lib.hid (show o = none by rw [← HO.out]; exact if_pos (.inr (by rw [hx]; simp [isLD, hLx])))
          clear hx hLx hn0
          go_enter Tryd.func31, Tryd.ntmps31
          go_wp2_with fail
          refine (L.out _).mono ?_
          rintro e w' ⟨rfl, rfl⟩
          go_wp2_with fail
          refine (D.out _).mono ?_
          rintro e w' ⟨rfl, rfl⟩
          go_wp2_with fail
          refine (NB.out _).mono ?_
          rintro e w' ⟨rfl, rfl⟩
          go_wp2_with fail
          refine (LX.out _).mono ?_
          rintro e w' ⟨rfl, rfl⟩
          go_wp2_with fail
          exact bodyPost_ret (v := .tuple #[.agg #[.int .i64 0, .string ⟨#[]⟩, .int .u64 0, .int .i64 0], .int .i64 0, .int .i64 81]) (by simp [results, Tryd.results31, go_sem]) rfl ⟨by rw [R.out]; rfl, below1 w _⟩
        | false =>
          rw [hLx] at LX
          cases hDx : isD x with
          | true =>
            rw [hDx] at DX
            have R := Lib.hid (show o = none by rw [← HO.out]; exact if_pos (.inr (by rw [hx]; simp [isLD, hDx])))
            clear hx hLx hDx hn0
            go_enter Tryd.func31, Tryd.ntmps31
            go_wp2_with fail
            refine (L.out _).mono ?_
            rintro e w' ⟨rfl, rfl⟩
            go_wp2_with fail
            refine (D.out _).mono ?_
            rintro e w' ⟨rfl, rfl⟩
            go_wp2_with fail
            refine (NB.out _).mono ?_
            rintro e w' ⟨rfl, rfl⟩
            go_wp2_with fail
            refine (LX.out _).mono ?_
            rintro e w' ⟨rfl, rfl⟩
            go_wp2_with fail
            refine (DX.out _).mono ?_
            rintro e w' ⟨rfl, rfl⟩
            go_wp2_with fail
            exact bodyPost_ret (v := .tuple #[.agg #[.int .i64 0, .string ⟨#[]⟩, .int .u64 0, .int .i64 0], .int .i64 0, .int .i64 81]) (by simp [results, Tryd.results31, go_sem]) rfl ⟨by rw [R.out]; rfl, below1 w _⟩
          | false =>
            rw [hDx] at DX
            have R := Lib.hid (show o = some (v, n) by rw [← HO.out]; exact if_neg (by rw [hx]; simp [isLD, hLx, hDx, hn0]))
            clear hx hLx hDx hn0
            go_enter Tryd.func31, Tryd.ntmps31
            go_wp2_with fail
            refine (L.out _).mono ?_
            rintro e w' ⟨rfl, rfl⟩
            go_wp2_with fail
            refine (D.out _).mono ?_
            rintro e w' ⟨rfl, rfl⟩
            go_wp2_with fail
            refine (NB.out _).mono ?_
            rintro e w' ⟨rfl, rfl⟩
            go_wp2_with fail
            refine (LX.out _).mono ?_
            rintro e w' ⟨rfl, rfl⟩
            go_wp2_with fail
            refine (DX.out _).mono ?_
            rintro e w' ⟨rfl, rfl⟩
            go_wp2_with fail
            exact bodyPost_ret (v := .tuple #[.agg #[.int .i64 2, .string ⟨#[]⟩, .int .u64 (v : Int), .int .i64 0], .int .i64 (n : Int), .int .i64 0]) (by simp [results, Tryd.results31, go_sem]) rfl ⟨by rw [R.out]; rfl, below1 w _⟩
      · have hlt' : (s.size : Int) ≤ (n : Int) := by omega
        have R := Lib.hid (show o = some (v, n) by rw [← HO.out]; exact if_neg (by rw [NE.out (by omega)]; simp [hn0]))
        clear NX NE hn0
        go_enter Tryd.func31, Tryd.ntmps31
        go_wp2_with fail
        refine (L.out _).mono ?_
        rintro e w' ⟨rfl, rfl⟩
        go_wp2_with fail
        refine (D.out _).mono ?_
        rintro e w' ⟨rfl, rfl⟩
        go_wp2_with fail
        refine (NB.out _).mono ?_
        rintro e w' ⟨rfl, rfl⟩
        go_wp2_with fail
        exact bodyPost_ret (v := .tuple #[.agg #[.int .i64 2, .string ⟨#[]⟩, .int .u64 (v : Int), .int .i64 0], .int .i64 (n : Int), .int .i64 0]) (by simp [results, Tryd.results31, go_sem]) rfl ⟨by rw [R.out]; rfl, below1 w _⟩
  · rw [hD] at D
    clear HD hD
    by_cases hn0 : n = 0
    · subst hn0
      have R := Lib.hid (show o = none by rw [← HO.out]; exact if_pos (.inl rfl))
      clear NX NE
      go_enter Tryd.func31, Tryd.ntmps31
      go_wp2_with fail
      refine (L.out _).mono ?_
      rintro e w' ⟨rfl, rfl⟩
      go_wp2_with fail
      refine (D.out _).mono ?_
      rintro e w' ⟨rfl, rfl⟩
      go_wp2_with fail
      refine (NB.out _).mono ?_
      rintro e w' ⟨rfl, rfl⟩
      go_wp2_with fail
      exact bodyPost_ret (v := .tuple #[.agg #[.int .i64 0, .string ⟨#[]⟩, .int .u64 0, .int .i64 0], .int .i64 0, .int .i64 81]) (by simp [results, Tryd.results31, go_sem]) rfl ⟨by rw [R.out]; rfl, below1 w _⟩
    · have hn1 : ((n : Int) == 0) = false := by simp; omega
      by_cases hlt : n < s.size
      · have hlt' : (n : Int) < (s.size : Int) := by omega
        have hx := NX.out hlt
        obtain ⟨x, hxx⟩ : ∃ x, s[n] = x := ⟨_, rfl⟩
        have LX := Lib.hid (fun w => rletter_any x w)
        have DX := Lib.hid (fun w => rdecimal_any x w)
        rw [hxx] at hx
        clear NX NE
        cases hLx : isL x with
        | true =>
          rw [hLx] at LX
          have R := Lib.hid (show o = none by rw [← HO.out]; exact if_pos (.inr (by rw [hx]; simp [isLD, hLx])))
          clear hx hLx hn0
          go_enter Tryd.func31, Tryd.ntmps31
          go_wp2_with fail
          refine (L.out _).mono ?_
          rintro e w' ⟨rfl, rfl⟩
          go_wp2_with fail
          refine (D.out _).mono ?_
          rintro e w' ⟨rfl, rfl⟩
          go_wp2_with fail
          refine (NB.out _).mono ?_
          rintro e w' ⟨rfl, rfl⟩
          go_wp2_with fail
          refine (LX.out _).mono ?_
          rintro e w' ⟨rfl, rfl⟩
          go_wp2_with fail
          exact bodyPost_ret (v := .tuple #[.agg #[.int .i64 0, .string ⟨#[]⟩, .int .u64 0, .int .i64 0], .int .i64 0, .int .i64 81]) (by simp [results, Tryd.results31, go_sem]) rfl ⟨by rw [R.out]; rfl, below1 w _⟩
        | false =>
          rw [hLx] at LX
          cases hDx : isD x with
          | true =>
            rw [hDx] at DX
            have R := Lib.hid (show o = none by rw [← HO.out]; exact if_pos (.inr (by rw [hx]; simp [isLD, hDx])))
            clear hx hLx hDx hn0
            go_enter Tryd.func31, Tryd.ntmps31
            go_wp2_with fail
            refine (L.out _).mono ?_
            rintro e w' ⟨rfl, rfl⟩
            go_wp2_with fail
            refine (D.out _).mono ?_
            rintro e w' ⟨rfl, rfl⟩
            go_wp2_with fail
            refine (NB.out _).mono ?_
            rintro e w' ⟨rfl, rfl⟩
            go_wp2_with fail
            refine (LX.out _).mono ?_
            rintro e w' ⟨rfl, rfl⟩
            go_wp2_with fail
            refine (DX.out _).mono ?_
            rintro e w' ⟨rfl, rfl⟩
            go_wp2_with fail
            exact bodyPost_ret (v := .tuple #[.agg #[.int .i64 0, .string ⟨#[]⟩, .int .u64 0, .int .i64 0], .int .i64 0, .int .i64 81]) (by simp [results, Tryd.results31, go_sem]) rfl ⟨by rw [R.out]; rfl, below1 w _⟩
          | false =>
            rw [hDx] at DX
            have R := Lib.hid (show o = some (v, n) by rw [← HO.out]; exact if_neg (by rw [hx]; simp [isLD, hLx, hDx, hn0]))
            clear hx hLx hDx hn0
            go_enter Tryd.func31, Tryd.ntmps31
            go_wp2_with fail
            refine (L.out _).mono ?_
            rintro e w' ⟨rfl, rfl⟩
            go_wp2_with fail
            refine (D.out _).mono ?_
            rintro e w' ⟨rfl, rfl⟩
            go_wp2_with fail
            refine (NB.out _).mono ?_
            rintro e w' ⟨rfl, rfl⟩
            go_wp2_with fail
            refine (LX.out _).mono ?_
            rintro e w' ⟨rfl, rfl⟩
            go_wp2_with fail
            refine (DX.out _).mono ?_
            rintro e w' ⟨rfl, rfl⟩
            go_wp2_with fail
            exact bodyPost_ret (v := .tuple #[.agg #[.int .i64 2, .string ⟨#[]⟩, .int .u64 (v : Int), .int .i64 0], .int .i64 (n : Int), .int .i64 0]) (by simp [results, Tryd.results31, go_sem]) rfl ⟨by rw [R.out]; rfl, below1 w _⟩
      · have hlt' : (s.size : Int) ≤ (n : Int) := by omega
        have R := Lib.hid (show o = some (v, n) by rw [← HO.out]; exact if_neg (by rw [NE.out (by omega)]; simp [hn0]))
        clear NX NE hn0
        go_enter Tryd.func31, Tryd.ntmps31
        go_wp2_with fail
        refine (L.out _).mono ?_
        rintro e w' ⟨rfl, rfl⟩
        go_wp2_with fail
        refine (D.out _).mono ?_
        rintro e w' ⟨rfl, rfl⟩
        go_wp2_with fail
        refine (NB.out _).mono ?_
        rintro e w' ⟨rfl, rfl⟩
        go_wp2_with fail
        exact bodyPost_ret (v := .tuple #[.agg #[.int .i64 2, .string ⟨#[]⟩, .int .u64 (v : Int), .int .i64 0], .int .i64 (n : Int), .int .i64 0]) (by simp [results, Tryd.results31, go_sem]) rfl ⟨by rw [R.out]; rfl, below1 w _⟩
end Go.Proofs.YtjmdcimfmmfinaaDoor
