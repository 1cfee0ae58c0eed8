/-
  The document's Tokens and Lex: what each call returns. Conditions: a text that is no longer than any.
-/
import Derived.Test.YtjmdcimfmmfinaaDoorLexRefH
import Derived.Test.YtjmdcimfmmfinaaDoorLexT
namespace Go.Proofs.YtjmdcimfmmfinaaDoor
open Go.RowKit Go.Shelf

theorem skip_cons {c : UInt8} {r : Bs} (h : isBl c = true) : skipB (c :: r) = skipB r + 1 := by
  unfold skipB
  rw [run_head _ h, List.drop_succ_cons]
  split <;> simp
theorem skip_slash {r : Bs} : skipB (47 :: 47 :: r) = (47 :: 47 :: r : Bs).length := by
  unfold skipB; rw [run_no isBl (by decide)]; rfl
theorem skip_no {c : UInt8} {r : Bs} (h : isBl c = false) (h2 : (c :: r).take 2 ≠ [47, 47]) : skipB (c :: r) = 0 := by
  unfold skipB; rw [run_no isBl h, List.drop_zero, if_neg h2]
theorem lexS_blank {at_ : Nat} {c : UInt8} {r : Bs} (h : isBl c = true) : lexS at_ (c :: r) = lexS (at_ + 1) r := by
  have hs := skip_cons (r := r) h
  have hd : (c :: r).drop (skipB (c :: r)) = r.drop (skipB r) := by rw [hs, List.drop_succ_cons]
  by_cases h0 : r.drop (skipB r) = []
  · rw [lexS_end (by rw [hd]; exact h0), lexS_end h0, List.length_cons, show at_ + (r.length + 1) = at_ + 1 + r.length by omega]
  · cases ho : one (r.drop (skipB r)) with
    | none => rw [lexS_bad (by rw [hd]; exact h0) (by rw [hd]; exact ho), lexS_bad h0 ho, hd, hs, show at_ + (skipB r + 1) = at_ + 1 + skipB r by omega]
    | some x =>
      obtain ⟨k, t, n, z⟩ := x
      rw [lexS_step (by rw [hd]; exact h0) (by rw [hd]; exact ho), lexS_step h0 ho, hd, hs, show at_ + (skipB r + 1) = at_ + 1 + skipB r by omega]
theorem lexS_slash {at_ : Nat} {r : Bs} : lexS at_ (47 :: 47 :: r) = ([], at_ + (47 :: 47 :: r : Bs).length, 0) := lexS_end (by rw [skip_slash, List.drop_length])
theorem lexS_nil {at_ : Nat} : lexS at_ [] = ([], at_, 0) := lexS_end rfl
theorem lexS_no {at_ : Nat} {c : UInt8} {r : Bs} (h : isBl c = false) (h2 : (c :: r).take 2 ≠ [47, 47]) (ho : one (c :: r) = none) : lexS at_ (c :: r) = ([], at_, errO (c :: r)) := by
  have hs := skip_no h h2
  rw [lexS_bad (by rw [hs]; simp) (by rw [hs]; exact ho), hs]; rfl
theorem lexS_yes {at_ : Nat} {c : UInt8} {r : Bs} {k : Int} {t : Bs} {n z : Nat} (h : isBl c = false) (h2 : (c :: r).take 2 ≠ [47, 47]) (ho : one (c :: r) = some (k, t, n, z)) :
    lexS at_ (c :: r) = (⟨k, t, n, (at_ : Int)⟩ :: (lexS (at_ + z) ((c :: r).drop z)).1, (lexS (at_ + z) ((c :: r).drop z)).2) := by
  have hs := skip_no h h2
  rw [lexS_step (by rw [hs]; simp) (by rw [hs]; exact ho), hs]; rfl
theorem own_keep {B : Nat} {e : TypeId} {k : Nat} {v : Value} {n : Nat} {xs : List Value} {w w' : World} (h : w.ownsRow B e k v n xs) (hb : Below w.heap.size w w') : w'.ownsRow B e k v n xs :=
  h.kept (row := none) ⟨hb.os, hb.tape, hb.output, hb.size, fun j hj _ => hb.block j hj⟩ (by cases hv : v.ownBlock <;> simp)
/-- what Tokens returns -/
def TOut (n₀ : Nat) (x : List Tok × Nat × Int) (e : Ending) (w' : World) : Prop := ∃ v, e = .returned (.tuple #[v, .int .i64 (x.2.1 : Int), .int .i64 x.2.2]) ∧ w'.ownsRow n₀ 30 4 v x.1.length (tokC x.1)
set_option maxRecDepth 100000 in
set_option maxHeartbeats 8000000 in
theorem rtokens_doc (s : ByteArray) (w : World) (hm : s.size ≤ maxLen) :
    Calls Tryd.prog 11 #[.string s] w fun e w' => TOut w.heap.size (lineB s.data.toList) e w' ∧ Below w.heap.size w w' := by
  obtain ⟨i0, hi, hz0, hz1', hz2'⟩ := info_parts infoTok
  unfold maxLen at hm
  by_cases hs : s.size ≤ 512
  · have HL := Lib.hid (show lineB s.data.toList = lexS 0 s.data.toList by unfold lineB; rw [if_neg (by rw [← size_list]; omega)])
    have hs' : (s.size : Int) ≤ 512 := by omega
    obtain ⟨A, hA⟩ : ∃ A, lineB s.data.toList = A := ⟨_, rfl⟩
    rw [hA] at HL ⊢
    have ON := Lib.hid (fun (k : Nat) (c : UInt8) (r : Bs) (hd : s.data.toList.drop k = c :: r) (W : World) => rone_any (s.extract k s.size) c r W (by rw [size_list, list_drop rfl, List.length_drop, ← size_list]; omega) (by rw [list_drop rfl, hd]))
    clear hA
    go_enter Tryd.func11, Tryd.ntmps11
    go_wp2_with fail
    go_loopw [5, 6] (fun lv iv wr => ∃ (k : Nat) (acc : List Tok), k ≤ s.size ∧ iv = .int .i64 (k : Int) ∧ wr.ownsRow w.heap.size 30 4 lv acc.length (tokC acc) ∧ acc.length ≤ k ∧ Hid (A = (acc ++ (lexS k (s.data.toList.drop k)).1, (lexS k (s.data.toList.drop k)).2)) ∧ Below w.heap.size w wr) (fun _ iv _ => s.size - (intOf iv).toNat)
    case atStart => exact ⟨0, [], Nat.zero_le _, rfl, World.ownsRow_nil _ _ _ _, Nat.le_refl _, Lib.hid (by rw [HL.out, List.drop_zero]; rfl), Below.refl _ _⟩
    case round =>
      obtain ⟨k, acc, hk, rfl, hown, hacc, hrel, hbr⟩ := hrel
      by_cases hlt : k < s.size
      · have hlt' : (k : Int) < (s.size : Int) := by omega
        have hd := drop_cons_get hlt
        obtain ⟨d, hdd⟩ : ∃ d, s[k] = d := ⟨_, rfl⟩
        rw [hdd] at hd
        have w9 : IntKind.i64.wrap ((k : Int) + 1) = ((k + 1 : Nat) : Int) := by rw [IntWalk.i64_in _ (by omega)]; omega
        have HB := Lib.hid hbr
        cases hbl : isBl d with
        | true =>
          have R := Lib.hid (show A = (acc ++ (lexS (k + 1) (s.data.toList.drop (k + 1))).1, (lexS (k + 1) (s.data.toList.drop (k + 1))).2) by rw [hrel.out, hd, lexS_blank hbl])
          have HO := Lib.hid hown
          rcases (show d = 32 ∨ d = 9 by simpa [isBl] using hbl) with rfl | rfl
          · clear hd hrel hbl hown hbr
            go_wp2_with fail
            exact ⟨⟨k + 1, acc, by omega, by first | rfl | rw [← w9] | simp, HO.out, by omega, R, HB.out⟩, by simp [intOf]; omega⟩
          · clear hd hrel hbl hown hbr
            go_wp2_with fail
            exact ⟨⟨k + 1, acc, by omega, by first | rfl | rw [← w9] | simp, HO.out, by omega, R, HB.out⟩, by simp [intOf]; omega⟩
        | false =>
          have d32 : d ≠ 32 := by rintro rfl; cases hbl
          have d9 : d ≠ 9 := by rintro rfl; cases hbl
          have f32 : ((d.toNat : Int) == 32) = false := by
            have : d.toNat ≠ 32 := fun h => d32 (UInt8.toNat_inj.1 h)
            simp; omega
          have f9 : ((d.toNat : Int) == 9) = false := by
            have : d.toNat ≠ 9 := fun h => d9 (UInt8.toNat_inj.1 h)
            simp; omega
          clear d32 d9
          by_cases h47 : d = 47
          · subst h47
            by_cases hk2 : k + 1 < s.size
            · have hd2 := drop_cons_get hk2
              obtain ⟨e, hee⟩ : ∃ e, s[k + 1] = e := ⟨_, rfl⟩
              rw [hee] at hd2
              have I1 := fun w => index_any (i := (k : Int) + 1) hk2 (by simp) hee w
              have k2' : (k : Int) + 1 < (s.size : Int) := by omega
              by_cases he : e = 47
              · subst he
                have R := Lib.hid (show A = (acc, s.size, 0) by
                  rw [hrel.out, hd, hd2, lexS_slash, ← hd2, ← hd, List.length_drop, ← size_list]; simp; omega)
                have HO := Lib.hid hown
                clear hd hd2 hrel hbl hown hbr
                go_wp2_with fail
                go_ret3
                exact ⟨⟨_, by rw [R.out]; rfl, by rw [R.out]; exact HO.out⟩, HB.out⟩
              · have fe : ((e.toNat : Int) == 47) = false := by
                  have : e.toNat ≠ 47 := fun h => he (UInt8.toNat_inj.1 h)
                  simp; omega
                have h2 : (47 :: s.data.toList.drop (k + 1)).take 2 ≠ [47, 47] := by rw [hd2]; simpa using he
                clear hd2 he hee
                have OO := Lib.hid (fun W => ON.out k 47 _ hd W)
                cases ho : one (47 :: s.data.toList.drop (k + 1)) with
                | none =>
                  have hne := errO_ne (47 :: s.data.toList.drop (k + 1))
                  have R := Lib.hid (show A = (acc, k, errO (47 :: s.data.toList.drop (k + 1))) by rw [hrel.out, hd, lexS_no hbl h2 ho]; simp)
                  rw [ho] at OO
                  unfold ROne at OO
                  obtain ⟨er, her⟩ : ∃ er, errO (47 :: s.data.toList.drop (k + 1)) = er := ⟨_, rfl⟩
                  rw [her] at OO R hne
                  have hne' : (er != 0) = true := by simpa using hne
                  have HO := Lib.hid hown
                  clear hd hrel hbl hown hbr ho h2 her hne
                  go_wp2_with fail
                  refine (OO.out _).mono ?_
                  rintro e w2 ⟨rfl, hb⟩
                  have HO2 := Lib.hid ((own_keep HO.out hb).alloc (.cells #[.int .i64 0, .string ⟨#[]⟩, .int .u64 0, .int .i64 0] 30))
                  have HB2 := Lib.hid ((Below.thn HB.out HB.out.size hb).alloc (Nat.le_trans HB.out.size hb.size) (.cells #[.int .i64 0, .string ⟨#[]⟩, .int .u64 0, .int .i64 0] 30))
                  clear hb
                  go_wp2_with fail
                  go_ret3
                  exact ⟨⟨_, by rw [R.out]; rfl, by rw [R.out]; exact HO2.out⟩, HB2.out⟩
                | some x =>
                  obtain ⟨kk, t, n, z⟩ := x
                  have hz := one_le ho
                  have hzl : k + z ≤ s.size := by have h1 := hz.2; rw [← hd, List.length_drop, ← size_list] at h1; omega
                  have hz1 := hz.1
                  have R := Lib.hid (show A = ((acc ++ [⟨kk, t, n, (k : Int)⟩]) ++ (lexS (k + z) (s.data.toList.drop (k + z))).1, (lexS (k + z) (s.data.toList.drop (k + z))).2) by
                    rw [hrel.out, hd, lexS_yes hbl h2 ho, ← hd, List.drop_drop]; simp)
                  rw [ho] at OO
                  unfold ROne at OO
                  obtain ⟨D, hD⟩ : ∃ D : ByteArray, ⟨t.toArray⟩ = D := ⟨_, rfl⟩
                  dsimp only at OO
                  rw [hD] at OO
                  have HD := Lib.hid hD
                  have HO := Lib.hid hown
                  have wz : IntKind.i64.wrap ((k : Int) + (z : Int)) = ((k + z : Nat) : Int) := by rw [IntWalk.i64_in _ (by omega)]; omega
                  clear hd hrel hbl hown hbr ho h2 hz hD
                  go_wp2_with fail
                  refine (OO.out _).mono ?_
                  rintro e w2 ⟨rfl, hb⟩
                  have hown := (own_keep HO.out hb).alloc (.cells #[.int .i64 kk, .string D, .int .u64 (n : Int), .int .i64 (k : Int)] 30)
                  have HB2 := Lib.hid ((Below.thn HB.out HB.out.size hb).alloc (Nat.le_trans HB.out.size hb.size) (.cells #[.int .i64 kk, .string D, .int .u64 (n : Int), .int .i64 (k : Int)] 30))
                  have hz2 : w.heap.size ≤ w2.heap.size := Nat.le_trans HB.out.size hb.size
                  clear hb
                  have HOW := Lib.hid hown
                  clear hown
                  go_wp2_with (at_builtin; refine wpList_append_own _ rfl _ _ 22 rfl w.heap.size 30 i0 (.agg #[.int .i64 0, .string ⟨#[]⟩, .int .u64 0, .int .i64 0]) 4 40 Tryd.underlying22 hi hz0 hz1' hz2' rfl (by decide) _ _ _ rfl (HOW.out.alloc _) ⟨w2.heap.size + 1, 0, none⟩ 1 1 [.int .i64 kk, .string D, .int .u64 (n : Int), .int .i64 (k : Int)] rfl rfl (by simpa using cell_four_new (w2.alloc _) _ _ _ _ _) (by simp [Value.oneCell']) (by unfold maxLen; omega) (by omega) (by simp; omega) ?_; intro v' w1' hown' hgrow _)
                  have hB3 := (HB2.out.alloc (by simp; omega) _).grown hgrow (by simp; omega) (fun j hj => (HOW.out.lt j hj).1)
                  exact ⟨⟨k + z, acc ++ [⟨kk, t, n, (k : Int)⟩], by omega, by first | rfl | rw [← wz] | simp, by rw [List.length_append, tokC_snoc, HD.out]; exact hown', by simp; omega, R, hB3⟩, by simp [intOf]; omega⟩
            · have k2' : (s.size : Int) ≤ (k : Int) + 1 := by omega
              have h2 : (47 :: s.data.toList.drop (k + 1)).take 2 ≠ [47, 47] := by rw [List.drop_eq_nil_of_le (by rw [← size_list]; omega)]; simp
              have OO := Lib.hid (fun W => ON.out k 47 _ hd W)
              cases ho : one (47 :: s.data.toList.drop (k + 1)) with
              | none =>
                have hne := errO_ne (47 :: s.data.toList.drop (k + 1))
                have R := Lib.hid (show A = (acc, k, errO (47 :: s.data.toList.drop (k + 1))) by rw [hrel.out, hd, lexS_no hbl h2 ho]; simp)
                rw [ho] at OO
                unfold ROne at OO
                obtain ⟨er, her⟩ : ∃ er, errO (47 :: s.data.toList.drop (k + 1)) = er := ⟨_, rfl⟩
                rw [her] at OO R hne
                have hne' : (er != 0) = true := by simpa using hne
                have HO := Lib.hid hown
                clear hd hrel hbl hown hbr ho h2 her hne
                go_wp2_with fail
                refine (OO.out _).mono ?_
                rintro e w2 ⟨rfl, hb⟩
                have HO2 := Lib.hid ((own_keep HO.out hb).alloc (.cells #[.int .i64 0, .string ⟨#[]⟩, .int .u64 0, .int .i64 0] 30))
                have HB2 := Lib.hid ((Below.thn HB.out HB.out.size hb).alloc (Nat.le_trans HB.out.size hb.size) (.cells #[.int .i64 0, .string ⟨#[]⟩, .int .u64 0, .int .i64 0] 30))
                clear hb
                go_wp2_with fail
                go_ret3
                exact ⟨⟨_, by rw [R.out]; rfl, by rw [R.out]; exact HO2.out⟩, HB2.out⟩
              | some x =>
                obtain ⟨kk, t, n, z⟩ := x
                have hz := one_le ho
                have hzl : k + z ≤ s.size := by have h1 := hz.2; rw [← hd, List.length_drop, ← size_list] at h1; omega
                have hz1 := hz.1
                have R := Lib.hid (show A = ((acc ++ [⟨kk, t, n, (k : Int)⟩]) ++ (lexS (k + z) (s.data.toList.drop (k + z))).1, (lexS (k + z) (s.data.toList.drop (k + z))).2) by
                  rw [hrel.out, hd, lexS_yes hbl h2 ho, ← hd, List.drop_drop]; simp)
                rw [ho] at OO
                unfold ROne at OO
                obtain ⟨D, hD⟩ : ∃ D : ByteArray, ⟨t.toArray⟩ = D := ⟨_, rfl⟩
                dsimp only at OO
                rw [hD] at OO
                have HD := Lib.hid hD
                have HO := Lib.hid hown
                have wz : IntKind.i64.wrap ((k : Int) + (z : Int)) = ((k + z : Nat) : Int) := by rw [IntWalk.i64_in _ (by omega)]; omega
                clear hd hrel hbl hown hbr ho h2 hz hD
                go_wp2_with fail
                refine (OO.out _).mono ?_
                rintro e w2 ⟨rfl, hb⟩
                have hown := (own_keep HO.out hb).alloc (.cells #[.int .i64 kk, .string D, .int .u64 (n : Int), .int .i64 (k : Int)] 30)
                have HB2 := Lib.hid ((Below.thn HB.out HB.out.size hb).alloc (Nat.le_trans HB.out.size hb.size) (.cells #[.int .i64 kk, .string D, .int .u64 (n : Int), .int .i64 (k : Int)] 30))
                have hz2 : w.heap.size ≤ w2.heap.size := Nat.le_trans HB.out.size hb.size
                clear hb
                have HOW := Lib.hid hown
                clear hown
                go_wp2_with (at_builtin; refine wpList_append_own _ rfl _ _ 22 rfl w.heap.size 30 i0 (.agg #[.int .i64 0, .string ⟨#[]⟩, .int .u64 0, .int .i64 0]) 4 40 Tryd.underlying22 hi hz0 hz1' hz2' rfl (by decide) _ _ _ rfl (HOW.out.alloc _) ⟨w2.heap.size + 1, 0, none⟩ 1 1 [.int .i64 kk, .string D, .int .u64 (n : Int), .int .i64 (k : Int)] rfl rfl (by simpa using cell_four_new (w2.alloc _) _ _ _ _ _) (by simp [Value.oneCell']) (by unfold maxLen; omega) (by omega) (by simp; omega) ?_; intro v' w1' hown' hgrow _)
                have hB3 := (HB2.out.alloc (by simp; omega) _).grown hgrow (by simp; omega) (fun j hj => (HOW.out.lt j hj).1)
                exact ⟨⟨k + z, acc ++ [⟨kk, t, n, (k : Int)⟩], by omega, by first | rfl | rw [← wz] | simp, by rw [List.length_append, tokC_snoc, HD.out]; exact hown', by simp; omega, R, hB3⟩, by simp [intOf]; omega⟩
          · have f47 : ((d.toNat : Int) == 47) = false := by
              have : d.toNat ≠ 47 := fun h => h47 (UInt8.toNat_inj.1 h)
              simp; omega
            have h2 : (d :: s.data.toList.drop (k + 1)).take 2 ≠ [47, 47] := by rw [List.take_succ_cons]; intro h; injection h with h _; exact h47 h
            clear h47
            have OO := Lib.hid (fun W => ON.out k d _ hd W)
            cases ho : one (d :: s.data.toList.drop (k + 1)) with
            | none =>
              have hne := errO_ne (d :: s.data.toList.drop (k + 1))
              have R := Lib.hid (show A = (acc, k, errO (d :: s.data.toList.drop (k + 1))) by rw [hrel.out, hd, lexS_no hbl h2 ho]; simp)
              rw [ho] at OO
              unfold ROne at OO
              obtain ⟨er, her⟩ : ∃ er, errO (d :: s.data.toList.drop (k + 1)) = er := ⟨_, rfl⟩
              rw [her] at OO R hne
              have hne' : (er != 0) = true := by simpa using hne
              have HO := Lib.hid hown
              clear hd hrel hbl hown hbr ho h2 her hne
              go_wp2_with fail
              refine (OO.out _).mono ?_
              rintro e w2 ⟨rfl, hb⟩
              have HO2 := Lib.hid ((own_keep HO.out hb).alloc (.cells #[.int .i64 0, .string ⟨#[]⟩, .int .u64 0, .int .i64 0] 30))
              have HB2 := Lib.hid ((Below.thn HB.out HB.out.size hb).alloc (Nat.le_trans HB.out.size hb.size) (.cells #[.int .i64 0, .string ⟨#[]⟩, .int .u64 0, .int .i64 0] 30))
              clear hb
              go_wp2_with fail
              go_ret3
              exact ⟨⟨_, by rw [R.out]; rfl, by rw [R.out]; exact HO2.out⟩, HB2.out⟩
            | some x =>
              obtain ⟨kk, t, n, z⟩ := x
              have hz := one_le ho
              have hzl : k + z ≤ s.size := by have h1 := hz.2; rw [← hd, List.length_drop, ← size_list] at h1; omega
              have hz1 := hz.1
              have R := Lib.hid (show A = ((acc ++ [⟨kk, t, n, (k : Int)⟩]) ++ (lexS (k + z) (s.data.toList.drop (k + z))).1, (lexS (k + z) (s.data.toList.drop (k + z))).2) by
                rw [hrel.out, hd, lexS_yes hbl h2 ho, ← hd, List.drop_drop]; simp)
              rw [ho] at OO
              unfold ROne at OO
              obtain ⟨D, hD⟩ : ∃ D : ByteArray, ⟨t.toArray⟩ = D := ⟨_, rfl⟩
              dsimp only at OO
              rw [hD] at OO
              have HD := Lib.hid hD
              have HO := Lib.hid hown
              have wz : IntKind.i64.wrap ((k : Int) + (z : Int)) = ((k + z : Nat) : Int) := by rw [IntWalk.i64_in _ (by omega)]; omega
              clear hd hrel hbl hown hbr ho h2 hz hD
              go_wp2_with fail
              refine (OO.out _).mono ?_
              rintro e w2 ⟨rfl, hb⟩
              have hown := (own_keep HO.out hb).alloc (.cells #[.int .i64 kk, .string D, .int .u64 (n : Int), .int .i64 (k : Int)] 30)
              have HB2 := Lib.hid ((Below.thn HB.out HB.out.size hb).alloc (Nat.le_trans HB.out.size hb.size) (.cells #[.int .i64 kk, .string D, .int .u64 (n : Int), .int .i64 (k : Int)] 30))
              have hz2 : w.heap.size ≤ w2.heap.size := Nat.le_trans HB.out.size hb.size
              clear hb
              have HOW := Lib.hid hown
              clear hown
              go_wp2_with (at_builtin; refine wpList_append_own _ rfl _ _ 22 rfl w.heap.size 30 i0 (.agg #[.int .i64 0, .string ⟨#[]⟩, .int .u64 0, .int .i64 0]) 4 40 Tryd.underlying22 hi hz0 hz1' hz2' rfl (by decide) _ _ _ rfl (HOW.out.alloc _) ⟨w2.heap.size + 1, 0, none⟩ 1 1 [.int .i64 kk, .string D, .int .u64 (n : Int), .int .i64 (k : Int)] rfl rfl (by simpa using cell_four_new (w2.alloc _) _ _ _ _ _) (by simp [Value.oneCell']) (by unfold maxLen; omega) (by omega) (by simp; omega) ?_; intro v' w1' hown' hgrow _)
              have hB3 := (HB2.out.alloc (by simp; omega) _).grown hgrow (by simp; omega) (fun j hj => (HOW.out.lt j hj).1)
              exact ⟨⟨k + z, acc ++ [⟨kk, t, n, (k : Int)⟩], by omega, by first | rfl | rw [← wz] | simp, by rw [List.length_append, tokC_snoc, HD.out]; exact hown', by simp; omega, R, hB3⟩, by simp [intOf]; omega⟩
      · have hlt' : (s.size : Int) ≤ (k : Int) := by omega
        have R := Lib.hid (show A = (acc, s.size, 0) by
          rw [hrel.out, List.drop_eq_nil_of_le (by rw [← size_list]; omega), lexS_nil, show k = s.size by omega]; simp)
        have HO := Lib.hid hown
        have HB := Lib.hid hbr
        clear hrel hown hbr
        go_wp2_with fail
        go_ret3
        exact ⟨⟨_, by rw [R.out]; rfl, by rw [R.out]; exact HO.out⟩, HB.out⟩
  · have hs' : 512 < (s.size : Int) := by omega
    have R := Lib.hid (show lineB s.data.toList = ([], 0, 3) by unfold lineB; rw [if_pos (by rw [← size_list]; omega)])
    obtain ⟨A, hA⟩ : ∃ A, lineB s.data.toList = A := ⟨_, rfl⟩
    rw [hA] at R ⊢
    clear hA
    go_enter Tryd.func11, Tryd.ntmps11
    go_wp2_with fail
    go_ret3
    exact ⟨⟨_, by rw [R.out]; rfl, by rw [R.out]; exact World.ownsRow_nil _ _ _ _⟩, Below.refl _ _⟩

set_option maxHeartbeats 2000000 in
theorem rlex_doc (s : ByteArray) (w : World) (hm : s.size ≤ maxLen) :
    Calls Tryd.prog 10 #[.string s] w fun e w' => TOut w.heap.size (lexB s.data.toList) e w' ∧ Below w.heap.size w w' := by
  have T := Lib.hid (rtokens_doc s w hm)
  unfold TOut lexB at *
  obtain ⟨l, a, er, hL⟩ : ∃ l a er, lineB s.data.toList = (l, a, er) := ⟨_, _, _, rfl⟩
  rw [hL] at T ⊢
  clear hL
  simp only at T ⊢
  by_cases he : er = 0
  · subst he
    rw [if_pos rfl]
    go_enter Tryd.func10, Tryd.ntmps10
    go_wp2_with fail
    refine T.out.mono ?_
    rintro e w' ⟨⟨v, rfl, hown⟩, hb⟩
    have HO := Lib.hid hown
    have HB := Lib.hid hb
    clear hown hb T
    go_wp2_with fail
    go_ret3
    exact ⟨⟨_, rfl, HO.out⟩, HB.out⟩
  · have he' : (er != 0) = true := by simpa using he
    rw [if_neg he]
    clear he
    go_enter Tryd.func10, Tryd.ntmps10
    go_wp2_with fail
    refine T.out.mono ?_
    rintro e w' ⟨⟨v, rfl, hown⟩, hb⟩
    have HB := Lib.hid hb
    clear hown hb T
    go_wp2_with fail
    go_ret3
    exact ⟨⟨_, rfl, World.ownsRow_nil _ _ _ _⟩, HB.out⟩
end Go.Proofs.YtjmdcimfmmfinaaDoor
