/-
  What each call of the program's quoted and Quote returns. No conditions beyond those that each lemma states.
-/
import Derived.Test.YtjmdcimfmmfinaaDoorLexL
import Derived.Deep.AppendLies
import Derived.Deep.RegionLaw
import Derived.Laws.IdiomStrings
namespace Go.Proofs.YtjmdcimfmmfinaaDoor
open Go.RowKit

theorem letterOf_ways : ∀ c : UInt8, (c = 0 ∧ letterOf c = some 48) ∨ (c = 9 ∧ letterOf c = some 116) ∨ (c = 10 ∧ letterOf c = some 110) ∨ (c = 13 ∧ letterOf c = some 114) ∨ (c = 34 ∧ letterOf c = some 34) ∨ (c = 92 ∧ letterOf c = some 92) ∨ (letterOf c = none ∧ Lib.indexByte shortB c = -1) := all_bytes (by decide +kernel)
theorem short2_any (k : Int) (d : UInt8) (h : Lib.indexByte shortB d = k) (w : World) :
    Calls Tryd.prog 65 #[.string ⟨#[0, 9, 10, 13, 34, 92]⟩, .int .u8 (d.toNat : Int)] w fun e w' => e = .returned (.int .i64 k) ∧ w = w' :=
  (Tryd.strings_IndexByte ⟨#[0, 9, 10, 13, 34, 92]⟩ (d.toNat : Int) w).mono fun e w' ⟨he, hw⟩ => ⟨by rw [he, toU8]; exact ret1 h, hw.symm⟩
/-- the cells of a block just made -/
theorem cells_new (w : World) (l : List Value) (t : TypeId) : ∀ (j : Nat) v, l[j]? = some v → (w.alloc (.cells l.toArray t)).cell? ((⟨w.heap.size, 0, none⟩ : Addr).add j) = some v := by
  intro j v hj
  have h : (w.alloc (.cells l.toArray t)).heap[w.heap.size]? = some (.cells l.toArray t (0, 0)) := heap_alloc_new w _
  have e : ((⟨w.heap.size, 0, none⟩ : Addr).add j) = ⟨w.heap.size, j, none⟩ ∨ j = 0 := by
    cases j with
    | zero => exact .inr rfl
    | succ j => left; simp [Addr.add]
  rcases e with e | rfl
  · rw [e, Lib.cell_of_heap h]; simpa using hj
  · show World.cell? _ ⟨w.heap.size, 0, none⟩ = some v
    rw [Lib.cell_of_heap h]; simpa using hj
theorem hex_index : ∀ (i : Nat), i < 16 → ∀ w : World, (Instr.index 9 (.string ⟨#[48, 49, 50, 51, 52, 53, 54, 55, 56, 57, 97, 98, 99, 100, 101, 102]⟩) (.int .u8 (i : Int))).run Tryd.prog w = .ok (.int .u8 ((hexD i).toNat : Int)) w := by
  intro i hi w
  exact match i, hi with
  | 0, _ => by kernel_rfl
  | 1, _ => by kernel_rfl
  | 2, _ => by kernel_rfl
  | 3, _ => by kernel_rfl
  | 4, _ => by kernel_rfl
  | 5, _ => by kernel_rfl
  | 6, _ => by kernel_rfl
  | 7, _ => by kernel_rfl
  | 8, _ => by kernel_rfl
  | 9, _ => by kernel_rfl
  | 10, _ => by kernel_rfl
  | 11, _ => by kernel_rfl
  | 12, _ => by kernel_rfl
  | 13, _ => by kernel_rfl
  | 14, _ => by kernel_rfl
  | 15, _ => by kernel_rfl
  | _ + 16, h => by omega
theorem u8_and15 : ∀ c : UInt8, bits .and .u8 (c.toNat : Int) 15 = ((c.toNat % 16 : Nat) : Int) := all_bytes (by decide +kernel)
set_option maxRecDepth 100000 in
set_option maxHeartbeats 4000000 in
theorem quoted_any (B : Nat) (sv : Value) (xs : List Value) (n : Nat) (c : UInt8) (w : World) (hown : w.ownsRow B 5 1 sv n xs) (hlim : n + 4 ≤ 140737488355328) (hBw : B ≤ w.heap.size) :
    Calls Tryd.prog 40 #[sv, .int .u8 (c.toNat : Int)] w fun e w' => ∃ v', e = .returned v' ∧ w'.ownsRow B 5 1 v' (n + (quoted1 c).length) (xs ++ Lib.byteCells (quoted1 c)) ∧ Below B w w' := by
  obtain ⟨i0, hi, hz0, hz1, hz2⟩ := info_parts infoByte
  have HLIM := Lib.hid hlim
  clear hlim
  rcases letterOf_ways c with ⟨rfl, hb⟩ | ⟨rfl, hb⟩ | ⟨rfl, hb⟩ | ⟨rfl, hb⟩ | ⟨rfl, hb⟩ | ⟨rfl, hb⟩ | ⟨hb, hix⟩
  · have I := Lib.hid (short2_any 0 0 (by decide +kernel))
    have R : quoted1 0 = [92, 48] := by decide +kernel
    rw [R]
    clear hb R
    go_enter Tryd.func40, Tryd.ntmps40
    go_wp2_with fail
    refine (I.out _).mono ?_
    rintro e w' ⟨rfl, rfl⟩
    have hl := HLIM.out
    go_wp2_with (at_builtin; refine wpList_append_own _ rfl _ _ 48 rfl B 5 i0 (.int .u8 0) 1 1 Tryd.underlying48 hi hz0 hz1 hz2 rfl (by decide) _ _ _ rfl (hown.alloc _) ⟨w.heap.size, 0, none⟩ 2 2 [.int .u8 92, .int .u8 48] rfl rfl (cells_new _ _ _) (by simp [Value.oneCell']) (by unfold maxLen; omega) (by omega) (by simp; omega) ?_; intro v' w1' hown' hgrow _)
    go_ret
    exact ⟨_, rfl, hown', ((Below.refl B w).alloc hBw _).grown hgrow (by simp; omega) (fun k hk => (hown.lt k hk).1)⟩
  · have I := Lib.hid (short2_any 1 9 (by decide +kernel))
    have R : quoted1 9 = [92, 116] := by decide +kernel
    rw [R]
    clear hb R
    go_enter Tryd.func40, Tryd.ntmps40
    go_wp2_with fail
    refine (I.out _).mono ?_
    rintro e w' ⟨rfl, rfl⟩
    have hl := HLIM.out
    go_wp2_with (at_builtin; refine wpList_append_own _ rfl _ _ 48 rfl B 5 i0 (.int .u8 0) 1 1 Tryd.underlying48 hi hz0 hz1 hz2 rfl (by decide) _ _ _ rfl (hown.alloc _) ⟨w.heap.size, 0, none⟩ 2 2 [.int .u8 92, .int .u8 116] rfl rfl (cells_new _ _ _) (by simp [Value.oneCell']) (by unfold maxLen; omega) (by omega) (by simp; omega) ?_; intro v' w1' hown' hgrow _)
    go_ret
    exact ⟨_, rfl, hown', ((Below.refl B w).alloc hBw _).grown hgrow (by simp; omega) (fun k hk => (hown.lt k hk).1)⟩
  · have I := Lib.hid (short2_any 2 10 (by decide +kernel))
    have R : quoted1 10 = [92, 110] := by decide +kernel
    rw [R]
    clear hb R
    go_enter Tryd.func40, Tryd.ntmps40
    go_wp2_with fail
    refine (I.out _).mono ?_
    rintro e w' ⟨rfl, rfl⟩
    have hl := HLIM.out
    go_wp2_with (at_builtin; refine wpList_append_own _ rfl _ _ 48 rfl B 5 i0 (.int .u8 0) 1 1 Tryd.underlying48 hi hz0 hz1 hz2 rfl (by decide) _ _ _ rfl (hown.alloc _) ⟨w.heap.size, 0, none⟩ 2 2 [.int .u8 92, .int .u8 110] rfl rfl (cells_new _ _ _) (by simp [Value.oneCell']) (by unfold maxLen; omega) (by omega) (by simp; omega) ?_; intro v' w1' hown' hgrow _)
    go_ret
    exact ⟨_, rfl, hown', ((Below.refl B w).alloc hBw _).grown hgrow (by simp; omega) (fun k hk => (hown.lt k hk).1)⟩
  · have I := Lib.hid (short2_any 3 13 (by decide +kernel))
    have R : quoted1 13 = [92, 114] := by decide +kernel
    rw [R]
    clear hb R
    go_enter Tryd.func40, Tryd.ntmps40
    go_wp2_with fail
    refine (I.out _).mono ?_
    rintro e w' ⟨rfl, rfl⟩
    have hl := HLIM.out
    go_wp2_with (at_builtin; refine wpList_append_own _ rfl _ _ 48 rfl B 5 i0 (.int .u8 0) 1 1 Tryd.underlying48 hi hz0 hz1 hz2 rfl (by decide) _ _ _ rfl (hown.alloc _) ⟨w.heap.size, 0, none⟩ 2 2 [.int .u8 92, .int .u8 114] rfl rfl (cells_new _ _ _) (by simp [Value.oneCell']) (by unfold maxLen; omega) (by omega) (by simp; omega) ?_; intro v' w1' hown' hgrow _)
    go_ret
    exact ⟨_, rfl, hown', ((Below.refl B w).alloc hBw _).grown hgrow (by simp; omega) (fun k hk => (hown.lt k hk).1)⟩
  · have I := Lib.hid (short2_any 4 34 (by decide +kernel))
    have R : quoted1 34 = [92, 34] := by decide +kernel
    rw [R]
    clear hb R
    go_enter Tryd.func40, Tryd.ntmps40
    go_wp2_with fail
    refine (I.out _).mono ?_
    rintro e w' ⟨rfl, rfl⟩
    have hl := HLIM.out
    go_wp2_with (at_builtin; refine wpList_append_own _ rfl _ _ 48 rfl B 5 i0 (.int .u8 0) 1 1 Tryd.underlying48 hi hz0 hz1 hz2 rfl (by decide) _ _ _ rfl (hown.alloc _) ⟨w.heap.size, 0, none⟩ 2 2 [.int .u8 92, .int .u8 34] rfl rfl (cells_new _ _ _) (by simp [Value.oneCell']) (by unfold maxLen; omega) (by omega) (by simp; omega) ?_; intro v' w1' hown' hgrow _)
    go_ret
    exact ⟨_, rfl, hown', ((Below.refl B w).alloc hBw _).grown hgrow (by simp; omega) (fun k hk => (hown.lt k hk).1)⟩
  · have I := Lib.hid (short2_any 5 92 (by decide +kernel))
    have R : quoted1 92 = [92, 92] := by decide +kernel
    rw [R]
    clear hb R
    go_enter Tryd.func40, Tryd.ntmps40
    go_wp2_with fail
    refine (I.out _).mono ?_
    rintro e w' ⟨rfl, rfl⟩
    have hl := HLIM.out
    go_wp2_with (at_builtin; refine wpList_append_own _ rfl _ _ 48 rfl B 5 i0 (.int .u8 0) 1 1 Tryd.underlying48 hi hz0 hz1 hz2 rfl (by decide) _ _ _ rfl (hown.alloc _) ⟨w.heap.size, 0, none⟩ 2 2 [.int .u8 92, .int .u8 92] rfl rfl (cells_new _ _ _) (by simp [Value.oneCell']) (by unfold maxLen; omega) (by omega) (by simp; omega) ?_; intro v' w1' hown' hgrow _)
    go_ret
    exact ⟨_, rfl, hown', ((Below.refl B w).alloc hBw _).grown hgrow (by simp; omega) (fun k hk => (hown.lt k hk).1)⟩
  · have I := Lib.hid (short2_any (-1) c hix)
    have S := Lib.hid (fun w => stands_any c 34 w)
    change Hid (∀ w, Calls _ _ #[.int .u8 (c.toNat : Int), .int .u8 34] w _) at S
    cases hst : stands c 34 with
    | true =>
      rw [hst] at S
      have R : quoted1 c = [c] := by unfold quoted1; rw [hb]; simp [hst]
      rw [R]
      clear hb hix R hst
      go_enter Tryd.func40, Tryd.ntmps40
      go_wp2_with fail
      refine (I.out _).mono ?_
      rintro e w' ⟨rfl, rfl⟩
      go_wp2_with fail
      refine (S.out _).mono ?_
      rintro e w' ⟨rfl, rfl⟩
      have hl := HLIM.out
      go_wp2_with (at_builtin; refine wpList_append_own _ rfl _ _ 48 rfl B 5 i0 (.int .u8 0) 1 1 Tryd.underlying48 hi hz0 hz1 hz2 rfl (by decide) _ _ _ rfl (hown.alloc _) ⟨w.heap.size, 0, none⟩ 1 1 [.int .u8 (c.toNat : Int)] rfl rfl (cells_new _ _ _) (by simp [Value.oneCell']) (by unfold maxLen; omega) (by omega) (by simp; omega) ?_; intro v' w1' hown' hgrow _)
      go_ret
      exact ⟨_, rfl, hown', ((Below.refl B w).alloc hBw _).grown hgrow (by simp; omega) (fun k hk => (hown.lt k hk).1)⟩
    | false =>
      rw [hst] at S
      obtain ⟨q, hq⟩ : ∃ q, c.toNat / 16 = q := ⟨_, rfl⟩
      obtain ⟨r, hr⟩ : ∃ r, c.toNat % 16 = r := ⟨_, rfl⟩
      have hc256 := c.toNat_lt
      have x1 := hex_index q (by omega)
      have x2 := hex_index r (by omega)
      have q1 : (c.toNat : Int) / 16 = (q : Int) := by omega
      have q2 := u8_and15 c
      rw [hr] at q2
      have R : quoted1 c = [92, 120, hexD q, hexD r] := by unfold quoted1; rw [hb, ← hq, ← hr]; simp [hst]
      rw [R]
      clear hb hix hc256 R hq hr hst
      go_enter Tryd.func40, Tryd.ntmps40
      go_wp2_with fail
      refine (I.out _).mono ?_
      rintro e w' ⟨rfl, rfl⟩
      go_wp2_with fail
      refine (S.out _).mono ?_
      rintro e w' ⟨rfl, rfl⟩
      go_wp2_with fail
      have hl := HLIM.out
      go_region_law (refine step_append_lies _ (by rfl) (.tmp 21) (.tmp 28) 48 (by rfl) B 5 i0 (.int .u8 0) 1 1 Tryd.underlying48 hi hz0 hz1 hz2 (by rfl) (by decide) sv n xs (by rfl) (hown.drew.alloc _) ⟨w.heap.size, 0, none⟩ 4 4 [.int .u8 92, .int .u8 120, .int .u8 ((hexD q).toNat : Int), .int .u8 ((hexD r).toNat : Int)] (by rfl) (by rfl) (by exact cells_new _ _ _) (by simp [Value.oneCell']) (by decide) (by unfold maxLen; omega) (by omega) (by simp; omega) _ (by rfl) ?_; intro g cap w1' hown' hgrow _ _)
      all_goals
        go_wp2_with fail
        go_ret
        exact ⟨_, rfl, hown', (((Below.refl B w).alloc hBw _).drew).grown hgrow (by simp; omega) (fun k hk => (hown.lt k hk).1)⟩

/-- a row of bytes that the call owns, as a string -/
theorem conv_row {w : World} {B : Nat} {v : Value} {n : Nat} {l : Bs} (h : w.ownsRow B 5 1 v n (Lib.byteCells l)) (hn : n = l.length) (h0 : l ≠ []) :
    (convert 48 9 v).run Tryd.prog w = .ok (.string ⟨l.toArray⟩) w := by
  subst hn
  have hcells := fun g (hg : v.ownBlock = some g) => h.cells (g := g) hg
  rcases h.2 with ⟨_, hz⟩ | ⟨g, cap, cur, rfl, _⟩
  · exact absurd (List.length_eq_zero_iff.1 hz) h0
  · refine run_convert_bytes_back w 48 9 5 ⟨g, 0, none⟩ cap l Tryd.underlying48 Tryd.underlying5 Tryd.underlying9 (fun j hj => ?_)
    have := hcells g rfl j (.int .u8 (l[j].toNat : Int)) (by simp [Lib.byteCells, hj])
    cases j with
    | zero => exact this
    | succ j => simpa [Addr.add] using this
theorem quoted1_len (c : UInt8) : (quoted1 c).length ≤ 4 := by
  unfold quoted1
  split
  · simp
  · split <;> simp
theorem quote_len : ∀ l : Bs, (l.flatMap quoted1).length ≤ 4 * l.length
  | [] => by simp
  | c :: r => by
    have := quoted1_len c
    have := quote_len r
    simp only [List.flatMap_cons, List.length_append, List.length_cons]; omega
theorem cells_cons (c : UInt8) (l : Bs) : Lib.byteCells (c :: l) = .int .u8 (c.toNat : Int) :: Lib.byteCells l := rfl
set_option maxRecDepth 100000 in
set_option maxHeartbeats 4000000 in
theorem quote_any (s : ByteArray) (w : World) (hs : s.size ≤ 1099511627776) :
    Calls Tryd.prog 22 #[.string s] w fun e w' => e = .returned (.string ⟨(quoteB s.data.toList).toArray⟩) ∧ Below w.heap.size w w' := by
  obtain ⟨i0, hi, hz0, hz1, hz2⟩ := info_parts infoByte
  have HS := Lib.hid hs
  have QA := Lib.hid (fun (sv : Value) (xs : List Value) (n : Nat) (c : UInt8) (w1 : World) h1 h2 h3 => quoted_any w.heap.size sv xs n c w1 h1 h2 h3)
  have hs2 : s.size ≤ 9223372036854775800 := by omega
  clear hs
  have w2' : IntKind.i64.wrap ((s.size : Int) + 2) = ((s.size + 2 : Nat) : Int) := by rw [IntWalk.i64_in _ (by omega)]; omega
  go_enter Tryd.func22, Tryd.ntmps22
  have hl := HS.out
  go_wp2_with (first
    | (at_make; refine wpList_make_own _ rfl _ _ 48 rfl w.heap.size 5 i0 (.int .u8 0) 1 Tryd.underlying48 hi hz0 hz1 .i64 .i64 _ (s.size + 2) rfl rfl (by first | rfl | omega | exact w2') (by rw [hz2]; omega) (by unfold maxLen; omega) (Nat.le_refl _) ?_; intro w0 hown0 hgrow0)
    | (at_builtin; refine wpList_append_own _ rfl _ _ 48 rfl w.heap.size 5 i0 (.int .u8 0) 1 1 Tryd.underlying48 hi hz0 hz1 hz2 rfl (by decide) _ _ _ rfl (hown0.alloc _) ⟨w0.heap.size, 0, none⟩ 1 1 [.int .u8 34] rfl rfl (cells_new _ _ _) (by simp [Value.oneCell']) (by unfold maxLen; omega) (by omega) (by have := hgrow0.size; simp; omega) ?_; intro v' w1' hown' hgrow _))
  have hb0 : Below w.heap.size w w1' := (((Below.refl w.heap.size w).grown hgrow0 (Nat.le_refl _) (fun k hk => by cases hk)).alloc (hgrow0.size) _).grown hgrow (by have := hgrow0.size; simp; omega) (fun k hk => (hown0.lt k hk).1)
  have ho0 : w1'.ownsRow w.heap.size 5 1 v' (34 :: (s.data.toList.take 0).flatMap quoted1).length (Lib.byteCells (34 :: (s.data.toList.take 0).flatMap quoted1)) := hown'
  clear hown' hgrow hgrow0 hown0 hl
  go_loopw [3, 14] (fun v i wr => ∃ k : Nat, i = .int .i64 (k : Int) ∧ k ≤ s.size ∧ wr.ownsRow w.heap.size 5 1 v (34 :: (s.data.toList.take k).flatMap quoted1).length (Lib.byteCells (34 :: (s.data.toList.take k).flatMap quoted1)) ∧ Below w.heap.size w wr) (fun _ i _ => s.size - (intOf i).toNat)
  case atStart => exact ⟨0, rfl, by omega, ho0, hb0⟩
  case round =>
    obtain ⟨k, rfl, hk, hown, hbel⟩ := hrel
    clear ho0 hb0
    have hz := hbel.size
    have hql := quote_len (s.data.toList.take k)
    have htl : (s.data.toList.take k).length ≤ k := List.length_take_le _ _
    by_cases hlt : k < s.size
    · have hts : (34 :: (s.data.toList.take (k + 1)).flatMap quoted1) = (34 :: (s.data.toList.take k).flatMap quoted1) ++ quoted1 s[k] := by
        rw [List.take_succ_eq_append_getElem (by rw [← size_list]; exact hlt), ← get_list hlt]
        simp
      have hbc : Lib.byteCells ((34 :: (s.data.toList.take k).flatMap quoted1) ++ quoted1 s[k]) = Lib.byteCells (34 :: (s.data.toList.take k).flatMap quoted1) ++ Lib.byteCells (quoted1 s[k]) := by simp [Lib.byteCells]
      have QQ := QA.out _ _ _ s[k] wr hown (by have := HS.out; simp only [List.length_cons]; omega) hz
      rw [← hbc, ← List.length_append, ← hts] at QQ
      have QH := Lib.hid QQ
      have HB := Lib.hid hbel
      have w9 : IntKind.i64.wrap ((k : Int) + 1) = ((k + 1 : Nat) : Int) := by rw [IntWalk.i64_in _ (by omega)]; omega
      clear QQ hts hbc hown hbel hql htl
      go_wp2_with fail
      refine QH.out.mono ?_
      rintro e w2 ⟨v2, rfl, ho2, hb2⟩
      have HO := Lib.hid ho2
      have HB2 := Lib.hid (HB.out.trans hb2)
      clear ho2 hb2
      go_wp2_with fail
      go_roundw
      case rel => exact ⟨k + 1, by first | rfl | rw [← w9], by omega, HO.out, HB2.out⟩
      case measure => simp [intOf]; omega
    · have hk2 : k = s.size := by omega
      rw [hk2, show s.data.toList.take s.size = s.data.toList by rw [size_list, List.take_length]] at hown hql
      have R := Lib.hid (show quoteB s.data.toList = (34 :: s.data.toList.flatMap quoted1) ++ [34] from rfl)
      have hl := HS.out
      rw [size_list] at hl
      generalize s.data.toList.flatMap quoted1 = body at *
      have hll : body.length + 2 ≤ 140737488355328 := by omega
      have hnl : ¬ (k : Int) < (s.size : Int) := by omega
      clear hql htl hl hk2 hlt hk
      go_wp2_with (at_builtin; refine wpList_append_own _ rfl _ _ 48 rfl w.heap.size 5 i0 (.int .u8 0) 1 1 Tryd.underlying48 hi hz0 hz1 hz2 rfl (by decide) _ _ _ rfl (hown.alloc _) ⟨wr.heap.size, 0, none⟩ 1 1 [.int .u8 34] rfl rfl (cells_new _ _ _) (by simp [Value.oneCell']) (by unfold maxLen; simp only [List.length_cons]; omega) (by simp only [List.length_cons]; omega) (by simp; omega) ?_; intro v2 w2 hown2 hgrow2 _; have hcv := conv_row (l := (34 :: body) ++ [34]) (by have e : Lib.byteCells ((34 :: body) ++ [34]) = Lib.byteCells (34 :: body) ++ [.int .u8 34] := (by simp [Lib.byteCells]); rw [e]; exact hown2) (by simp) (by simp))
      go_ret
      exact ⟨ret1s (by rw [R.out]; rfl), (hbel.alloc hz _).grown hgrow2 (by simp; omega) (fun k hk => (hown.lt k hk).1)⟩
end Go.Proofs.YtjmdcimfmmfinaaDoor
