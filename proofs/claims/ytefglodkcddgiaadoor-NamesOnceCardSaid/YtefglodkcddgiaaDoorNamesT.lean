/-
  What each call of the document's number returns: the number of a form of numbers. Condition: a text of fewer than 2^32 - 15 letters.
-/
import Derived.Test.YtefglodkcddgiaaDoorNamesP
import Derived.Laws.AppendOwn
import Derived.Maps.AppendAt
namespace Go.Proofs.YtefglodkcddgiaaDoor
open Go.RowKit Go.Shelf

def RnumOut (s : List UInt8) (v : Int) (b : Bool) : Prop := (b = true ∧ ∃ n : Nat, sysLook s = some n ∧ v = (n : Int)) ∨ (b = false ∧ sysLook s = none)
def RnumPost (s : ByteArray) (w : World) (e : Ending) (w' : World) : Prop := ∃ v b, e = .returned (.tuple #[.int .i64 v, .bool b]) ∧ RnumOut s.data.toList v b ∧ Below w.heap.size w w'
theorem rpost {s : ByteArray} {w : World} {e : Ending} {w' : World} (v : Int) (b : Bool) (h1 : e = .returned (.tuple #[.int .i64 v, .bool b])) (h2 : RnumOut s.data.toList v b) (h3 : Below w.heap.size w w') : RnumPost s w e w' := ⟨v, b, h1, h2, h3⟩
theorem sysLook_head {s : List UInt8} {n : Nat} (h : sysLook s = some n) : ∃ r, s = 115 :: r := by
  have hj := joinU_spl s
  unfold sysLook at h
  split at h
  · next p q r t u heq =>
    rw [heq] at hj
    exact ⟨_, hj.symm⟩
  · cases h
theorem spl_one (r : List UInt8) : ∃ q qs, spl r = q :: qs ∧ spl (115 :: r) = (115 :: q) :: qs := by
  have hn := spl_ne r
  cases h : spl r with
  | nil => exact absurd h hn
  | cons q qs => exact ⟨q, qs, rfl, by rw [spl, if_neg (by decide), h]⟩
theorem sysLook_five {r q0 p1 p2 p3 p4 : List UInt8} (h : spl r = [q0, p1, p2, p3, p4]) : sysLook (115 :: r) = (dig q0 2 3).bind fun a => (dig p1 0 7).bind fun b => (pieceV 2 p2).bind fun c => (pieceV 3 p3).bind fun d => (dig p4 0 7).bind fun e => some (sysNum (a - 2) b c d e) := by
  obtain ⟨q, qs, h1, h2⟩ := spl_one r
  rw [h] at h1
  injection h1 with h1 h3
  subst h1 h3
  rw [sysLook_acc (by rw [h2]; rfl), h2, acc5, pieceV0, pieceV1, pieceV4]
theorem sysLook_far {r : List UInt8} (h : (spl r).length ≠ 5) : sysLook (115 :: r) = none := by
  obtain ⟨q, qs, h1, h2⟩ := spl_one r
  refine sysLook_len ?_
  rw [h1] at h; rw [h2]; exact h
theorem piece_no {k : Nat} {p : List UInt8} (hk : k = 2 ∨ k = 3) (h : ∀ r, p ≠ 99 :: r) : pieceV k p = none := by
  cases hp : pieceV k p with
  | none => rfl
  | some v =>
    have := (pieceV_some hp).1
    rcases hk with rfl | rfl
    · obtain ⟨r, hr⟩ := cut_some (c := 99) this; exact absurd hr (h r)
    · obtain ⟨r, hr⟩ := cut_some (c := 99) this; exact absurd hr (h r)
theorem dig_lo {q : List UInt8} {n : Nat} (h : dig q 0 3 = some n) : dig q 2 3 = if 2 ≤ n then some n else none := by
  obtain ⟨_, h2, h3, h4⟩ := dig_spec h
  split
  · exact dig_some (by decide) ‹_› h2 h3
  · refine dig_none fun m h5 h6 h7 => ?_
    have := dd_inj m (by omega) n h4 (h7.trans h3.symm); omega
theorem dig_lo_none {q : List UInt8} (h : dig q 0 3 = none) : dig q 2 3 = none := by
  rw [dig_iff_none (by decide)] at h
  exact dig_none fun m h5 h6 => h m (by omega) h6

/-- what has been parted so far -/
def PartInv (l : List UInt8) (k f : Nat) (D : List (List UInt8)) : Prop :=
  (k ≤ l.length ∧ 1 ≤ f ∧ f ≤ k ∧ (∀ j, f ≤ j → j < k → l[j]? ≠ some 95) ∧ spl (l.drop 1) = D ++ spl (l.drop f)) ∨ (k = l.length + 1 ∧ f = l.length + 1 ∧ spl (l.drop 1) = D)
theorem inv_start {l : List UInt8} (h : 1 ≤ l.length) : PartInv l 1 1 [] := .inl ⟨h, by omega, by omega, fun j h1 h2 => by omega, rfl⟩
theorem inv_skip {l : List UInt8} {k f : Nat} {D : List (List UInt8)} (h : PartInv l k f D) (hk : k < l.length) (hc : l[k]? ≠ some 95) : PartInv l (k + 1) f D := by
  rcases h with ⟨a, b, c, d, e⟩ | ⟨a, _, _⟩
  · refine .inl ⟨hk, b, by omega, fun j h1 h2 => ?_, e⟩
    rcases Nat.lt_or_ge j k with g | g
    · exact d j h1 g
    · rw [show j = k by omega]; exact hc
  · omega
theorem free_piece {l : List UInt8} {k f : Nat} (d : ∀ j, f ≤ j → j < k → l[j]? ≠ some 95) (hf : f ≤ k) : ∀ c ∈ (l.drop f).take (k - f), c ≠ 95 := by
  intro c hc e
  subst e
  obtain ⟨i, hi, hg⟩ := List.getElem_of_mem hc
  rw [List.length_take, List.length_drop] at hi
  refine d (f + i) (by omega) (by omega) ?_
  rw [List.getElem_take, List.getElem_drop] at hg
  rw [List.getElem?_eq_getElem (by omega), hg]
theorem inv_cut {l : List UInt8} {k f : Nat} {D : List (List UInt8)} (h : PartInv l k f D) (hk : k < l.length) (hc : l[k]? = some 95) : PartInv l (k + 1) (k + 1) (D ++ [(l.drop f).take (k - f)]) := by
  rcases h with ⟨a, b, c, d, e⟩ | ⟨a, _, _⟩
  · refine .inl ⟨hk, by omega, Nat.le_refl _, fun j h1 h2 => by omega, ?_⟩
    rw [e, List.append_assoc]
    congr 1
    have hd : l.drop f = (l.drop f).take (k - f) ++ 95 :: l.drop (k + 1) := by
      have h1 : l.drop k = 95 :: l.drop (k + 1) := by
        rw [List.getElem?_eq_getElem hk] at hc
        rw [List.drop_eq_getElem_cons hk, Option.some.inj hc]
      have h2 : (l.drop f).drop (k - f) = l.drop k := by rw [List.drop_drop]; congr 1; omega
      rw [← h1, ← h2, List.take_append_drop]
    conv => lhs; rw [hd]
    rw [spl_cut _ _ (free_piece d c)]; rfl
  · omega
theorem inv_last {l : List UInt8} {f : Nat} {D : List (List UInt8)} (h : PartInv l l.length f D) : PartInv l (l.length + 1) (l.length + 1) (D ++ [(l.drop f).take (l.length - f)]) := by
  rcases h with ⟨a, b, c, d, e⟩ | ⟨a, _, _⟩
  · refine .inr ⟨rfl, rfl, ?_⟩
    rw [e]
    have := free_piece d c
    rw [List.take_of_length_le (by rw [List.length_drop]; omega)] at this ⊢
    rw [spl_plain _ this]
  · omega
theorem inv_end {l : List UInt8} {f : Nat} {D : List (List UInt8)} (h : PartInv l (l.length + 1) f D) : spl (l.drop 1) = D := by
  rcases h with ⟨a, _⟩ | ⟨_, _, e⟩
  · omega
  · exact e
theorem inv_f {l : List UInt8} {k f : Nat} {D : List (List UInt8)} (h : PartInv l k f D) (hk : k ≤ l.length) : f ≤ k := by
  rcases h with ⟨_, _, c, _⟩ | ⟨a, _, _⟩
  · exact c
  · omega
theorem extract_piece (s : ByteArray) (f k : Nat) : (s.extract f k).data.toList = (s.data.toList.drop f).take (k - f) := by
  rw [Lib.extract_data]
theorem infoStr : (Tryd.prog.info? 9).map (fun i => (i.zero, i.size, i.bytes)) = some (some (.string ⟨#[]⟩), 1, 16) := by kernel_rfl

set_option maxRecDepth 100000 in
set_option maxHeartbeats 1000000 in
theorem rnum_out (s : ByteArray) (w : World) (h : ∀ r, s.data.toList ≠ 115 :: r) :
    Calls Tryd.prog 32 #[.string s] w fun e w' => e = .returned (.tuple #[.int .i64 0, .bool false]) ∧ Below w.heap.size w w' := by
  cases hl : s.data.toList with
  | nil =>
    obtain rfl : s = ⟨#[]⟩ := bytes_eq hl
    clear h hl
    go_enter Tryd.func32, Tryd.ntmps32
    go_wp2
    go_ret2
    exact ⟨rfl, Below.refl _ _⟩
  | cons c r =>
    obtain ⟨h0, gx⟩ := head_byte hl
    have h0' : ¬ (s.size : Int) < 1 := by omega
    have hc : ((c.toNat : Int) != 115) = true := by
      rw [bne_iff_ne]; intro e
      exact h r (by rw [hl, show c = 115 from UInt8.toNat_inj.1 (by show c.toNat = 115; omega)])
    clear h hl
    go_enter Tryd.func32, Tryd.ntmps32
    go_wp2
    go_ret2
    exact ⟨rfl, Below.refl _ _⟩
theorem five_no {A B C D E : Option Nat} {F : Nat → Nat → Nat → Nat → Nat → Nat} (h : A = none ∨ B = none ∨ C = none ∨ D = none ∨ E = none) : (A.bind fun a => B.bind fun b => C.bind fun c => D.bind fun d => E.bind fun e => some (F a b c d e)) = none := by
  rcases h with rfl | rfl | rfl | rfl | rfl
  · rfl
  · cases A <;> rfl
  · cases A <;> cases B <;> rfl
  · cases A <;> cases B <;> cases C <;> rfl
  · cases A <;> cases B <;> cases C <;> cases D <;> rfl
theorem digits_E (r : List UInt8) (hi : Nat) (hh : hi < 100) : ∀ E : ByteArray, E.data.toList = r → ∀ w : World, Calls Tryd.prog 23 #[.string E, .int .i64 (hi : Int)] w fun e w' => ∃ v b, e = .returned (.tuple #[.int .i64 v, .bool b]) ∧ DigOut r hi v b ∧ w = w' := fun E hE w => by
  have := digits_any E hi w hh
  rw [hE] at this; exact this
theorem ownsRow_five {wr : World} {base : Nat} {v : Value} {q0 q1 q2 q3 q4 : ByteArray} (h : wr.ownsRow base 9 1 v 5 ([q0, q1, q2, q3, q4].map Value.string)) :
    ∃ g cap, v = .slice (some ⟨g, 0, none⟩) 5 cap ∧ wr.cell? ⟨g, 0, none⟩ = some (.string q0) ∧ wr.cell? ⟨g, 1, none⟩ = some (.string q1) ∧ wr.cell? ⟨g, 2, none⟩ = some (.string q2) ∧ wr.cell? ⟨g, 3, none⟩ = some (.string q3) ∧ wr.cell? ⟨g, 4, none⟩ = some (.string q4) := by
  rcases h.2 with ⟨_, h0⟩ | ⟨g, cap, cur, h1, _, h2, _, _, _, h3⟩
  · cases h0
  · have key : ∀ j, j < 5 → wr.cell? ⟨g, j, none⟩ = ([q0, q1, q2, q3, q4].map Value.string)[j]? := by
      intro j hj
      rw [← h3, List.getElem?_take, if_pos (by omega)]
      unfold World.cell?
      simp only [h2]
      simp
    exact ⟨g, cap, h1, key 0 (by omega), key 1 (by omega), key 2 (by omega), key 3 (by omega), key 4 (by omega)⟩
theorem own_base {wr : World} {base size N : Nat} {t : TypeId} {v : Value} {xs : List Value} (h : wr.ownsRow base t size v N xs) : ∀ k, v.ownBlock = some k → base ≤ k := by
  intro k hk
  rcases h.2 with ⟨h1, _⟩ | ⟨g, cap, cur, h1, h2, _⟩
  · rw [h1] at hk; cases hk
  · rw [h1] at hk; cases hk; exact h2
theorem rslice_len {wr : World} {base N : Nat} {v : Value} {xs : List Value} (h : wr.ownsRow base 9 1 v N xs) (V' : World) : Sem.run Tryd.prog (Builtin.len_ #[62] 3 #[v]) V' = .ok (.int .i64 (N : Int)) V' := by
  rcases h.2 with ⟨h1, h0⟩ | ⟨g, cap, _, h1, _⟩
  · rw [h0, h1]; simp [Builtin.len_, go_sem]
  · rw [h1]; simp [Builtin.len_, go_sem]

set_option maxRecDepth 100000 in
set_option maxHeartbeats 4000000 in
theorem rnum_in (s : ByteArray) (r : List UInt8) (w : World) (hl : s.data.toList = 115 :: r) (hs : s.size < 4294967281) :
    Calls Tryd.prog 32 #[.string s] w fun e w' => RnumPost s w e w' := by
  obtain ⟨i0, hi, hz0, hz1, hz2⟩ := info_parts infoStr
  obtain ⟨h0, gx⟩ := head_byte hl
  have h0' : ¬ (s.size : Int) < 1 := by omega
  have hsl : s.data.toList.length = s.size := Array.length_toList ..
  have HL := Lib.hid hl
  have HSL := Lib.hid hsl
  have hI0 := Lib.hid (inv_start (l := s.data.toList) (by omega))
  have hbyte : ∀ k (hk : k < s.size), s.data.toList[k]? = some (s[k]'hk) := fun k hk => by
    rw [Array.getElem?_toList]; exact Array.getElem?_eq_getElem hk
  have HBY := Lib.hid hbyte
  clear hl hsl hbyte
  go_enter Tryd.func32, Tryd.ntmps32
  go_wp2
  go_loopw [4, 5, 6] (fun pv fv iv wr => ∃ (k f : Nat) (D : List ByteArray), 1 ≤ k ∧ k ≤ s.size + 1 ∧ f ≤ s.size + 1 ∧ iv = .int .i64 (k : Int) ∧ fv = .int .i64 (f : Int) ∧ Hid (PartInv s.data.toList k f (D.map (·.data.toList))) ∧ D.length < k ∧ wr.ownsRow w.heap.size 9 1 pv D.length (D.map Value.string) ∧ Below w.heap.size w wr) (fun _ _ iv _ => s.size + 1 - (intOf iv).toNat)
  case atStart => exact ⟨1, 1, [], Nat.le_refl _, by omega, by omega, rfl, rfl, hI0, by decide, World.ownsRow_nil _ _ _ _, Below.refl _ _⟩
  case round =>
    obtain ⟨k, f, D, hk1, hk, hf, rfl, rfl, hI, hDl, hown, hbr⟩ := hrel
    by_cases hle : k ≤ s.size
    · have hfk := inv_f hI.out (by rw [HSL.out]; exact hle)
      have w9 : IntKind.i64.wrap ((k : Int) + 1) = ((k + 1 : Nat) : Int) := by rw [IntWalk.i64_in _ (by omega)]; omega
      have hz := hbr.size
      have hlei : (k : Int) ≤ (s.size : Int) := by omega
      by_cases hskip : k < s.size ∧ s.data.toList[k]? ≠ some 95
      · obtain ⟨hks, hc⟩ := hskip
        have HN := Lib.hid (inv_skip hI.out (by rw [HSL.out]; exact hks) hc)
        have e1 : ((k : Int) == (s.size : Int)) = false := by rw [beq_eq_false_iff_ne]; omega
        have e2 : (((s[k]'hks).toNat : Int) == 95) = false := by
          rw [beq_eq_false_iff_ne]; intro e
          rw [HBY.out k hks] at hc
          exact hc (by rw [show s[k]'hks = 95 from UInt8.toNat_inj.1 (by show (s[k]'hks).toNat = 95; omega)])
        clear hc
        go_wp2
        go_roundw
        case rel => exact ⟨k + 1, f, D, by omega, by omega, hf, by first | rfl | rw [← w9], rfl, HN, by omega, hown, hbr⟩
        case measure => simp [intOf]; omega
      · have HN : Hid (PartInv s.data.toList (k + 1) (k + 1) ((D ++ [s.extract f k]).map (·.data.toList))) := by
          refine Lib.hid ?_
          rw [List.map_append, List.map_cons, List.map_nil, extract_piece]
          by_cases hks : k < s.size
          · exact inv_cut hI.out (by rw [HSL.out]; exact hks) (by
              by_cases g : s.data.toList[k]? = some 95
              · exact g
              · exact absurd ⟨hks, g⟩ hskip)
          · obtain rfl : k = s.size := by omega
            have := hI.out
            rw [← HSL.out] at this ⊢
            exact inv_last this
        have hw : ((k : Int) == (s.size : Int)) = true ∨ (((k : Int) == (s.size : Int)) = false ∧ ∃ hks : k < s.size, (((s[k]'hks).toNat : Int) == 95) = true) := by
          by_cases hks : k < s.size
          · refine .inr ⟨by rw [beq_eq_false_iff_ne]; omega, hks, ?_⟩
            have g : s.data.toList[k]? = some 95 := by
              by_cases g : s.data.toList[k]? = some 95
              · exact g
              · exact absurd ⟨hks, g⟩ hskip
            rw [HBY.out k hks] at g
            rw [Option.some.inj g]; rfl
          · exact .inl (by rw [beq_iff_eq]; omega)
        clear hskip
        have hcap : D.length + 1 ≤ 4294967297 := by omega
        rcases hw with e1 | ⟨e1, hks, e2⟩
        all_goals
          go_wp2_with (at_builtin; refine wpList_append_own _ rfl _ _ 62 rfl w.heap.size 9 i0 (.string ⟨#[]⟩) 1 16 Tryd.underlying62 hi hz0 hz1 hz2 rfl (by decide) _ _ _ rfl (hown.alloc _) ⟨wr.heap.size, 0, none⟩ 1 1 [.string (s.extract f k)] rfl rfl (cell_one_new _ _ _) (by simp [Value.oneCell']) (by unfold maxLen; omega) (by omega) (by simp; omega) ?_; intro v' w1' hown' hgrow _)
          go_roundw
          case rel =>
            refine ⟨k + 1, k + 1, D ++ [s.extract f k], by omega, by omega, by omega, by first | rfl | rw [← w9], by first | rfl | rw [← w9], HN, by rw [List.length_append]; simp; omega, ?_, ?_⟩
            · rw [List.length_append, List.map_append]; exact hown'
            · exact (hbr.alloc hz _).grown hgrow (by simp; omega) (own_base hown)
          case measure => simp [intOf]; omega
    · have hk2 : k = s.size + 1 := by omega
      subst hk2
      have hsp := inv_end (f := f) (by rw [HSL.out]; exact hI.out)
      rw [HL.out] at hsp
      have hgt : ¬ (((s.size + 1 : Nat) : Int) ≤ (s.size : Int)) := by omega
      have LV := rslice_len hown
      by_cases h5 : D.length = 5
      · obtain ⟨q0, q1, q2, q3, q4, rfl⟩ : ∃ q0 q1 q2 q3 q4, D = [q0, q1, q2, q3, q4] := by
          match D, h5 with
          | [a, b, c, d, e], _ => exact ⟨a, b, c, d, e, rfl⟩
        obtain ⟨g, cap, rfl, x0, x1, x2, x3, x4⟩ := ownsRow_five hown
        have HSP := Lib.hid (show spl r = [q0.data.toList, q1.data.toList, q2.data.toList, q3.data.toList, q4.data.toList] from hsp)
        have HLK := Lib.hid (sysLook_five HSP.out)
        clear hsp hown LV h5 hI
        cases h2 : q2.data.toList with
        | nil =>
          have HR := Lib.hid (show sysLook s.data.toList = none from by rw [HL.out, HLK.out]; exact five_no (.inr (.inr (.inl (piece_no (.inl rfl) (by rw [h2]; intro r e; cases e))))))
          obtain rfl : q2 = ⟨#[]⟩ := bytes_eq h2
          clear h2
          go_wp2
          go_ret2
          exact rpost 0 false rfl (.inr ⟨rfl, HR.out⟩) hbr
        | cons c2 r2 =>
          obtain ⟨z2, gx2⟩ := head_byte h2
          have n2 : (q2.toList == []) = false := lit_no (l := []) (fun e => by rw [e] at z2; exact absurd z2 (by decide))
          cases h3 : q3.data.toList with
          | nil =>
            have HR := Lib.hid (show sysLook s.data.toList = none from by rw [HL.out, HLK.out]; exact five_no (.inr (.inr (.inr (.inl (piece_no (.inr rfl) (by rw [h3]; intro r e; cases e)))))))
            obtain rfl : q3 = ⟨#[]⟩ := bytes_eq h3
            clear h3 h2
            go_wp2
            go_ret2
            exact rpost 0 false rfl (.inr ⟨rfl, HR.out⟩) hbr
          | cons c3 r3 =>
            obtain ⟨z3, gx3⟩ := head_byte h3
            have n3 : (q3.toList == []) = false := lit_no (l := []) (fun e => by rw [e] at z3; exact absurd z3 (by decide))
            by_cases hc2 : c2 = 99
            · have t2 : ((c2.toNat : Int) != 99) = false := by rw [hc2]; rfl
              by_cases hc3 : c3 = 99
              · have t3 : ((c3.toNat : Int) != 99) = false := by rw [hc3]; rfl
                have DG0 := Lib.hid (fun w => show Calls Tryd.prog 23 #[.string q0, .int .i64 3] w _ from digits_E q0.data.toList 3 (by decide) q0 rfl w)
                have DG1 := Lib.hid (fun w => show Calls Tryd.prog 23 #[.string q1, .int .i64 7] w _ from digits_E q1.data.toList 7 (by decide) q1 rfl w)
                have DG2 := Lib.hid (fun w => show Calls Tryd.prog 23 #[.string (q2.extract 1 q2.size), .int .i64 15] w _ from digits_E r2 15 (by decide) _ (tail_data h2) w)
                have DG3 := Lib.hid (fun w => show Calls Tryd.prog 23 #[.string (q3.extract 1 q3.size), .int .i64 15] w _ from digits_E r3 15 (by decide) _ (tail_data h3) w)
                have DG4 := Lib.hid (fun w => show Calls Tryd.prog 23 #[.string q4, .int .i64 7] w _ from digits_E q4.data.toList 7 (by decide) q4 rfl w)
                have HLK2 := Lib.hid (show sysLook s.data.toList = _ from HL.out ▸ HLK.out)
                rw [h2, h3, hc2, hc3, pieceV2, pieceV3] at HLK2
                have y2 : 1 ≤ q2.size := z2
                have y3 : 1 ≤ q3.size := z3
                clear h2 h3 hc2 hc3
                go_wp2_with fail
                refine (DG0.out _).mono ?_
                rintro e W0 ⟨v0, b0, rfl, hD0, rfl⟩
                have HD0 := Lib.hid hD0
                clear hD0
                go_wp2_with fail
                refine (DG1.out _).mono ?_
                rintro e W0 ⟨v1, b1, rfl, hD1, rfl⟩
                have HD1 := Lib.hid hD1
                clear hD1
                go_wp2_with fail
                refine (DG2.out _).mono ?_
                rintro e W0 ⟨v2, b2, rfl, hD2, rfl⟩
                have HD2 := Lib.hid hD2
                clear hD2
                go_wp2_with fail
                refine (DG3.out _).mono ?_
                rintro e W0 ⟨v3, b3, rfl, hD3, rfl⟩
                have HD3 := Lib.hid hD3
                clear hD3
                go_wp2_with fail
                refine (DG4.out _).mono ?_
                rintro e W0 ⟨v4, b4, rfl, hD4, rfl⟩
                have HD4 := Lib.hid hD4
                clear hD4
                rcases HD0.out with ⟨rfl, m0, d0, rfl⟩ | ⟨rfl, d0, _, _⟩
                · rcases HD1.out with ⟨rfl, m1, d1, rfl⟩ | ⟨rfl, d1, _, _⟩
                  · rcases HD2.out with ⟨rfl, m2, d2, rfl⟩ | ⟨rfl, d2, _, _⟩
                    · rcases HD3.out with ⟨rfl, m3, d3, rfl⟩ | ⟨rfl, d3, _, _⟩
                      · rcases HD4.out with ⟨rfl, m4, d4, rfl⟩ | ⟨rfl, d4, _, _⟩
                        · by_cases hlo : 2 ≤ m0
                          · have HR := Lib.hid (show sysLook s.data.toList = some (sysNum (m0 - 2) m1 m2 m3 m4) by rw [HLK2.out, dig_lo d0, if_pos hlo, d1, d2, d3, d4]; rfl)
                            have a0 := (dig_spec d0).2.1
                            have a1 := (dig_spec d1).2.1
                            have a2 := (dig_spec d2).2.1
                            have a3 := (dig_spec d3).2.1
                            have a4 := (dig_spec d4).2.1
                            have l0 : ¬ (m0 : Int) < 2 := by omega
                            have u0 : (m0 : Int) ≤ 3 := by omega
                            have u1 : (m1 : Int) ≤ 7 := by omega
                            have u2 : (m2 : Int) ≤ 15 := by omega
                            have u3 : (m3 : Int) ≤ 15 := by omega
                            have u4 : (m4 : Int) ≤ 7 := by omega
                            have V := Lib.hid (show (((((m0 : Int) - 2) * 8 + (m1 : Int)) * 16 + (m2 : Int)) * 16 + (m3 : Int)) * 8 + (m4 : Int) = ((sysNum (m0 - 2) m1 m2 m3 m4 : Nat) : Int) by unfold sysNum; omega)
                            clear d0 d1 d2 d3 d4 a0 a1 a2 a3 a4 hlo
                            go_wp2_with fail
                            go_ret2
                            exact rpost _ true rfl (.inl ⟨rfl, _, HR.out, V.out⟩) hbr
                          · have HR := Lib.hid (show sysLook s.data.toList = none by rw [HLK2.out]; exact five_no (.inl (by rw [dig_lo d0, if_neg hlo])))
                            have l0 : (m0 : Int) < 2 := by omega
                            clear d0 d1 d2 d3 d4 hlo
                            go_wp2_with fail
                            go_ret2
                            exact rpost 0 false rfl (.inr ⟨rfl, HR.out⟩) hbr
                        · have HR := Lib.hid (show sysLook s.data.toList = none by rw [HLK2.out]; exact five_no (.inr (.inr (.inr (.inr d4)))))
                          clear d0 d1 d2 d3 d4
                          go_wp2_with fail
                          go_ret2
                          exact rpost 0 false rfl (.inr ⟨rfl, HR.out⟩) hbr
                      · have HR := Lib.hid (show sysLook s.data.toList = none by rw [HLK2.out]; exact five_no (.inr (.inr (.inr (.inl d3)))))
                        clear d0 d1 d2 d3
                        go_wp2_with fail
                        go_ret2
                        exact rpost 0 false rfl (.inr ⟨rfl, HR.out⟩) hbr
                    · have HR := Lib.hid (show sysLook s.data.toList = none by rw [HLK2.out]; exact five_no (.inr (.inr (.inl d2))))
                      clear d0 d1 d2
                      go_wp2_with fail
                      go_ret2
                      exact rpost 0 false rfl (.inr ⟨rfl, HR.out⟩) hbr
                  · have HR := Lib.hid (show sysLook s.data.toList = none by rw [HLK2.out]; exact five_no (.inr (.inl d1)))
                    clear d0 d1
                    go_wp2_with fail
                    go_ret2
                    exact rpost 0 false rfl (.inr ⟨rfl, HR.out⟩) hbr
                · have HR := Lib.hid (show sysLook s.data.toList = none by rw [HLK2.out]; exact five_no (.inl (dig_lo_none d0)))
                  clear d0
                  go_wp2_with fail
                  go_ret2
                  exact rpost 0 false rfl (.inr ⟨rfl, HR.out⟩) hbr
              · have t3 : ((c3.toNat : Int) != 99) = true := by
                  rw [bne_iff_ne]; intro e; exact hc3 (UInt8.toNat_inj.1 (by show c3.toNat = 99; omega))
                have HR := Lib.hid (show sysLook s.data.toList = none from by rw [HL.out, HLK.out]; exact five_no (.inr (.inr (.inr (.inl (piece_no (.inr rfl) (by rw [h3]; intro r e; exact hc3 (List.cons.inj e).1)))))))
                clear h2 h3 hc2 hc3
                go_wp2
                go_ret2
                exact rpost 0 false rfl (.inr ⟨rfl, HR.out⟩) hbr
            · have t2 : ((c2.toNat : Int) != 99) = true := by
                rw [bne_iff_ne]; intro e; exact hc2 (UInt8.toNat_inj.1 (by show c2.toNat = 99; omega))
              have HR := Lib.hid (show sysLook s.data.toList = none from by rw [HL.out, HLK.out]; exact five_no (.inr (.inr (.inl (piece_no (.inl rfl) (by rw [h2]; intro r e; exact hc2 (List.cons.inj e).1))))))
              clear h2 h3 hc2
              go_wp2
              go_ret2
              exact rpost 0 false rfl (.inr ⟨rfl, HR.out⟩) hbr
      · have HR := Lib.hid (show sysLook s.data.toList = none by
          rw [HL.out]
          exact sysLook_far (by rw [show r = (115 :: r).drop 1 from rfl, hsp, List.length_map]; exact h5))
        have hne : ((D.length : Int) != 5) = true := by rw [bne_iff_ne]; omega
        clear hsp h5
        go_wp2
        go_ret2
        exact rpost 0 false rfl (.inr ⟨rfl, HR.out⟩) hbr
theorem rnum_any (s : ByteArray) (w : World) (hs : s.size < 4294967281) :
    Calls Tryd.prog 32 #[.string s] w fun e w' => ∃ v b, e = .returned (.tuple #[.int .i64 v, .bool b]) ∧ RnumOut s.data.toList v b ∧ Below w.heap.size w w' := by
  by_cases h : ∃ r, s.data.toList = 115 :: r
  · obtain ⟨r, hr⟩ := h
    exact rnum_in s r w hr hs
  · refine (rnum_out s w fun r hr => h ⟨r, hr⟩).mono ?_
    rintro e w' ⟨rfl, hb⟩
    refine ⟨0, false, rfl, .inr ⟨rfl, ?_⟩, hb⟩
    cases hl : sysLook s.data.toList with
    | none => rfl
    | some n => exact absurd (sysLook_head hl) h
end Go.Proofs.YtefglodkcddgiaaDoor
