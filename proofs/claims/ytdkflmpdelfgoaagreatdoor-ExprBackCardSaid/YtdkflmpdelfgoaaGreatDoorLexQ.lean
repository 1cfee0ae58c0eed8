/-
  The iterator over a line's pieces: what it does for any body of a loop that leaves boxes of strings, pieces, kinds and yields alone. Conditions: what the variables of the library hold (Good), and the sizes that each lemma states.
-/
import Derived.Test.YtdkflmpdelfgoaaGreatDoorLexP
import Derived.Test.YtdkflmpdelfgoaaGreatDoorTellsS
import Derived.RangeFuncCalls
import Derived.RangeFuncLeaves
import Derived.Shelf.Abstract
import Derived.Shelf.RegionOpen
import Derived.OwnWalkIn
import Derived.TacticsInMore
import Derived.LoopNIn
import Derived.LoopIn
namespace Go.Proofs.YtdkflmpdelfgoaaGreatDoor
open Go.RowKit Go.Shelf
attribute [local go_sem] Oper.semAt_some

/-- the types of the blocks that stay: boxes of strings, of pieces, of yields, the row of kinds -/
def isTab (t : TypeId) : Bool := [9, 64, 110].contains t
def KeepsTabs (A B : World) : Prop := ∀ (b : Nat) c t z, isTab t = true → A.heap[b]? = some (.cells c t z) → B.heap[b]? = some (.cells c t z)
def Kt (n : Nat) (A B : World) : Prop := Below n A B ∧ KeepsTabs A B
theorem Kt.trans {n : Nat} {A B C : World} (h : Kt n A B) (k : Kt n B C) : Kt n A C := ⟨h.1.trans k.1, fun b c t z ht hb => k.2 b c t z ht (h.2 b c t z ht hb)⟩
theorem tabs_refl (A : World) : KeepsTabs A A := fun _ _ _ _ _ h => h
theorem tabs_below {A B : World} (h : Below A.heap.size A B) : KeepsTabs A B := fun b _ _ _ _ hb => (h.block b (Array.getElem?_eq_some_iff.1 hb).1).trans hb
theorem kt_below {n : Nat} {A B : World} (hn : n ≤ A.heap.size) (h : Below A.heap.size A B) : Kt n A B := ⟨h.mono hn, tabs_below h⟩
theorem tabs_set {A : World} {b : Nat} {o : Nat} {c : Array Value} {t : TypeId} {z : Nat × Nat} (h : A.heap[b]? = some (.cells c t z)) (ht : isTab t = false) (v : Value) : KeepsTabs A (A.setCell ⟨b, o, none⟩ v) := by
  intro b' c' t' z' ht' hb'
  by_cases e : b' = b
  · subst e
    rw [h] at hb'
    injection hb' with hb'
    injection hb' with _ h2 _
    subst h2
    rw [ht] at ht'; cases ht'
  · rw [show (A.setCell ⟨b, o, none⟩ v).heap[b']? = A.heap[b']? from ?_]
    · exact hb'
    · exact Below.heap_setCell _ _ _ _ e
theorem tabs_put {A : World} {l : Nat} {o o' : Obj} (h : A.heap[l]? = some o) (ho : o.isCells = false) : KeepsTabs A (A.putObj l o') := by
  intro b c t z _ hb
  by_cases e : b = l
  · subst e; rw [h] at hb; injection hb with hb; subst hb; cases ho
  · exact (World.putObj_heap_other e).trans hb

theorem errO_ne (s : Bs) : errO s ≠ 0 := by
  unfold errO
  split
  · decide
  · split
    · decide
    · split <;> decide
/-- a piece as the one argument of a yield -/
def encP (x : Pc) : Array Value := #[pcV x.k x.t x.n x.p x.z x.e]
/-- the cells of a piece -/
def pcC (k : Int) (t : Bs) (n : Int) (p z e : Int) : Array Value := #[.int .i64 k, .string ⟨t.toArray⟩, .int .u64 n, .int .i64 p, .int .i64 z, .int .i64 e]

set_option maxRecDepth 100000 in
set_option maxHeartbeats 8000000 in
theorem pieces_tells (line : ByteArray) (bl n n₀ : Nat) (w : World) (hG : Good w) (h6 : 6 ≤ n₀) (hn : n₀ ≤ w.heap.size) (hs : line.size ≤ 512) (hbl : w.heap[bl]? = some (.cells #[.string line] 9 (0, 0))) :
    TellsS (Kt n₀) n Tryz.prog 31 #[.pointer (some ⟨bl, 0, none⟩)] encP (fun xs => xs = piecesS 0 line.data.toList) (fun pre => pre <+: piecesS 0 line.data.toList) (piecesS 0 line.data.toList).length w := by
  intro l J Jx V hV hJ hJx hY h0
  have hGV : Good V := hG.thn hV
  have hblV : V.heap[bl]? = some (.cells #[.string line] 9 (0, 0)) := (hV.block bl (heap_lt hbl)).trans hbl
  have hnV : n₀ ≤ V.heap.size := Nat.le_trans hn hV.size
  have KA := Lib.hid (kinds_any V)
  have YH := Lib.hid hY
  have GH := Lib.hid hGV
  have SK := Lib.hid (fun (E : ByteArray) w (h : E.size ≤ 281474976710656) => skipped_any E w h)
  have PA := Lib.hid (fun (E : ByteArray) c r b w h1 h2 h3 h4 h5 => piece_any E c r b w h1 h2 h3 h4 h5)
  clear hY hG hGV
  refine callsIn_of_wp Tryz.func31 rfl trivial ?_ rfl
  simp only [Tryz.ntmps31, List.size_toArray, List.length_cons, List.length_nil, Nat.reduceAdd, Nat.reduceSub, Array.replicate_succ, Array.replicate_zero, List.push_toArray, List.append_toArray, List.nil_append, List.cons_append]
  gi_wp2_with fail
  refine ⟨trivial, (fun h => absurd h (by decide)), ?_⟩
  refine (callsIn_wide.2 KA.out).mono ?_
  rintro e w1 ⟨rfl, rfl⟩
  have hJ0 : J [] (V.alloc (.cells kdsC 110)) := hJ _ V _ none h0 (below_grown (below1 V _)) (fun r e => by cases e)
  have hK0 : (V.alloc (.cells kdsC 110)).heap[V.heap.size]? = some (.cells kdsC 110 (0, 0)) := heap_alloc_new V _
  have hB0 : Kt n₀ V (V.alloc (.cells kdsC 110)) := kt_below hnV (below1 V _)
  have hL0 := hB0.2 bl _ _ _ (by decide) hblV
  have hz0 : V.heap.size < (V.alloc (.cells kdsC 110)).heap.size := by simp
  generalize V.alloc (.cells kdsC 110) = W0 at *
  have cl0 : W0.cell? ⟨bl, 0, none⟩ = some (.string line) := by rw [Lib.cell_of_heap hL0]; rfl
  have hlen0 := skip_le line.data.toList
  have S0 := Lib.hid (SK.out line W0 (by omega))
  clear KA h0 hblV hbl hV
  gi_wp2_with fail
  refine ⟨trivial, (fun h => absurd h (by decide)), ?_⟩
  refine (callsIn_wide.2 S0.out).mono ?_
  rintro e w1 ⟨rfl, rfl⟩
  gi_wp2_with fail
  gi_loopw [4] (fun v wr => ∃ (pre : List Pc) (a : Nat), v = .int .i64 ((a + skipB (line.data.toList.drop a) : Nat) : Int) ∧ a + skipB (line.data.toList.drop a) ≤ line.size ∧ Hid (piecesS 0 line.data.toList = pre ++ piecesS a (line.data.toList.drop a)) ∧ J pre wr ∧ Kt n₀ V wr ∧ wr.heap[bl]? = some (.cells #[.string line] 9 (0, 0)) ∧ wr.heap[V.heap.size]? = some (.cells kdsC 110 (0, 0)))
    (fun v _ => line.size + 1 - (intOf v).toNat)
  case atStart => exact ⟨[], 0, by simp, by rw [List.drop_zero, Nat.zero_add, size_list]; exact hlen0, Lib.hid (by simp), hJ0, hB0, hL0, hK0⟩
  case round =>
    clear hJ0 hB0 hL0 hK0 cl0 hlen0 hz0 S0
    obtain ⟨pre, a, rfl, hat, hP, hJs, hBr, hLr, hKr⟩ := hrel
    obtain ⟨at_, hate⟩ : ∃ at_, a + skipB (line.data.toList.drop a) = at_ := ⟨_, rfl⟩
    rw [hate] at hat ⊢
    have clr : wr.cell? ⟨bl, 0, none⟩ = some (.string line) := by rw [Lib.cell_of_heap hLr]; rfl
    have hdd : (line.data.toList.drop a).drop (skipB (line.data.toList.drop a)) = line.data.toList.drop at_ := by rw [List.drop_drop, hate]
    by_cases hlt : at_ < line.size
    · obtain ⟨c, r, hcr⟩ : ∃ c r, line.data.toList.drop at_ = c :: r := List.exists_cons_of_ne_nil (fun e => by
        have := congrArg List.length e
        rw [List.length_drop, ← size_list] at this
        simp at this; omega)
      have hE : (line.extract at_ line.size).data.toList = c :: r := by rw [list_drop rfl, hcr]
      have hEs : (line.extract at_ line.size).size ≤ 512 := by rw [size_list, hE, ← hcr, List.length_drop, ← size_list]; omega
      have hne : (line.data.toList.drop a).drop (skipB (line.data.toList.drop a)) ≠ [] := by rw [hdd, hcr]; simp
      have hGr := GH.out.keep (Nat.le_trans h6 (Nat.le_refl _)) hBr.1
      have hlK := heap_lt hKr
      have KAt : KdsAt V.heap.size wr := fun j v hj => by rw [Lib.cell_of_heap hKr]; exact hj
      have PC := Lib.hid (PA.out _ c r V.heap.size wr hGr (by omega) hE hlK KAt)
      have hat' : (at_ : Int) ≤ (line.size : Int) := by omega
      have HP := Lib.hid hcr
      have HNE := Lib.hid hne
      have HDD := Lib.hid hdd
      have HATE := Lib.hid hate
      clear hcr hne hdd hE hEs KAt hGr hate
      gi_wp2_with fail
      refine ⟨trivial, (fun h => absurd h (by decide)), ?_⟩
      refine (callsIn_wide.2 PC.out).mono ?_
      rintro e w2 ⟨ho, hb2⟩
      have hJ2 : J pre w2 := hJ _ wr w2 none hJs (below_grown hb2) (fun r e => by cases e)
      have hz2 := hb2.size
      have hlV : V.heap.size < w2.heap.size := by omega
      have KB2 := Lib.hid (kt_below (Nat.le_trans hnV hBr.1.size) hb2)
      have H2 := Lib.hid hb2
      clear hb2
      rcases ho with ⟨k, t, nn, z, ho, rfl⟩ | ⟨ho, rfl⟩
      · have hzl := one_le ho
        have hz_le : at_ + z ≤ line.size := by
          have h1 := hzl.2
          rw [← HP.out, List.length_drop, ← size_list] at h1; omega
        have hz1 := hzl.1
        have HX : Hid (piecesS 0 line.data.toList = pre ++ ⟨k, t, nn, (at_ : Int), z, 0⟩ :: piecesS (at_ + z) (line.data.toList.drop (at_ + z))) := Lib.hid (by
          rw [hP.out, piecesS_step HNE.out (by rw [HDD.out, HP.out]; exact ho), HDD.out, HATE.out, List.drop_drop])
        clear ho hzl
        obtain ⟨D, hD⟩ : ∃ D, (⟨t.toArray⟩ : ByteArray) = D := ⟨_, rfl⟩
        have W1K : Kt n₀ w2 (w2.alloc (.cells #[.int .i64 k, .string D, .int .u64 (nn : Int), .int .i64 (at_ : Int), .int .i64 (z : Int), .int .i64 0] 64)) := kt_below (Nat.le_trans hnV (Nat.le_trans hBr.1.size hz2)) (below1 w2 _)
        have hJ3 : J pre (w2.alloc (.cells #[.int .i64 k, .string D, .int .u64 (nn : Int), .int .i64 (at_ : Int), .int .i64 (z : Int), .int .i64 0] 64)) := hJ _ w2 _ none hJ2 (below_grown (below1 w2 _)) (fun r e => by cases e)
        have hbp : (w2.alloc (.cells #[.int .i64 k, .string D, .int .u64 (nn : Int), .int .i64 (at_ : Int), .int .i64 (z : Int), .int .i64 0] 64)).heap[w2.heap.size]? = some (.cells #[.int .i64 k, .string D, .int .u64 (nn : Int), .int .i64 (at_ : Int), .int .i64 (z : Int), .int .i64 0] 64 (0, 0)) := heap_alloc_new w2 _
        obtain ⟨fn, tmps, assign, body, hy1, hR⟩ := YH.out (n - 1) pre ⟨k, t, nn, (at_ : Int), z, 0⟩ _ hJ3 (by rw [HX.out]; simp)
        dsimp only [encP, pcV] at hy1
        rw [hD] at hy1
        unfold pcV
        rw [hD]
        clear hD
        gi_wp2
        refine ⟨fun h => absurd h (by decide), ?_⟩
        refine hR.mono ?_
        rintro e W3 (⟨rfl, hJ4, hk4, hf4⟩ | ⟨rfl, hJx4, hk4⟩)
        · have hK4 := (hBr.trans KB2.out).trans (W1K.trans hf4)
          have hp4 := hf4.2 _ _ _ _ (by decide) hbp
          have hL4 := (KB2.out.trans (W1K.trans hf4)).2 bl _ _ _ (by decide) hLr
          have hKd4 := (KB2.out.trans (W1K.trans hf4)).2 V.heap.size _ _ _ (by decide) hKr
          have p5 : W3.cell? ⟨w2.heap.size, 5, none⟩ = some (.int .i64 0) := by rw [Lib.cell_of_heap hp4]; rfl
          have p4 : W3.cell? ⟨w2.heap.size, 4, none⟩ = some (.int .i64 (z : Int)) := by rw [Lib.cell_of_heap hp4]; rfl
          have pl : W3.cell? ⟨bl, 0, none⟩ = some (.string line) := by rw [Lib.cell_of_heap hL4]; rfl
          have w9 : IntKind.i64.wrap ((at_ : Int) + (z : Int)) = ((at_ + z : Nat) : Int) := by rw [IntWalk.i64_in _ (by omega)]; omega
          have hE2 : (line.extract (at_ + z) line.size).data.toList = line.data.toList.drop (at_ + z) := list_drop rfl _
          have S2 := SK.out (line.extract (at_ + z) line.size) W3 (by rw [size_list, hE2, List.length_drop, ← size_list]; omega)
          rw [hE2] at S2
          have hsk := skip_le (line.data.toList.drop (at_ + z))
          rw [List.length_drop, ← size_list] at hsk
          have SH := Lib.hid S2
          have haz : (at_ : Int) + (z : Int) ≤ (line.size : Int) := by omega
          have HK4 := Lib.hid hK4
          have HJ4 := Lib.hid hJ4
          have HL4 := Lib.hid hL4
          have HKd4 := Lib.hid hKd4
          clear S2 hE2 hp4 hk4 hf4 W1K hbp hJ3 hJ2 hK4 hJ4 hL4 hKd4 hy1 hR
          obtain ⟨sk, hskk⟩ : ∃ sk, skipB (line.data.toList.drop (at_ + z)) = sk := ⟨_, rfl⟩
          rw [hskk] at SH hsk
          have HSK := Lib.hid hskk
          have w10 : IntKind.i64.wrap ((at_ : Int) + (z : Int) + (sk : Int)) = ((at_ + z + sk : Nat) : Int) := by rw [IntWalk.i64_in _ (by omega)]; omega
          clear hskk
          gi_wp2_with fail
          refine ⟨trivial, (fun h => absurd h (by decide)), ?_⟩
          refine (callsIn_wide.2 SH.out).mono ?_
          rintro e W4 ⟨rfl, rfl⟩
          gi_wp2_with fail
          go_roundw
          case rel => exact ⟨pre ++ [⟨k, t, nn, (at_ : Int), z, 0⟩], at_ + z, by rw [HSK.out]; first | rfl | rw [← w10] | (congr 1; omega), by rw [HSK.out]; omega, Lib.hid (by rw [HX.out]; simp), HJ4.out, HK4.out, HL4.out, HKd4.out⟩
          case measure => simp [intOf]; omega
        · clear hJ3 hJ2 W1K hbp
          gi_wp2_with fail
          refine bodyPost_ret (results_none rfl _ _ _) rfl ?_
          exact ⟨⟨_, rfl⟩, .inr ⟨_, ⟨piecesS (at_ + z) (line.data.toList.drop (at_ + z)), by rw [HX.out]; simp⟩, hJx4⟩⟩
      · have HX0 : piecesS 0 line.data.toList = pre ++ [⟨0, [], 0, (at_ : Int), 0, errO (c :: r)⟩] := by
          rw [hP.out, piecesS_bad HNE.out (by rw [HDD.out, HP.out]; exact ho), HDD.out, HP.out, HATE.out]
        have hne0 : (errO (c :: r) != 0) = true := by
          have := errO_ne (c :: r)
          simpa using this
        obtain ⟨er, her⟩ : ∃ er, errO (c :: r) = er := ⟨_, rfl⟩
        rw [her] at HX0 hne0 ⊢
        have HX := Lib.hid HX0
        clear ho HX0 her
        have W1K : Kt n₀ w2 (w2.alloc (.cells #[.int .i64 0, .string ⟨#[]⟩, .int .u64 0, .int .i64 (at_ : Int), .int .i64 0, .int .i64 er] 64)) := kt_below (Nat.le_trans hnV (Nat.le_trans hBr.1.size hz2)) (below1 w2 _)
        have hJ3 : J pre (w2.alloc (.cells #[.int .i64 0, .string ⟨#[]⟩, .int .u64 0, .int .i64 (at_ : Int), .int .i64 0, .int .i64 er] 64)) := hJ _ w2 _ none hJ2 (below_grown (below1 w2 _)) (fun r e => by cases e)
        have hbp : (w2.alloc (.cells #[.int .i64 0, .string ⟨#[]⟩, .int .u64 0, .int .i64 (at_ : Int), .int .i64 0, .int .i64 er] 64)).heap[w2.heap.size]? = some (.cells #[.int .i64 0, .string ⟨#[]⟩, .int .u64 0, .int .i64 (at_ : Int), .int .i64 0, .int .i64 er] 64 (0, 0)) := heap_alloc_new w2 _
        obtain ⟨fn, tmps, assign, body, hy1, hR⟩ := YH.out (n - 1) pre ⟨0, [], 0, (at_ : Int), 0, er⟩ _ hJ3 (by rw [HX.out]; simp)
        have hy2 : (Instr.yield l #[.agg #[.int .i64 0, .string ⟨#[]⟩, .int .u64 0, .int .i64 (at_ : Int), .int .i64 0, .int .i64 er]]).run Tryz.prog (w2.alloc (.cells #[.int .i64 0, .string ⟨#[]⟩, .int .u64 0, .int .i64 (at_ : Int), .int .i64 0, .int .i64 er] 64)) = .ok (.round l fn tmps assign body) (w2.alloc (.cells #[.int .i64 0, .string ⟨#[]⟩, .int .u64 0, .int .i64 (at_ : Int), .int .i64 0, .int .i64 er] 64)) := hy1
        clear hy1
        unfold pcV
        gi_wp2
        refine ⟨fun h => absurd h (by decide), ?_⟩
        refine hR.mono ?_
        rintro e W3 (⟨rfl, hJ4, hk4, hf4⟩ | ⟨rfl, hJx4, hk4⟩)
        · have hp4 := hf4.2 _ _ _ _ (by decide) hbp
          have p5 : W3.cell? ⟨w2.heap.size, 5, none⟩ = some (.int .i64 er) := by rw [Lib.cell_of_heap hp4]; rfl
          clear hp4 hk4 hf4 W1K hbp hJ3 hJ2 hy2 hR
          gi_wp2_with fail
          refine bodyPost_ret (results_none rfl _ _ _) rfl ?_
          exact ⟨⟨_, rfl⟩, .inl ⟨_, HX.out.symm, hJ4⟩⟩
        · clear hJ3 hJ2 W1K hbp
          gi_wp2_with fail
          refine bodyPost_ret (results_none rfl _ _ _) rfl ?_
          exact ⟨⟨_, rfl⟩, .inr ⟨_, by rw [HX.out]; exact List.prefix_refl _, hJx4⟩⟩
    · have he : line.data.toList.drop at_ = [] := List.drop_eq_nil_of_le (by rw [← size_list]; omega)
      have HX : Hid (piecesS 0 line.data.toList = pre) := Lib.hid (by rw [hP.out, piecesS_end (by rw [hdd, he])]; simp)
      have hnl : decide (at_ < line.size) = false := by simp; omega
      clear hdd he hate
      gi_wp2_with fail
      go_end0
      exact ⟨⟨_, rfl⟩, .inl ⟨_, HX.out.symm, hJs⟩⟩
end Go.Proofs.YtdkflmpdelfgoaaGreatDoor
