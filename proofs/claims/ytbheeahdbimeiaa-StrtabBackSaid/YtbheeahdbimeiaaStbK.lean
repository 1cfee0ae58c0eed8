/-
  The iterator over what stands between the bytes 0 of a text. Conditions: the text is a table of names, or empty; its size; where it lies.
-/
import Derived.Test.YtbheeahdbimeiaaStbJ
import Derived.Test.YtbheeahdbimeiaaTellsX
import Derived.RangeFuncCalls
import Derived.RangeFuncLeaves
import Derived.Shelf.Abstract
import Derived.Shelf.RegionOpen
import Derived.OwnWalkIn
import Derived.TacticsInMore
import Derived.LoopNIn
import Derived.LoopIn
namespace Go.Proofs.Ytbheeahdbimeiaa
open Go.RowKit Go.Shelf
set_option linter.unusedVariables false
set_option linter.unusedSimpArgs false
attribute [local go_sem] Oper.semAt_some

def encP (x : Nat × BA) : Array Value := #[.int .i64 (x.1 : Int), .string x.2]
def isTab (t : TypeId) : Bool := t == 60 || t == 9
/-- boxes of texts and of yields stay -/
def KT (A B : World) : Prop := ∀ (b : Nat) c t z, isTab t = true → A.heap[b]? = some (.cells c t z) → B.heap[b]? = some (.cells c t z)
theorem KT.refl (A : World) : KT A A := fun _ _ _ _ _ h => h
theorem KT.trans {A B C : World} (h : KT A B) (k : KT B C) : KT A C := fun b c t z ht hb => k b c t z ht (h b c t z ht hb)
theorem heap_lt {W : World} {b : Nat} {o : Obj} (h : W.heap[b]? = some o) : b < W.heap.size := (Array.getElem?_eq_some_iff.1 h).1
theorem kt_put {W : World} {l : Nat} {o o' : Obj} (h : W.heap[l]? = some o) (ho : o.isCells = false) : KT W (W.putObj l o') := by
  intro b c t z _ hb
  rw [World.putObj_heap_other (by rintro rfl; rw [h] at hb; cases hb; cases ho)]
  exact hb
theorem kt_below {A B : World} (h : Below A.heap.size A B) : KT A B := fun b c t z _ hb => (h.block b (heap_lt hb)).trans hb
theorem kt_grown {A B : World} {r : Nat} {o : Obj} (h : A.grownBy B (some r)) (hr : A.heap[r]? = some o) (ho : ∀ c t z, o = .cells c t z → isTab t = false) : KT A B := by
  intro b c t z ht hb
  refine (h.block b (heap_lt hb) ?_).trans hb
  rintro e
  cases e
  rw [hr] at hb
  cases hb
  rw [ho _ _ _ rfl] at ht; cases ht
theorem kt_set {A : World} {p : Addr} {c t z} (u : Value) (h : A.heap[p.block]? = some (.cells c t z)) (ht : isTab t = false) : KT A (A.setCell p u) := by
  intro b c' t' z' ht' hb
  rw [Below.heap_setCell _ _ _ _ (by rintro rfl; rw [h] at hb; cases hb; rw [ht] at ht'; cases ht')]
  exact hb
theorem enters_pieces : ∀ args w, (callFunc 37 args).run Try.prog w = .ok (.enter 37 args) w := enters_of Try.func37 (by kernel_rfl) rfl
/-- where name k begins -/
def pos (L : List BA) (k : Nat) : Nat := 1 + ((L.take k).map fun s => s.size + 1).sum
theorem pos_zero (L : List BA) : pos L 0 = 1 := rfl
theorem pos_succ {L : List BA} {k : Nat} {s : BA} (h : L[k]? = some s) : pos L (k + 1) = pos L k + s.size + 1 := by
  unfold pos
  rw [List.take_add_one, h]
  simp only [Option.toList, List.map_append, List.sum_append, List.map_cons, List.map_nil, List.sum_cons, List.sum_nil]
  omega
theorem sum_take_le (L : List BA) (k : Nat) : ((L.take k).map fun s => s.size + 1).sum ≤ (L.map fun s => s.size + 1).sum := by
  conv => rhs; rw [← List.take_append_drop k L]
  rw [List.map_append, List.sum_append]; omega
theorem pos_le (L : List BA) (k : Nat) : pos L k ≤ (tabOf (nms L)).length := by
  rw [tab_len]; unfold pos; have := sum_take_le L k; omega
theorem pos_all (L : List BA) : pos L L.length = (tabOf (nms L)).length := by rw [tab_len]; unfold pos; rw [List.take_length]
theorem drop_pos {T : BA} {L : List BA} (h : TabN T L) {k : Nat} {s : BA} (hk : L[k]? = some s) : ∃ r, (nmOf T).drop (pos L k) = nmOf s ++ 0 :: r := by
  have := drop_tab L k
  rw [h.1]
  unfold pos
  rw [this, drop_cons hk]
  exact ⟨(nms (L.drop (k + 1))).flatMap fun s => s ++ [0], by simp [nms, List.flatMap_cons]⟩
theorem nm_extract (T : BA) (a b : Nat) : nmOf (T.extract a b) = seg (nmOf T) a b := by
  unfold nmOf seg
  rw [← List.map_drop, ← List.map_take]
  congr 1
  have : (T.extract a b).data = T.data.extract a b := by simp
  rw [this, Array.toList_extract]
theorem tw_app : ∀ (s r : List Int), nz s → ((s ++ 0 :: r).takeWhile fun b => b != 0) = s
  | [], r, _ => by simp
  | b :: s, r, h => by
    rw [List.cons_append, List.takeWhile_cons_of_pos (by simpa using h b List.mem_cons_self), tw_app s r (fun x hx => h x (List.mem_cons_of_mem _ hx))]
theorem idx_pos {T : BA} {L : List BA} (h : TabN T L) {k : Nat} {s : BA} (hk : L[k]? = some s) : idx0 (nmOf (T.extract (pos L k) T.size)) = (s.size : Int) := by
  obtain ⟨r, hr⟩ := drop_pos h hk
  have e : nmOf (T.extract (pos L k) T.size) = nmOf s ++ 0 :: r := by
    rw [nm_extract]
    unfold seg
    rw [hr, List.take_of_length_le]
    have := congrArg List.length hr
    rw [List.length_drop, nm_len] at this
    omega
  rw [e]
  unfold idx0
  rw [if_pos (by simp), tw_app _ _ (nm_nz (h.2 s (List.mem_of_getElem? hk))), nm_len]
theorem piece_pos {T : BA} {L : List BA} (h : TabN T L) {k : Nat} {s : BA} (hk : L[k]? = some s) : T.extract (pos L k) (pos L k + s.size) = s := by
  obtain ⟨r, hr⟩ := drop_pos h hk
  refine nm_inj ?_
  rw [nm_extract]
  unfold seg
  rw [hr, show pos L k + s.size - pos L k = (nmOf s).length by rw [nm_len]; omega, List.take_left]
theorem laidB_pos {L : List BA} {k : Nat} {s : BA} (h : L[k]? = some s) : (laidB 1 L)[k]? = some (pos L k, s) := by
  have hk := (List.getElem?_eq_some_iff.1 h).1
  rw [laidB_at L 1 k hk]
  simp [pos, List.getD, h]
def Ok (x : Nat × BA) : Prop := x.1 ≤ 1048576 ∧ x.2.size ≤ 1048576
set_option maxRecDepth 100000 in
set_option maxHeartbeats 8000000 in
theorem pieces_tells (n bl : Nat) (w : World) (T : BA) (L : List BA) (hT : TabN T L ∨ (T.size = 0 ∧ L = [])) (hs : T.size ≤ 1048576) (hbl : w.heap[bl]? = some (.cells #[.string T] 9 (0, 0))) :
    TellsX KT n Try.prog 37 #[.pointer (some ⟨bl, 0, none⟩)] encP Ok (fun xs => xs = laidB 1 L) (fun pre => pre <+: laidB 1 L) L.length w := by
  intro l J Jx V hV hJ hJx hY h0
  have hbV := (hV.block bl (heap_lt hbl)).trans hbl
  have HBX := Lib.hid (show ∀ W, KT V W → W.cell? ⟨bl, 0, none⟩ = some (.string T) from fun W h => by rw [Lib.cell_of_heap (h _ _ _ _ (by decide) hbV)]; rfl)
  have HT := Lib.hid hT
  have SI := Lib.hid (fun s W => sidx_any s W)
  have YH := Lib.hid hY
  have hll := laidB_len 1 L
  have HLL := Lib.hid hll
  clear hll
  have HJ := Lib.hid hJ
  clear hT hY hbl hbV hV
  refine callsIn_of_wp Try.func37 rfl trivial ?_ rfl
  simp only [Try.ntmps37, List.size_toArray, List.length_cons, List.length_nil, Nat.reduceAdd, Nat.reduceSub, Array.replicate_succ, Array.replicate_zero, List.push_toArray, List.append_toArray, List.nil_append, List.cons_append]
  gi_wp2_with fail
  gi_loopw [3] (fun v wr => ∃ k : Nat, k ≤ L.length ∧ v = .int .i64 ((pos L k : Nat) : Int) ∧ Hid (J ((laidB 1 L).take k) wr) ∧ Hid (KT V wr))
    (fun v _ => T.size + 1 - (intOf v).toNat)
  case atStart => exact ⟨0, Nat.zero_le _, rfl, Lib.hid h0, Lib.hid (KT.refl _)⟩
  case round =>
    obtain ⟨k, hk, rfl, hJs, hBr⟩ := hrel
    have e1 := HBX.out wr hBr.out
    by_cases hlt' : k < L.length
    · obtain ⟨s, hks⟩ : ∃ s, L[k]? = some s := ⟨_, List.getElem?_eq_getElem hlt'⟩
      have hTN : TabN T L := HT.out.resolve_right (fun h => by rw [h.2] at hlt'; simp at hlt')
      have hix := idx_pos hTN hks
      have hpc := piece_pos hTN hks
      have hps := pos_succ hks
      have hle := pos_le L (k + 1)
      rw [← hTN.1, nm_len] at hle
      have hla := laidB_pos hks
      have HT1 := Lib.hid (show (laidB 1 L).take (k + 1) = (laidB 1 L).take k ++ [(pos L k, s)] by rw [List.take_add_one, hla]; rfl)
      have HPS := Lib.hid hps
      have hlen : ((laidB 1 L).take k).length < L.length := by rw [List.length_take, HLL.out]; omega
      obtain ⟨fn, tmps, assign, body, hy1, hR⟩ := YH.out (n - 1) ((laidB 1 L).take k) (pos L k, s) wr ⟨by show pos L k ≤ _; omega, by show s.size ≤ _; omega⟩ hJs.out hlen
      dsimp only [encP] at hy1
      rw [hps] at hle
      generalize pos L k = p at *
      have hp1 : (p : Int) < (T.size : Int) := by omega
      have hp0 : (0 : Int) ≤ (p : Int) := by omega
      have w8 : IntKind.i64.wrap ((p : Int) + (s.size : Int)) = ((p + s.size : Nat) : Int) := by rw [IntWalk.i64_in _ (by omega)]; omega
      have w9 : IntKind.i64.wrap (((p + s.size : Nat) : Int) + 1) = ((p + s.size + 1 : Nat) : Int) := by rw [IntWalk.i64_in _ (by omega)]; omega
      have hp2 : ((p + s.size : Nat) : Int) ≤ (T.size : Int) := by omega
      have hp3 : (p : Int) ≤ ((p + s.size : Nat) : Int) := by omega
      have hp4 : (0 : Int) ≤ ((p + s.size : Nat) : Int) := by omega
      have SI2 := Lib.hid (SI.out (T.extract p T.size) wr)
      rw [hix] at SI2
      clear hTN hix hps hla hks
      gi_wp2_with fail
      refine ⟨trivial, (fun h => absurd h (by decide)), ?_⟩
      refine (callsIn_wide.2 SI2.out).mono ?_
      rintro e w1 ⟨rfl, rfl⟩
      gi_wp2_with fail
      have w7 : IntKind.i64.wrap ((p : Int) + (s.size : Int) + 1) = ((p + s.size + 1 : Nat) : Int) := by rw [IntWalk.i64_in _ (by omega)]; omega
      refine ⟨fun h => absurd h (by decide), ?_⟩
      refine hR.mono ?_
      rintro e W3 (⟨rfl, hJ4, hk4, hf4⟩ | ⟨rfl, hJx4, hk4⟩)
      · have HB4 := Lib.hid (hBr.out.trans hf4)
        have HJ4 := Lib.hid hJ4
        clear hJ4 hf4 hR
        gi_wp2_with fail
        go_roundw
        case rel => exact ⟨k + 1, by omega, by rw [HPS.out]; first | rfl | exact congrArg _ w7.symm | simp, Lib.hid (by rw [HT1.out]; exact HJ4.out), HB4⟩
        case measure => simp [intOf]; omega
      · have HJ4 := Lib.hid hJx4
        clear hJx4 hR
        gi_wp2_with fail
        refine bodyPost_ret (results_none rfl _ _ _) rfl ?_
        exact ⟨⟨_, rfl⟩, .inr ⟨_, by rw [← HT1.out]; exact List.take_prefix _ _, HJ4.out⟩⟩
    · obtain rfl : k = L.length := by omega
      have hge : ¬ ((pos L L.length : Nat) : Int) < (T.size : Int) := by
        rcases HT.out with h | h
        · rw [pos_all, ← h.1, nm_len]; omega
        · have h1 : pos L L.length = 1 := by rw [h.2]; rfl
          rw [h1, h.1]; decide
      have HF := Lib.hid (show (laidB 1 L).take L.length = laidB 1 L from List.take_of_length_le (by rw [HLL.out]; exact Nat.le_refl _))
      generalize pos L L.length = q at *
      gi_wp2_with fail
      refine bodyPost_end (results_none rfl _ _ _) rfl ?_
      exact ⟨⟨_, rfl⟩, .inl (by have := hJs.out; rwa [HF.out] at this)⟩
theorem pieces_any (s : BA) (w : World) : Calls Try.prog 31 #[.string s] w fun e w' => e = .returned (.func (.func 37) #[] #[.pointer (some ⟨w.heap.size, 0, none⟩)]) ∧ w' = w.alloc (.cells #[.string s] 9) := by
  go_enter Try.func31, Try.ntmps31
  go_wp2_with fail
  go_ret
  exact ⟨rfl, rfl⟩
end Go.Proofs.Ytbheeahdbimeiaa
