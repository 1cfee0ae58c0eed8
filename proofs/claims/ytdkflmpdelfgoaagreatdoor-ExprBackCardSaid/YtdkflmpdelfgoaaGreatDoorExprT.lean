/-
  Tokens as they come in; isSign, operatorOf: what each call returns. Conditions: what the variable of operators holds (GoodE).
-/
import Derived.Test.YtdkflmpdelfgoaaGreatDoorExprH
import Derived.Deep.MidRow
import Derived.Deep.CutRange
import Derived.Deep.DeepCutAuto
namespace Go.Proofs.YtdkflmpdelfgoaaGreatDoor
open Go.RowKit Go.Shelf
set_option linter.unusedVariables false
set_option linter.unusedSimpArgs false
attribute [local go_sem] Oper.semAt_some

/-- a slice reads as tokens, wherever it lies -/
def TokO (W : World) (v : Value) (T : List Tok) : Prop := ((v = .slice none 0 0 ∨ ∃ a c, v = .slice (some a) 0 c) ∧ T = []) ∨ ∃ g off cap, v = .slice (some ⟨g, off, none⟩) T.length cap ∧ T.length ≤ cap ∧ cap ≤ maxLen ∧ g < W.heap.size ∧
  ∀ (k : Nat) (x : Tok), T[k]? = some x → W.cell? ⟨g, off + k * 4, none⟩ = some (.int .i64 x.k) ∧ W.cell? ⟨g, off + k * 4 + 1, none⟩ = some (.string ⟨x.t.toArray⟩) ∧ W.cell? ⟨g, off + k * 4 + 2, none⟩ = some (.int .u64 (x.n : Int)) ∧ W.cell? ⟨g, off + k * 4 + 3, none⟩ = some (.int .i64 x.p)
theorem TokO.keep {W W' : World} {v : Value} {T : List Tok} (h : TokO W v T) (hb : Below W.heap.size W W') : TokO W' v T := by
  rcases h with h | ⟨g, off, cap, h1, hc, hcm, h2, h3⟩
  · exact .inl h
  · refine .inr ⟨g, off, cap, h1, hc, hcm, Nat.lt_of_lt_of_le h2 hb.size, fun k x hx => ?_⟩
    obtain ⟨a, b, c, d⟩ := h3 k x hx
    have k0 : ∀ j, W'.cell? ⟨g, j, none⟩ = W.cell? ⟨g, j, none⟩ := fun j => hb.cell (p := ⟨g, j, none⟩) h2
    exact ⟨(k0 _).trans a, (k0 _).trans b, (k0 _).trans c, (k0 _).trans d⟩
theorem TokO.slice {W : World} {v : Value} {T : List Tok} (h : TokO W v T) : ∃ a c, v = .slice a T.length c := by
  rcases h with ⟨h | ⟨a, c, h⟩, h0⟩ | ⟨g, off, cap, h, _⟩
  · exact ⟨_, _, by rw [h0]; exact h⟩
  · exact ⟨_, _, by rw [h0]; exact h⟩
  · exact ⟨_, _, h⟩
theorem toko_at {W : World} {v : Value} {T : List Tok} (h : TokO W v T) {k : Nat} (hk : k < T.length) : ∃ g off cap x, T[k]? = some x ∧ v = .slice (some ⟨g, off, none⟩) T.length cap ∧ W.cell? ⟨g, off + k * 4, none⟩ = some (.int .i64 x.k) ∧ W.cell? ⟨g, off + k * 4 + 1, none⟩ = some (.string ⟨x.t.toArray⟩) ∧ W.cell? ⟨g, off + k * 4 + 2, none⟩ = some (.int .u64 (x.n : Int)) ∧ W.cell? ⟨g, off + k * 4 + 3, none⟩ = some (.int .i64 x.p) := by
  rcases h with ⟨_, h0⟩ | ⟨g, off, cap, h, _, _, _, hc⟩
  · rw [h0] at hk; cases hk
  · obtain ⟨x, hx⟩ : ∃ x, T[k]? = some x := ⟨_, List.getElem?_eq_getElem hk⟩
    exact ⟨g, off, cap, x, hx, h, hc k x hx⟩
def tokQ (x : Tok) : Value := .agg #[.int .i64 x.k, .string ⟨x.t.toArray⟩, .int .u64 (x.n : Int), .int .i64 x.p]
def tok0 : Tok := ⟨0, [], 0, 0⟩
/-- a token is that sign -/
def isG (x : Tok) (s : BA) : Bool := decide (x.k = 4) && decide ((⟨x.t.toArray⟩ : BA) = s)
theorem lists_eqB (a b : BA) : (a.toList == b.toList) = decide (a = b) := by
  by_cases h : a = b
  · subst h; simp
  · rw [decide_eq_false h, beq_eq_false_iff_ne]
    intro e
    apply h
    rw [ByteArray.toList_eq, ByteArray.toList_eq] at e
    exact bytes_eq e
theorem cells4 {W : World} {B : Nat} {T : TypeId} {z : Nat × Nat} {a b c d : Value} (h : W.heap[B]? = some (.cells #[a, b, c, d] T z)) : W.cell? ⟨B, 0, none⟩ = some a ∧ W.cell? ⟨B, 1, none⟩ = some b ∧ W.cell? ⟨B, 2, none⟩ = some c ∧ W.cell? ⟨B, 3, none⟩ = some d :=
  ⟨by rw [Lib.cell_of_heap h]; rfl, by rw [Lib.cell_of_heap h]; rfl, by rw [Lib.cell_of_heap h]; rfl, by rw [Lib.cell_of_heap h]; rfl⟩
set_option maxRecDepth 100000 in
set_option maxHeartbeats 4000000 in
theorem e_isSign_any (x : Tok) (s : BA) (w : World) :
    Calls Tryz.prog 56 #[tokQ x, .string s] w fun e w' => e = .returned (.bool (isG x s)) ∧ Below w.heap.size w w' := by
  obtain ⟨k, t, n, p⟩ := x
  unfold tokQ isG
  simp only
  generalize (⟨t.toArray⟩ : BA) = S
  rw [← lists_eqB]
  by_cases h : k = 4
  · subst h
    rw [decide_eq_true rfl, Bool.true_and]
    go_enter Tryz.func56, Tryz.ntmps56
    go_wp2_with fail
    go_ret
    exact ⟨rfl, below1 w _⟩
  · rw [decide_eq_false h, Bool.false_and]
    go_enter Tryz.func56, Tryz.ntmps56
    go_wp2_with fail
    go_ret
    exact ⟨rfl, below1 w _⟩
/-- the operator of so many terms whose sign a token is -/
def opOf (x : Tok) (n : Nat) : Option Nat := (List.range 15).find? fun k => decide (takesN (k : Int) = n) && isG x (signB k)
def opV (o : Option Nat) : Value := match o with
  | some k => .tuple #[.int .i64 (k : Int), .bool true]
  | none => .tuple #[.int .i64 0, .bool false]
/-- the cells of the variable of operators -/
def opsC : List Value := [.int .i64 0, .string ⟨#[]⟩, .int .i64 0, .int .i64 0, .string ⟨#[]⟩, .int .i64 0, .int .i64 0, .string ⟨#[]⟩, .int .i64 0, .int .i64 1, .string ⟨#[45]⟩, .int .i64 0, .int .i64 1, .string ⟨#[126]⟩, .int .i64 0, .int .i64 2, .string ⟨#[42]⟩, .int .i64 1, .int .i64 2, .string ⟨#[47]⟩, .int .i64 1, .int .i64 2, .string ⟨#[37]⟩, .int .i64 1, .int .i64 2, .string ⟨#[43]⟩, .int .i64 2, .int .i64 2, .string ⟨#[45]⟩, .int .i64 2, .int .i64 2, .string ⟨#[60, 60]⟩, .int .i64 3, .int .i64 2, .string ⟨#[62, 62]⟩, .int .i64 3, .int .i64 2, .string ⟨#[38]⟩, .int .i64 4, .int .i64 2, .string ⟨#[94]⟩, .int .i64 5, .int .i64 2, .string ⟨#[124]⟩, .int .i64 6]
theorem opsC_eq : opsC = (List.range 15).flatMap fun k => [.int .i64 ((takesN (k : Int) : Nat) : Int), .string (signB k), .int .i64 ((groupN k : Nat) : Int)] := by rfl
theorem ops_range {W : World} (h : GoodE W) : W.rangeAt 0 0 opsC := by
  intro j v hv
  rw [Nat.zero_add]
  have hj : j < 45 := by
    rcases Nat.lt_or_ge j 45 with h | h
    · exact h
    · rw [List.getElem?_eq_none (show opsC.length ≤ j from h)] at hv; cases hv
  obtain ⟨a, b, c⟩ := h.ops (j / 3) (by omega)
  have key : j = j / 3 * 3 ∨ j = j / 3 * 3 + 1 ∨ j = j / 3 * 3 + 2 := by omega
  have at3 : ∀ k : Fin 15, opsC[k.val * 3]? = some (.int .i64 ((takesN (k.val : Int) : Nat) : Int)) ∧ opsC[k.val * 3 + 1]? = some (.string (signB k.val)) ∧ opsC[k.val * 3 + 2]? = some (.int .i64 ((groupN k.val : Nat) : Int)) := by
    intro k; match k with
    | ⟨0, _⟩ => exact ⟨rfl, rfl, rfl⟩
    | ⟨1, _⟩ => exact ⟨rfl, rfl, rfl⟩
    | ⟨2, _⟩ => exact ⟨rfl, rfl, rfl⟩
    | ⟨3, _⟩ => exact ⟨rfl, rfl, rfl⟩
    | ⟨4, _⟩ => exact ⟨rfl, rfl, rfl⟩
    | ⟨5, _⟩ => exact ⟨rfl, rfl, rfl⟩
    | ⟨6, _⟩ => exact ⟨rfl, rfl, rfl⟩
    | ⟨7, _⟩ => exact ⟨rfl, rfl, rfl⟩
    | ⟨8, _⟩ => exact ⟨rfl, rfl, rfl⟩
    | ⟨9, _⟩ => exact ⟨rfl, rfl, rfl⟩
    | ⟨10, _⟩ => exact ⟨rfl, rfl, rfl⟩
    | ⟨11, _⟩ => exact ⟨rfl, rfl, rfl⟩
    | ⟨12, _⟩ => exact ⟨rfl, rfl, rfl⟩
    | ⟨13, _⟩ => exact ⟨rfl, rfl, rfl⟩
    | ⟨14, _⟩ => exact ⟨rfl, rfl, rfl⟩
  obtain ⟨a', b', c'⟩ := at3 ⟨j / 3, by omega⟩
  simp only at a' b' c'
  rcases key with e | e | e
  · rw [e] at hv ⊢; rw [a'] at hv; cases hv; exact a
  · rw [e] at hv ⊢; rw [b'] at hv; cases hv; exact b
  · rw [e] at hv ⊢; rw [c'] at hv; cases hv; exact c
theorem ops_index (W : World) (k : Nat) (hk : k < 15) : (Instr.index 77 (.agg opsC.toArray) (.int .i64 (k : Int))).run Tryz.prog W = .ok (.agg #[.int .i64 ((takesN (k : Int) : Nat) : Int), .string (signB k), .int .i64 ((groupN k : Nat) : Int)]) W := by
  have h : k = 0 ∨ k = 1 ∨ k = 2 ∨ k = 3 ∨ k = 4 ∨ k = 5 ∨ k = 6 ∨ k = 7 ∨ k = 8 ∨ k = 9 ∨ k = 10 ∨ k = 11 ∨ k = 12 ∨ k = 13 ∨ k = 14 := by omega
  rcases h with rfl | rfl | rfl | rfl | rfl | rfl | rfl | rfl | rfl | rfl | rfl | rfl | rfl | rfl | rfl
  all_goals (show _ = _; kernel_rfl)
set_option maxRecDepth 100000 in
set_option maxHeartbeats 16000000 in
theorem opOf_any (x : Tok) (n : Nat) (w : World) (hG : GoodE w) :
    Calls Tryz.prog 36 #[tokQ x, .int .i64 (n : Int)] w fun e w' => e = .returned (opV (opOf x n)) ∧ Below w.heap.size w w' := by
  have SG := Lib.hid (fun S V => e_isSign_any x S V)
  have HIT := Lib.hid (fun (k : Nat) (hk : k < 15) (h : ∀ j : Nat, j < k → (decide (takesN (j : Int) = n) && isG x (signB j)) = false) (hp : (decide (takesN (k : Int) = n) && isG x (signB k)) = true) => show opOf x n = some k from List.find?_range_eq_some.2 ⟨hp, List.mem_range.2 hk, fun j hj => by rw [h j hj]; rfl⟩)
  have MISS := Lib.hid (fun (h : ∀ j : Nat, j < 15 → (decide (takesN (j : Int) = n) && isG x (signB j)) = false) => show opOf x n = none from List.find?_range_eq_none.2 fun j hj => by rw [h j hj]; rfl)
  generalize opOf x n = R at *
  obtain ⟨M, hM⟩ : ∃ M : Nat → Bool, M = fun j => isG x (signB j) := ⟨_, rfl⟩
  have hMj : ∀ j, isG x (signB j) = M j := fun j => by rw [hM]
  have SG2 := Lib.hid (fun j V => e_isSign_any x (signB j) V)
  simp only [hMj] at HIT MISS SG2
  clear hMj hM SG
  obtain ⟨k, t, m, p⟩ := x
  unfold tokQ at *
  simp only at SG2 ⊢
  generalize (⟨t.toArray⟩ : BA) = S at *
  have HR := Lib.hid (ops_range (hG.thn (below1 w (.cells #[.int .i64 k, .string S, .int .u64 (m : Int), .int .i64 p] 62))))
  have OI := Lib.hid ops_index
  have HL := Lib.hid (show opsC.length = 45 from rfl)
  generalize opsC = C at *
  clear hG
  go_enter Tryz.func36, Tryz.ntmps36
  go_upto_region 1 with fail
  refine wp_region_lit ?_
  refine wpList_load_mid rfl 77 (.global 0) rfl 0 0 rfl C (.array 15 76) HR.out (by kernel_rfl) (by rfl) (by rw [HL.out]; kernel_rfl) ?_
  go_wp2_with fail
  have BX := Lib.hid (heap_alloc_new w (.cells #[.int .i64 k, .string S, .int .u64 (m : Int), .int .i64 p] 62))
  have HB := Lib.hid (below1 w (.cells #[.int .i64 k, .string S, .int .u64 (m : Int), .int .i64 p] 62))
  generalize w.alloc (.cells #[.int .i64 k, .string S, .int .u64 (m : Int), .int .i64 p] 62) = W0 at *
  go_loopw [9] (fun iv wr => ∃ j : Nat, j ≤ 15 ∧ iv = .int .i64 (j : Int) ∧ Hid (∀ i, i < j → (decide (takesN (i : Int) = n) && M i) = false) ∧ Hid (wr.heap[w.heap.size]? = some (.cells #[.int .i64 k, .string S, .int .u64 (m : Int), .int .i64 p] 62 (0, 0))) ∧ Below w.heap.size w wr) (fun iv _ => 15 - (intOf iv).toNat)
  case atStart => exact ⟨0, by omega, rfl, Lib.hid (fun i hi => absurd hi (by omega)), BX, HB.out⟩
  case round =>
    obtain ⟨j, hj, rfl, hno, hbx, hbr⟩ := hrel
    by_cases hlt : (j : Int) < 15
    · have hj15 : j < 15 := by omega
      have hix := fun W => OI.out W j hj15
      have w9 : IntKind.i64.wrap ((j : Int) + 1) = ((j + 1 : Nat) : Int) := by rw [IntWalk.i64_in _ (by omega)]; omega
      have SJ := Lib.hid (fun V => SG2.out j V)
      have HJ := Lib.hid (HIT.out j hj15 hno.out)
      have NX := Lib.hid (fun (h : (decide (takesN (j : Int) = n) && M j) = false) => show ∀ i, i < j + 1 → (decide (takesN (i : Int) = n) && M i) = false from fun i hi => by
        rcases Nat.lt_or_ge i j with g | g
        · exact hno.out i g
        · obtain rfl : i = j := by omega
          exact h)
      have HBR := Lib.hid hbr
      generalize takesN (j : Int) = tk at *
      generalize signB j = sg at *
      generalize groupN j = gr at *
      generalize M j = mj at *
      have hb1 := block_kept (below1 wr (.cells #[.int .i64 (tk : Int), .string sg, .int .i64 (gr : Int)] 76)) hbx.out
      obtain ⟨t0, t1, t2, t3⟩ := cells4 hb1
      have HB1 := Lib.hid hb1
      clear hb1 hbr hbx
      by_cases ht : tk = n
      · subst ht
        go_wp2_with fail
        refine (SJ.out _).mono ?_
        rintro e w1 ⟨rfl, hb⟩
        have HB2 := Lib.hid (Below.thn (HBR.out.alloc HBR.out.size (.cells #[.int .i64 (tk : Int), .string sg, .int .i64 (gr : Int)] 76)) (by simp; have := HBR.out.size; omega) hb)
        have HX2 := Lib.hid (block_kept hb HB1.out)
        clear hb t0 t1 t2 t3
        cases mj with
        | true =>
          go_wp2_with fail
          go_ret2
          exact ⟨by rw [HJ.out (by simp)]; rfl, HB2.out⟩
        | false =>
          go_wp2_with fail
          go_roundw
          case rel => exact ⟨j + 1, by omega, by first | rfl | rw [← w9], Lib.hid (NX.out (by simp)), HX2, HB2.out⟩
          case measure => simp [intOf]; omega
      · have ht' : ((tk : Int) == (n : Int)) = false := by rw [beq_eq_false_iff_ne]; omega
        have HB2 := Lib.hid (HBR.out.alloc HBR.out.size (.cells #[.int .i64 (tk : Int), .string sg, .int .i64 (gr : Int)] 76))
        go_wp2_with fail
        go_roundw
        case rel => exact ⟨j + 1, by omega, by first | rfl | rw [← w9], Lib.hid (NX.out (by rw [decide_eq_false ht]; rfl)), HB1, HB2.out⟩
        case measure => simp [intOf]; omega
    · obtain rfl : j = 15 := by omega
      have HN := Lib.hid (MISS.out hno.out)
      clear hno
      go_wp2_with fail
      go_ret2
      exact ⟨by rw [HN.out]; rfl, hbr⟩
end Go.Proofs.YtdkflmpdelfgoaaGreatDoor
