/-
  begun, few: what each call returns. Conditions: how the object lies.
-/
import Derived.Test.YtopghgoheaaceaaObjP
namespace Go.Proofs.Ytopghgoheaaceaa
open Go.RowKit
set_option linter.unusedVariables false
set_option linter.unusedSimpArgs false

theorem flat_at {α : Type} (n : Nat) : ∀ (C : List (List α)), (∀ x ∈ C, x.length = n) → ∀ (k : Nat) x (j : Nat) y, C[k]? = some x → x[j]? = some y → C.flatten[k * n + j]? = some y
  | [], _, k, x, j, y, h, _ => by simp at h
  | a :: C, hn, 0, x, j, y, h, hj => by
    simp only [List.getElem?_cons_zero, Option.some.injEq] at h
    subst h
    rw [List.flatten_cons, Nat.zero_mul, Nat.zero_add, List.getElem?_append_left (List.getElem?_eq_some_iff.1 hj).1]
    exact hj
  | a :: C, hn, k + 1, x, j, y, h, hj => by
    have ha := hn a List.mem_cons_self
    rw [List.getElem?_cons_succ] at h
    have := flat_at n C (fun z hz => hn z (List.mem_cons_of_mem _ hz)) k x j y h hj
    rw [List.flatten_cons, List.getElem?_append_right (by rw [ha, Nat.succ_mul]; omega), ha, show (k + 1) * n + j - n = k * n + j by rw [Nat.succ_mul]; omega]
    exact this
theorem rows_lit {n : Nat} {W : World} {g : Nat} {C : List (List Value)} {T : TypeId} {z : Nat × Nat} (hC : ∀ x ∈ C, x.length = n) (h : W.heap[g]? = some (.cells C.flatten.toArray T z)) (hl : C.length ≤ maxLen) :
    RowsO n W (.slice (some ⟨g, 0, none⟩) C.length C.length) C := by
  refine .inr ⟨g, 0, _, rfl, Nat.le_refl _, hl, (Array.getElem?_eq_some_iff.1 h).1, fun k x hx j y hy => ?_⟩
  rw [Lib.cell_of_heap h, Nat.zero_add]
  have := flat_at n C hC k x j y hx hy
  simpa using this
theorem rows_nil {n : Nat} {W : World} : RowsO n W (.slice none 0 0) [] := .inl ⟨.inl rfl, rfl⟩
theorem few_any (o : Obj') (w : World) (ho : ObjO w o) :
    Calls Try.prog 13 #[obV o] w fun e w' => e = .returned (.bool (decide ((o.secs.length : Int) ≤ 80) && decide ((o.syms.length : Int) ≤ 300))) ∧ Below w.heap.size w w' := by
  obtain ⟨sv, yv, secs, syms⟩ := o
  obtain ⟨sa, sc, h1⟩ := ho.1.slice
  obtain ⟨ya, yc, h2⟩ := ho.2.slice
  simp only at h1 h2
  subst h1 h2
  clear ho
  unfold obV
  simp only
  by_cases h : (secs.length : Int) ≤ 80
  · rw [decide_eq_true h, Bool.true_and]
    go_enter Try.func13, Try.ntmps13
    go_wp2_with fail
    go_ret
    exact ⟨rfl, below1 w _⟩
  · rw [decide_eq_false h, Bool.false_and]
    replace h := decide_eq_false h
    go_enter Try.func13, Try.ntmps13
    go_wp2_with fail
    go_ret
    exact ⟨rfl, below1 w _⟩
theorem six_new (w : World) (o1 o2 o3 o4 o5 o6 : Obj) (W : World) (hW : (((((w.alloc o1).alloc o2).alloc o3).alloc o4).alloc o5).alloc o6 = W) :
    W.heap[w.heap.size]? = some o1 ∧ W.heap[w.heap.size + 1]? = some o2 ∧ W.heap[w.heap.size + 1 + 1]? = some o3 ∧ W.heap[w.heap.size + 1 + 1 + 1]? = some o4 ∧ W.heap[w.heap.size + 1 + 1 + 1 + 1]? = some o5 ∧ W.heap[w.heap.size + 1 + 1 + 1 + 1 + 1]? = some o6 ∧ W.heap.size = w.heap.size + 6 ∧ Below w.heap.size w W := by
  subst hW
  refine ⟨?_, ?_, ?_, ?_, ?_, ?_, by simp, ?_⟩
  · repeat rw [Below.heap_alloc _ _ _ (by simp only [World.size_alloc]; omega)]
    exact World.alloc_heap_new w _
  · iterate 4 rw [Below.heap_alloc _ _ _ (by simp only [World.size_alloc]; omega)]
    have := World.alloc_heap_new (w.alloc o1) o2
    simpa only [World.size_alloc] using this
  · iterate 3 rw [Below.heap_alloc _ _ _ (by simp only [World.size_alloc]; omega)]
    have := World.alloc_heap_new ((w.alloc o1).alloc o2) o3
    simpa only [World.size_alloc] using this
  · iterate 2 rw [Below.heap_alloc _ _ _ (by simp only [World.size_alloc]; omega)]
    have := World.alloc_heap_new (((w.alloc o1).alloc o2).alloc o3) o4
    simpa only [World.size_alloc] using this
  · rw [Below.heap_alloc _ _ _ (by simp only [World.size_alloc]; omega)]
    have := World.alloc_heap_new ((((w.alloc o1).alloc o2).alloc o3).alloc o4) o5
    simpa only [World.size_alloc] using this
  · have := World.alloc_heap_new (((((w.alloc o1).alloc o2).alloc o3).alloc o4).alloc o5) o6
    simpa only [World.size_alloc] using this
  · exact (((((below1 w o1).alloc (by simp) _).alloc (by simp only [World.size_alloc]; omega) _).alloc (by simp only [World.size_alloc]; omega) _).alloc (by simp only [World.size_alloc]; omega) _).alloc (by simp only [World.size_alloc]; omega) _
theorem begun_ok (dv rv sv yv : Value) : checkB ⟨sv, yv, [⟨textB, 1, 4, 4, dv, rv, [1, 2, 3, 4], [⟨0, 283, 0, 0⟩]⟩], [⟨⟨#[102]⟩, -1, 0, true⟩]⟩ = true := by kernel_rfl
theorem begun_bad (dv rv sv yv : Value) : checkB ⟨sv, yv, [⟨textB, 1, 4, 4, dv, rv, [1, 2, 3, 4], [⟨0, 283, 0, 0⟩]⟩], []⟩ = false := by kernel_rfl
theorem kind_hot : kindB ⟨#[46, 116, 101, 120, 116, 46, 104, 111, 116]⟩ = 1 := by kernel_rfl
theorem kind_ual : kindB ⟨#[46, 116, 101, 120, 116, 117, 97, 108]⟩ = 2 := by kernel_rfl
set_option maxRecDepth 100000 in
set_option maxHeartbeats 2000000 in
theorem begun_any (w : World) : Calls Try.prog 8 #[] w fun e w' => e = .returned (.bool true) ∧ Below w.heap.size w w' := by
  have K1 := Lib.hid (fun W => kind_any ⟨#[46, 116, 101, 120, 116, 46, 104, 111, 116]⟩ W (by decide))
  have K2 := Lib.hid (fun W => kind_any ⟨#[46, 116, 101, 120, 116, 117, 97, 108]⟩ W (by decide))
  have K3 := Lib.hid (fun W => width_any 283 W)
  rw [kind_hot] at K1
  rw [kind_ual] at K2
  rw [show widthB 283 = 4 from rfl] at K3
  go_enter Try.func8, Try.ntmps8
  go_wp2_with fail
  generalize hW6 : ((((((w.alloc (.cells #[.int .u8 1, .int .u8 2, .int .u8 3, .int .u8 4] 5)).alloc (.cells #[.int .i64 0, .int .i64 283, .int .i64 0, .int .i64 0] 42)).alloc (.cells #[.string ⟨#[46, 116, 101, 120, 116]⟩, .int .i64 1, .int .i64 4, .int .i64 4, .slice (some ⟨w.heap.size, 0, none⟩) 4 4, .slice (some ⟨w.heap.size + 1, 0, none⟩) 1 1] 40)).alloc (.cells #[.string ⟨#[102]⟩, .int .i64 (-1), .int .i64 0, .bool true] 36)).alloc (.cells #[.slice (some ⟨w.heap.size + 1 + 1, 0, none⟩) 1 1, .slice (some ⟨w.heap.size + 1 + 1 + 1, 0, none⟩) 1 1] 25)).alloc (.cells #[.slice (some ⟨w.heap.size + 1 + 1, 0, none⟩) 1 1, .slice none 0 0] 25)) = W6
  obtain ⟨b0, b1, b2, b3, b4, b5, hz, hB⟩ := six_new w _ _ _ _ _ _ W6 hW6
  clear hW6
  have hin : ScIn W6 ⟨textB, 1, 4, 4, .slice (some ⟨w.heap.size, 0, none⟩) 4 4, .slice (some ⟨w.heap.size + 1, 0, none⟩) 1 1, [1, 2, 3, 4], [⟨0, 283, 0, 0⟩]⟩ :=
    ⟨rows_lit (C := [[.int .u8 1], [.int .u8 2], [.int .u8 3], [.int .u8 4]]) (by simp) b0 (by decide), rows_lit (C := [[.int .i64 0, .int .i64 283, .int .i64 0, .int .i64 0]]) (by simp) b1 (by decide)⟩
  have hS : SecsO W6 (.slice (some ⟨w.heap.size + 1 + 1, 0, none⟩) 1 1) [⟨textB, 1, 4, 4, .slice (some ⟨w.heap.size, 0, none⟩) 4 4, .slice (some ⟨w.heap.size + 1, 0, none⟩) 1 1, [1, 2, 3, 4], [⟨0, 283, 0, 0⟩]⟩] :=
    ⟨rows_lit (C := [[.string textB, .int .i64 1, .int .i64 4, .int .i64 4, .slice (some ⟨w.heap.size, 0, none⟩) 4 4, .slice (some ⟨w.heap.size + 1, 0, none⟩) 1 1]]) (by simp) b2 (by show 1 ≤ maxLen; decide), fun s hs => by rw [List.mem_singleton.1 hs]; exact hin⟩
  have hY : SymsO W6 (.slice (some ⟨w.heap.size + 1 + 1 + 1, 0, none⟩) 1 1) [⟨⟨#[102]⟩, -1, 0, true⟩] := rows_lit (C := [[.string ⟨#[102]⟩, .int .i64 (-1), .int .i64 0, .bool true]]) (by simp) b3 (by decide)
  have C1 := Lib.hid (fun W (hb : Below W6.heap.size W6 W) => check_any ⟨_, _, _, _⟩ W (ObjO.keep ⟨hS, hY⟩ hb) ⟨fun s hs => by rw [List.mem_singleton.1 hs]; show (5 : Nat) ≤ _; decide, fun y hy => by rw [List.mem_singleton.1 hy]; show (1 : Nat) ≤ _; decide⟩)
  have C2 := Lib.hid (fun W (hb : Below W6.heap.size W6 W) => check_any ⟨_, .slice none 0 0, _, []⟩ W (ObjO.keep ⟨hS, rows_nil⟩ hb) ⟨fun s hs => by rw [List.mem_singleton.1 hs]; show (5 : Nat) ≤ _; decide, fun y hy => by cases hy⟩)
  rw [begun_ok] at C1
  rw [begun_bad] at C2
  have e0 : W6.cell? ⟨w.heap.size + 1 + 1 + 1 + 1, 0, none⟩ = some (.slice (some ⟨w.heap.size + 1 + 1, 0, none⟩) 1 1) := by rw [Lib.cell_of_heap b4]; rfl
  have e1 : W6.cell? ⟨w.heap.size + 1 + 1 + 1 + 1, 1, none⟩ = some (.slice (some ⟨w.heap.size + 1 + 1 + 1, 0, none⟩) 1 1) := by rw [Lib.cell_of_heap b4]; rfl
  have e2 : W6.cell? ⟨w.heap.size + 1 + 1 + 1 + 1 + 1, 0, none⟩ = some (.slice (some ⟨w.heap.size + 1 + 1, 0, none⟩) 1 1) := by rw [Lib.cell_of_heap b5]; rfl
  have e3 : W6.cell? ⟨w.heap.size + 1 + 1 + 1 + 1 + 1, 1, none⟩ = some (.slice none 0 0) := by rw [Lib.cell_of_heap b5]; rfl
  have HB := Lib.hid hB
  have hz6 : w.heap.size + 1 + 1 + 1 + 1 + 1 < W6.heap.size := by omega
  clear hS hY hin b0 b1 b2 b3 b4 b5 hz hB
  refine (K1.out _).mono ?_
  rintro e w1 ⟨rfl, rfl⟩
  go_wp2_with fail
  refine (K2.out _).mono ?_
  rintro e w1 ⟨rfl, rfl⟩
  go_wp2_with fail
  refine (K3.out _).mono ?_
  rintro e w1 ⟨rfl, rfl⟩
  go_wp2_with fail
  refine (C1.out _ (Below.refl _ _)).mono ?_
  rintro e w1 ⟨rfl, hb1⟩
  have HB1 := Lib.hid hb1
  have e2 := ((bcell hb1).1 _ _ hz6).trans e2
  have e3 := ((bcell hb1).1 _ _ hz6).trans e3
  clear hb1 e0 e1
  unfold errI
  go_wp2_with fail
  refine (C2.out _ HB1.out).mono ?_
  rintro e w2 ⟨rfl, hb2⟩
  have HB2 := Lib.hid (Below.thn HB.out HB.out.size (Below.thn HB1.out HB1.out.size hb2))
  clear hb2
  unfold errI
  go_wp2_with fail
  go_ret
  exact ⟨rfl, HB2.out⟩
end Go.Proofs.Ytopghgoheaaceaa
