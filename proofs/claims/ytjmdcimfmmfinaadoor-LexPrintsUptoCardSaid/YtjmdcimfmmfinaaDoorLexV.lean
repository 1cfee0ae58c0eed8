/-
  begun, Tokens: what each call returns. Conditions: what the variables of the library hold (Good).
-/
import Derived.Test.YtjmdcimfmmfinaaDoorLexT
import Derived.Test.YtjmdcimfmmfinaaDoorLexU
namespace Go.Proofs.YtjmdcimfmmfinaaDoor
open Go.RowKit Go.Shelf
attribute [local go_sem] Oper.semAt_some

def begunL : Bs := [108, 100, 114, 32, 120, 48, 44, 32, 91, 120, 49, 44, 32, 35, 48, 120, 49, 48, 93, 33]
def begunT : List Tok := [⟨1, [108, 100, 114], 0, 0⟩, ⟨1, [120, 48], 0, 4⟩, ⟨4, [44], 0, 6⟩, ⟨4, [91], 0, 8⟩, ⟨1, [120, 49], 0, 9⟩, ⟨4, [44], 0, 11⟩, ⟨4, [35], 0, 13⟩, ⟨2, [], 16, 14⟩, ⟨4, [93], 0, 18⟩, ⟨4, [33], 0, 19⟩]
theorem begun_lex : lexB begunL = (begunT, 20, 0) := by kernel_rfl
theorem tokens_any (line : ByteArray) (w : World) :
    Calls Tryd.prog 15 #[.string line] w fun e w' => e = .returned (.func (.func 32) #[] #[.pointer (some ⟨w.heap.size, 0, none⟩)]) ∧ w' = w.alloc (.cells #[.string line] 9) := by
  go_enter Tryd.func15, Tryd.ntmps15
  go_wp2
  go_ret
  exact ⟨rfl, rfl⟩
set_option maxRecDepth 100000 in
set_option maxHeartbeats 2000000 in
theorem begun_any (w : World) (hG : Good w) :
    Calls Tryd.prog 12 #[] w fun e w' => e = .returned (.bool true) ∧ Below w.heap.size w w' := by
  have HL : Hid (Calls Tryd.prog 9 #[.string ⟨#[108, 100, 114, 32, 120, 48, 44, 32, 91, 120, 49, 44, 32, 35, 48, 120, 49, 48, 93, 33]⟩] w fun e w' => (∃ v, e = .returned (.tuple #[v, .int .i64 20, .int .i64 0]) ∧ TokS w' v begunT) ∧ Below w.heap.size w w') := Lib.hid (by
    refine (lex_any ⟨begunL.toArray⟩ w hG (by unfold maxLen; decide)).mono ?_
    rintro e w1 ⟨⟨v, rfl, hown⟩, hb⟩
    rw [show lexB _ = (begunT, 20, 0) from begun_lex] at hown ⊢
    exact ⟨⟨v, rfl, toks_of_own hown⟩, hb⟩)
  go_enter Tryd.func12, Tryd.ntmps12
  go_wp2_with fail
  refine (HL.out).mono ?_
  rintro e w1 ⟨⟨v, rfl, hT⟩, hb⟩
  obtain ⟨g, cap, x, hx, rfl, x1, x2, x3, x4⟩ := toks_at hT (k := 0) (by decide)
  obtain ⟨g', cap', y, hy, hv, y1, y2, y3, y4⟩ := toks_at hT (k := 7) (by decide)
  cases hx
  cases hy
  cases hv
  have HB := Lib.hid hb
  have h10 : begunT.length = 10 := rfl
  rw [h10]
  clear hT HL hG hb
  go_wp2_with fail
  go_ret
  exact ⟨rfl, HB.out⟩
end Go.Proofs.YtjmdcimfmmfinaaDoor
