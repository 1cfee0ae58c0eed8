/-
  An argument that is a slice of bytes, opened.
-/
import Derived.Test.YtjkhgljlipljdaaDoorOneA
import Derived.Test.YtjkhgljlipljdaaDoorFixOpen
namespace Go.Proofs.YtjkhgljlipljdaaDoor
open Go.ChangeShapes Go.WideShapes Go.ChangeAt Go.RowKit Go.Deep
variable {H : Type} {enc : TypeId × Value → H} {w : World} {base : Nat} {spare : Nat → Bool} {held : Bool}
theorem cU8 : Tryd.prog.cellsOf 5 = 1 := by kernel_rfl
def byC (b : Int) : List Value := [.int .u8 b]
theorem u8_elem {fuel : Nat} {cs : List Value} {x : DataW H × List MemPlace} (h : DataW.trod enc Tryd.prog w base spare held fuel 5 cs = some x) : ∃ a : Int, cs = byC a ∧ (0 ≤ a ∧ a < 256) := by
  obtain ⟨a, e, _, hw⟩ := DataW.trod_int Tryd.underlying5 h
  exact ⟨a, e, by simp [Lit.wf, IntKind.min, IntKind.max, IntKind.bits, IntKind.signed] at hw; omega⟩
theorem bys_open {fuel : Nat} {v : Value} {x : DataW H × List MemPlace} (h : DataW.trod enc Tryd.prog w base spare held fuel 53 [v] = some x) : ∃ (a : Option Addr) (len cap : Nat), v = .slice a len cap ∧ BysO w a len := by
  obtain ⟨L, hL, hb⟩ := rows_open (n := 1) Tryd.underlying53 cU8 (by decide) byC (fun _ => rfl) (fun a _ => 0 ≤ a ∧ a < 256) (fun h => u8_elem h) h
  rcases hL with ⟨h0, hC⟩ | ⟨g, off, cap, h1, _, _, _, h3⟩
  · rcases h0 with rfl | ⟨a, c, rfl⟩
    · exact ⟨none, 0, 0, rfl, 0, 0, .inl rfl, fun j hj => absurd hj (by omega)⟩
    · exact ⟨some a, 0, c, rfl, 0, 0, .inl rfl, fun j hj => absurd hj (by omega)⟩
  · refine ⟨some ⟨g, off, none⟩, _, cap, h1, g, off, .inr rfl, fun j hj => ?_⟩
    rw [List.length_map] at hj
    have hy := hb L[j] (List.getElem_mem hj)
    refine ⟨L[j], hy.choose_spec.1.1, hy.choose_spec.1.2, ?_⟩
    have := h3 j (byC L[j]) (by simp [hj]) 0 (.int .u8 L[j]) rfl
    simpa using this
end Go.Proofs.YtjkhgljlipljdaaDoor
