/-
  Fill returns OK wherever a number that fits is filled into as many bytes as the hole has.
-/
import Derived.Test.YtjkhgljlipljdaaDoorEncU
namespace Go.Proofs.YtjkhgljlipljdaaDoor
open Go.RowKit
set_option linter.unusedVariables false
set_option linter.unusedSimpArgs false
/-- bytes lie there -/
def BysO (W : World) (a : Option Addr) (len : Nat) : Prop := ∃ g off, (len = 0 ∨ a = some ⟨g, off, none⟩) ∧ ∀ j, j < len → ∃ x : Int, 0 ≤ x ∧ x < 256 ∧ W.cell? ⟨g, off + j, none⟩ = some (.int .u8 x)
theorem BysO.keep {W W' : World} {a : Option Addr} {len : Nat} (h : BysO W a len) (hb : Below W.heap.size W W') : BysO W' a len := by
  obtain ⟨g, off, h0, h1⟩ := h
  exact ⟨g, off, h0, fun j hj => by obtain ⟨x, a, b, c⟩ := h1 j hj; exact ⟨x, a, b, cell_kept hb c⟩⟩
theorem far_t {k s : Int} (hok : holeOk k s = true) (hf : filledB (shR k s) = true) : ((shR k s).t = 1 ∨ (shR k s).t = 4) ∧ (shR k s).w ≤ 8 := by
  obtain ⟨⟨K, S⟩, hx, rfl, rfl⟩ := holes_all hok
  simp only [holesL, List.mem_cons, Prod.mk.injEq, List.not_mem_nil, or_false] at hx
  rcases hx with ⟨rfl, rfl⟩ | ⟨rfl, rfl⟩ | ⟨rfl, rfl⟩ | ⟨rfl, rfl⟩ | ⟨rfl, rfl⟩ | ⟨rfl, rfl⟩ | ⟨rfl, rfl⟩ | ⟨rfl, rfl⟩ | ⟨rfl, rfl⟩ | ⟨rfl, rfl⟩ | ⟨rfl, rfl⟩ | ⟨rfl, rfl⟩ | ⟨rfl, rfl⟩ | ⟨rfl, rfl⟩ | ⟨rfl, rfl⟩
  all_goals first
    | exact absurd hf (by decide)
    | exact ⟨by decide, by decide⟩
theorem fill_ok (h : Hl) (v : Int) (hv : -9223372036854775808 ≤ v ∧ v ≤ 9223372036854775807) (a : Option Addr) (len cap : Nat) (w : World) (hG : Gd w) (hI : GI w) (hB : BysO w a len)
    (hok : holeOk h.k h.s = true) (hl : (len : Int) = (shR h.k h.s).w) (hf : filledB (shR h.k h.s) = true) (hfit : fitsB (shR h.k h.s) v = true) :
    Calls Tryd.prog 24 #[.slice a len cap, hlV h, .int .i64 v] w fun e w' => (∃ u, e = .returned (.tuple #[u, .int .i64 0])) ∧ Below w.heap.size w w' := by
  have hin : inOk h.k h.s len = true := by simp [inOk, hok, hl]
  obtain ⟨ht, h8⟩ := far_t hok hf
  cases hn : nearB (shR h.k h.s) with
  | false => exact (fill_low h v hv a len cap w hG hin hf ht hfit hn (by omega)).mono fun e w' ⟨B, he, _, _, hb⟩ => ⟨⟨_, he⟩, hb⟩
  | true =>
    obtain ⟨hbr, h4, ht', _, hsf⟩ := near_facts hok hn
    obtain rfl : len = 4 := by omega
    obtain ⟨g, off, h0, h1⟩ := hB
    obtain rfl : a = some ⟨g, off, none⟩ := by rcases h0 with h0 | h0; omega; exact h0
    obtain ⟨x0, a0, b0, c0⟩ := h1 0 (by decide)
    obtain ⟨x1, a1, b1, c1⟩ := h1 1 (by decide)
    obtain ⟨x2, a2, b2, c2⟩ := h1 2 (by decide)
    obtain ⟨x3, a3, b3, c3⟩ := h1 3 (by decide)
    have hw := w4I_bd a0 b0 a1 b1 a2 b2 a3 b3
    rcases ht' with ht' | ht'
    · exact (fill_near4 h v hv g off cap x0 x1 x2 x3 w hG hI a0 b0 a1 b1 a2 b2 a3 b3 c0 c1 c2 c3 hin hf ht' hfit hn hbr (hsf v hfit) (setN_bd _ _ _ hw.1 hw.2)).mono fun e w' ⟨B, he, _, _, hb⟩ => ⟨⟨_, he⟩, hb⟩
    · exact (fill_near1 h v hv g off cap x0 x1 x2 x3 w hG hI a0 b0 a1 b1 a2 b2 a3 b3 c0 c1 c2 c3 hin hf ht' hfit hn hbr (hsf v hfit) (setN_bd _ _ _ hw.1 hw.2)).mono fun e w' ⟨B, he, _, _, hb⟩ => ⟨⟨_, he⟩, hb⟩
end Go.Proofs.YtjkhgljlipljdaaDoor
