/-
  The document's Word and Bytes, and bytes.Equal at four bytes. No conditions beyond those that each lemma states.
-/
import Derived.Test.YtfpaambihjijoaaDoorBitsW
import Derived.Test.YtfpaambihjijoaaDoorRunsDoor
import Derived.Laws.BytesArg
namespace Go.Proofs.YtfpaambihjijoaaDoor
open Go.RowKit BM
set_option linter.unusedVariables false

set_option maxHeartbeats 400000 in
theorem rbytes_any (x : Int) (w : World) (b1 : 0 ≤ x) (b2 : x < 4294967296) :
    Calls Tryd.prog 13 #[.int .u32 x] w fun e w' => e = .returned (.slice (some ⟨w.heap.size, 0, none⟩) 4 4) ∧
      w.alloc (.cells #[.int .u8 (x % 256), .int .u8 (x / 256 % 256), .int .u8 (x / 65536 % 256), .int .u8 (x / 16777216)] 5) = w' := by
  go_enter Tryd.func13, Tryd.ntmps13
  go_wp2
  go_ret
  exact ⟨rfl, rfl⟩
set_option maxHeartbeats 400000 in
theorem rword_no (a : Option Addr) (len cap : Nat) (w : World) (h : len ≠ 4) :
    Calls Tryd.prog 7 #[.slice a len cap] w fun e w' => e = .returned (.tuple #[.int .u32 0, .int .i64 3]) ∧ w = w' := by
  have h' : ((len : Int) != 4) = true := by rw [bne_iff_ne]; omega
  clear h
  go_enter Tryd.func7, Tryd.ntmps7
  go_wp2
  go_ret2
  exact ⟨rfl, rfl⟩
set_option maxHeartbeats 1000000 in
theorem rword_any (x0 x1 x2 x3 : Int) (b off cap : Nat) (w : World) (a0 : 0 ≤ x0) (b0 : x0 < 256) (a1 : 0 ≤ x1) (b1 : x1 < 256) (a2 : 0 ≤ x2) (b2 : x2 < 256) (a3 : 0 ≤ x3) (b3 : x3 < 256)
    (c0 : w.cell? ⟨b, off, none⟩ = some (.int .u8 x0)) (c1 : w.cell? ⟨b, off + 1, none⟩ = some (.int .u8 x1)) (c2 : w.cell? ⟨b, off + 2, none⟩ = some (.int .u8 x2)) (c3 : w.cell? ⟨b, off + 3, none⟩ = some (.int .u8 x3)) :
    Calls Tryd.prog 7 #[.slice (some ⟨b, off, none⟩) 4 cap] w fun e w' => e = .returned (.tuple #[.int .u32 (wordI x0 x1 x2 x3), .int .i64 0]) ∧ Below w.heap.size w w' := by
  go_enter Tryd.func7, Tryd.ntmps7
  go_wp2_with fail
  go_quiet (fail)
  go_wp2
  go_ret2
  exact ⟨rfl, below_drewN (Below.refl _ _) _⟩
set_option maxHeartbeats 1000000 in
theorem equal_four (x0 x1 x2 x3 : Int) (b c : Nat) (w : World) (h0 : 0 ≤ x0) (k0 : x0 < 256) (h1 : 0 ≤ x1) (k1 : x1 < 256) (h2 : 0 ≤ x2) (k2 : x2 < 256) (h3 : 0 ≤ x3) (k3 : x3 < 256)
    (c0 : w.cell? ⟨b, 0, none⟩ = some (.int .u8 x0)) (c1 : w.cell? ⟨b, 1, none⟩ = some (.int .u8 x1)) (c2 : w.cell? ⟨b, 2, none⟩ = some (.int .u8 x2)) (c3 : w.cell? ⟨b, 3, none⟩ = some (.int .u8 x3))
    (d0 : w.cell? ⟨c, 0, none⟩ = some (.int .u8 x0)) (d1 : w.cell? ⟨c, 1, none⟩ = some (.int .u8 x1)) (d2 : w.cell? ⟨c, 2, none⟩ = some (.int .u8 x2)) (d3 : w.cell? ⟨c, 3, none⟩ = some (.int .u8 x3)) :
    Calls Tryd.prog 11 #[.slice (some ⟨b, 0, none⟩) 4 4, .slice (some ⟨c, 0, none⟩) 4 4] w fun e w' => e = .returned (.bool true) ∧ w = w' := by
  have S1 : Sem.run Tryd.prog (convert 23 9 (.slice (some ⟨b, 0, none⟩) 4 4)) w = .ok (.string (strOfNums [x0, x1, x2, x3])) w := run_convert_bytes_arg (P := Tryd.prog) w 23 5 Tryd.underlying23 Tryd.underlying5 b 0 4 4 [x0, x1, x2, x3] rfl (by
    intro i hi
    match i, hi with
    | 0, _ => simpa using c0
    | 1, _ => simpa using c1
    | 2, _ => simpa using c2
    | 3, _ => simpa using c3) 9 Tryd.underlying9
  have S2 : Sem.run Tryd.prog (convert 23 9 (.slice (some ⟨c, 0, none⟩) 4 4)) w = .ok (.string (strOfNums [x0, x1, x2, x3])) w := run_convert_bytes_arg (P := Tryd.prog) w 23 5 Tryd.underlying23 Tryd.underlying5 c 0 4 4 [x0, x1, x2, x3] rfl (by
    intro i hi
    match i, hi with
    | 0, _ => simpa using d0
    | 1, _ => simpa using d1
    | 2, _ => simpa using d2
    | 3, _ => simpa using d3) 9 Tryd.underlying9
  go_enter Tryd.func11, Tryd.ntmps11
  go_wp2
  go_ret
  exact ⟨rfl, rfl⟩
end Go.Proofs.YtfpaambihjijoaaDoor
