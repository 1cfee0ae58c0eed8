/-
  hasSymbols, divided, shifted, number: what each call returns. Conditions: none.
-/
import Derived.Test.YtdkflmpdelfgoaaGreatDoorExprC
namespace Go.Proofs.YtdkflmpdelfgoaaGreatDoor
open Go.RowKit Go.Shelf
set_option linter.unusedVariables false
attribute [local go_sem] Oper.semAt_some

def hasS (v : V3) : Bool := !decide (v.2.1 = E0) || !decide (v.2.2 = E0)
set_option maxRecDepth 100000 in
set_option maxHeartbeats 4000000 in
theorem hasS_any (v : V3) (w : World) :
    Calls Tryz.prog 39 #[vlV v] w fun e w' => e = .returned (.bool (hasS v)) ∧ Below w.heap.size w w' := by
  obtain ⟨n, p, m⟩ := v
  unfold hasS vlV
  simp only
  by_cases h1 : p = E0
  · subst h1
    rw [decide_eq_true rfl]
    go_enter Tryz.func39, Tryz.ntmps39
    go_wp2_with fail
    rw [emp_eq]
    go_ret
    exact ⟨rfl, below1 w _⟩
  · have h2 := lit_no (l := []) h1
    rw [decide_eq_false h1]
    go_enter Tryz.func39, Tryz.ntmps39
    go_wp2_with fail
    go_ret
    exact ⟨rfl, below1 w _⟩
def divZ (k a b : Int) : Int × Int := if b = 0 then (0, 92) else if k = 7 then (a.tmod b, 0) else (wrap64 (a.tdiv b), 0)
def shfZ (k a b : Int) : Int × Int := if b < 0 then (0, 7) else if 63 < b then (0, 7) else if k = 11 then (wrap64 (IntKind.u64.wrap a / 2 ^ b.toNat), 0) else (wrap64 (a * 2 ^ b.toNat), 0)
def numZ (k a b : Int) : Int × Int :=
  if k = 6 then divZ k a b else if k = 7 then divZ k a b else if k = 10 then shfZ k a b else if k = 11 then shfZ k a b else if k = 5 then (wrap64 (a * b), 0)
  else if k = 12 then (bits BinOp.and IntKind.i64 a b, 0) else if k = 13 then (bits BinOp.xor IntKind.i64 a b, 0) else (bits BinOp.or IntKind.i64 a b, 0)
def nzV (x : Int × Int) : Value := .tuple #[.int .i64 x.1, .int .i64 x.2]
set_option maxRecDepth 100000 in
set_option maxHeartbeats 4000000 in
theorem shf_any (k a b : Int) (w : World) :
    Calls Tryz.prog 63 #[.int .i64 k, .int .i64 a, .int .i64 b] w fun e w' => e = .returned (nzV (shfZ k a b)) ∧ w = w' := by
  unfold shfZ
  by_cases hb : b < 0
  · rw [if_pos hb]
    go_enter Tryz.func63, Tryz.ntmps63
    go_wp2_with fail
    go_ret2
    exact ⟨rfl, rfl⟩
  · rw [if_neg hb]
    by_cases hb' : 63 < b
    · rw [if_pos hb']
      go_enter Tryz.func63, Tryz.ntmps63
      go_wp2_with fail
      go_ret2
      exact ⟨rfl, rfl⟩
    · rw [if_neg hb']
      have hb1 : 0 ≤ b := by omega
      have hb2 : b ≤ 63 := by omega
      clear hb hb'
      by_cases h1 : k = 11
      · rw [if_pos h1]
        subst h1
        go_enter Tryz.func63, Tryz.ntmps63
        go_wp2_with fail
        go_ret2
        exact ⟨rfl, rfl⟩
      · rw [if_neg h1]
        go_enter Tryz.func63, Tryz.ntmps63
        go_wp2_with fail
        go_ret2
        exact ⟨rfl, rfl⟩
set_option maxRecDepth 100000 in
set_option maxHeartbeats 4000000 in
theorem div_any (k a b : Int) (w : World) :
    Calls Tryz.prog 62 #[.int .i64 k, .int .i64 a, .int .i64 b] w fun e w' => e = .returned (nzV (divZ k a b)) ∧ w = w' := by
  unfold divZ
  by_cases hb : b = 0
  · rw [if_pos hb]
    subst hb
    go_enter Tryz.func62, Tryz.ntmps62
    go_wp2_with fail
    go_ret2
    exact ⟨rfl, rfl⟩
  · rw [if_neg hb]
    by_cases h1 : k = 7
    · rw [if_pos h1]
      subst h1
      go_enter Tryz.func62, Tryz.ntmps62
      go_wp2_with fail
      go_ret2
      exact ⟨rfl, rfl⟩
    · rw [if_neg h1]
      go_enter Tryz.func62, Tryz.ntmps62
      go_wp2_with fail
      go_ret2
      exact ⟨rfl, rfl⟩
set_option maxRecDepth 100000 in
set_option maxHeartbeats 8000000 in
theorem num_any (k a b : Int) (w : World) :
    Calls Tryz.prog 44 #[.int .i64 k, .int .i64 a, .int .i64 b] w fun e w' => e = .returned (nzV (numZ k a b)) ∧ w = w' := by
  have DZ := Lib.hid (div_any k a b w)
  have SZ := Lib.hid (shf_any k a b w)
  unfold numZ
  by_cases h6 : k = 6
  · rw [if_pos h6]
    subst h6
    generalize divZ 6 a b = z at *
    go_enter Tryz.func44, Tryz.ntmps44
    go_wp2_with fail
    refine DZ.out.mono ?_
    rintro e w1 ⟨rfl, rfl⟩
    unfold nzV
    go_wp2_with fail
    go_ret2
    exact ⟨rfl, rfl⟩
  rw [if_neg h6]
  by_cases h7 : k = 7
  · rw [if_pos h7]
    subst h7
    generalize divZ 7 a b = z at *
    go_enter Tryz.func44, Tryz.ntmps44
    go_wp2_with fail
    refine DZ.out.mono ?_
    rintro e w1 ⟨rfl, rfl⟩
    unfold nzV
    go_wp2_with fail
    go_ret2
    exact ⟨rfl, rfl⟩
  rw [if_neg h7]
  by_cases h10 : k = 10
  · rw [if_pos h10]
    subst h10
    generalize shfZ 10 a b = z at *
    go_enter Tryz.func44, Tryz.ntmps44
    go_wp2_with fail
    refine SZ.out.mono ?_
    rintro e w1 ⟨rfl, rfl⟩
    unfold nzV
    go_wp2_with fail
    go_ret2
    exact ⟨rfl, rfl⟩
  rw [if_neg h10]
  by_cases h11 : k = 11
  · rw [if_pos h11]
    subst h11
    generalize shfZ 11 a b = z at *
    go_enter Tryz.func44, Tryz.ntmps44
    go_wp2_with fail
    refine SZ.out.mono ?_
    rintro e w1 ⟨rfl, rfl⟩
    unfold nzV
    go_wp2_with fail
    go_ret2
    exact ⟨rfl, rfl⟩
  rw [if_neg h11]
  clear DZ SZ
  by_cases h5 : k = 5
  · rw [if_pos h5]
    subst h5
    clear h6 h7 h10 h11
    go_enter Tryz.func44, Tryz.ntmps44
    go_wp2_with fail
    go_ret2
    exact ⟨rfl, rfl⟩
  rw [if_neg h5]
  by_cases h12 : k = 12
  · rw [if_pos h12]
    subst h12
    clear h6 h7 h10 h11 h5
    go_enter Tryz.func44, Tryz.ntmps44
    go_wp2_with fail
    go_ret2
    exact ⟨rfl, rfl⟩
  rw [if_neg h12]
  by_cases h13 : k = 13
  · rw [if_pos h13]
    subst h13
    clear h6 h7 h10 h11 h5 h12
    go_enter Tryz.func44, Tryz.ntmps44
    go_wp2_with fail
    go_ret2
    exact ⟨rfl, rfl⟩
  rw [if_neg h13]
  go_enter Tryz.func44, Tryz.ntmps44
  go_wp2_with fail
  go_ret2
  exact ⟨rfl, rfl⟩
end Go.Proofs.YtdkflmpdelfgoaaGreatDoor
