/-
  The parser's readerOf, number, symbol, none: what each call returns. Conditions: those of the state.
-/
import Derived.Test.YtdkflmpdelfgoaaGreatDoorExprV
namespace Go.Proofs.YtdkflmpdelfgoaaGreatDoor
open Go.RowKit Go.Shelf
set_option linter.unusedVariables false
set_option linter.unusedSimpArgs false
attribute [local go_sem] Oper.semAt_some

def rdV : Rd → Value
  | .num => .func (.func 74) #[] #[]
  | .sym => .func (.func 75) #[] #[]
  | .wit => .func (.func 76) #[] #[]
  | .beh _ => .func (.func 77) #[] #[]
  | .non => .func (.func 78) #[] #[]
theorem PS.good {w0 : World} {tv : Value} {T : List Tok} {s : St} {W : World} (h : PS w0 tv s W) (hB : Base w0 tv T) : GoodE W := hB.good.thn h.bel
theorem opV_bool (o : Option Nat) : ∃ k : Int, opV o = .tuple #[.int .i64 k, .bool o.isSome] := by
  cases o with
  | none => exact ⟨0, rfl⟩
  | some k => exact ⟨k, rfl⟩
set_option maxRecDepth 100000 in
set_option maxHeartbeats 8000000 in
theorem readerOf_any (x : Tok) (hx : x.t.length ≤ 281474976710656) (W : World) (hG : GoodE W) :
    Calls Tryz.prog 55 #[tokQ x] W fun e w' => e = .returned (rdV (readF x)) ∧ Below W.heap.size W w' := by
  have OP := Lib.hid (fun V (hb : Below W.heap.size W V) => opOf_any x 1 V (hG.thn hb))
  have IS := Lib.hid (fun V => isSym_any ⟨x.t.toArray⟩ V (by unfold maxLen; rw [size_list]; simp only [List.toList_toArray]; omega))
  have SG := Lib.hid (fun V => e_isSign_any x BO V)
  obtain ⟨ok, hok⟩ := opV_bool (opOf x 1)
  rw [hok] at OP
  have R1 := Lib.hid (show readF x = if x.k = 2 then .num else if x.k = 1 ∧ symB x.t = true then .sym else if isG x BO = true then .wit else match opOf x 1 with
    | some k => .beh k
    | none => .non from rfl)
  generalize readF x = R at *
  generalize isG x BO = gb at *
  have hRV : (opOf x 1).isSome = true → rdV (match opOf x 1 with
    | some k => .beh k
    | none => .non) = .func (.func 77) #[] #[] := by
    intro h; cases ho : opOf x 1 with
    | none => rw [ho] at h; cases h
    | some k => rfl
  have hRN : (opOf x 1).isSome = false → rdV (match opOf x 1 with
    | some k => .beh k
    | none => .non) = .func (.func 78) #[] #[] := by
    intro h; cases ho : opOf x 1 with
    | none => rfl
    | some k => rw [ho] at h; cases h
  replace hRV := Lib.hid hRV
  replace hRN := Lib.hid hRN
  clear hok
  generalize (match opOf x 1 with
    | some k => Rd.beh k
    | none => Rd.non) = RE at *
  generalize (opOf x 1).isSome = ob at *
  unfold BO at SG
  have hBX := Lib.hid (heap_alloc_new W (.cells #[.int .i64 x.k, .string ⟨x.t.toArray⟩, .int .u64 (x.n : Int), .int .i64 x.p] 62))
  have hB1 := Lib.hid (below1 W (.cells #[.int .i64 x.k, .string ⟨x.t.toArray⟩, .int .u64 (x.n : Int), .int .i64 x.p] 62))
  obtain ⟨k, t, n, p⟩ := x
  unfold tokQ at *
  simp only at OP IS SG R1 hBX hB1 ⊢
  clear hx hG
  generalize symB t = sb at *
  generalize (⟨t.toArray⟩ : BA) = S at *
  go_enter Tryz.func55, Tryz.ntmps55
  go_upto_region 1 with fail
  generalize W.alloc (.cells #[.int .i64 k, .string S, .int .u64 (n : Int), .int .i64 p] 62) = W1 at *
  obtain ⟨x0, x1, x2, x3⟩ := cells4 hBX.out
  go_wp2_with fail
  refine (OP.out _ hB1.out).mono ?_
  rintro e w2 ⟨rfl, hb⟩
  have HB2 := Lib.hid (Below.thn hB1.out hB1.out.size hb)
  have HX2 := Lib.hid (block_kept hb hBX.out)
  obtain ⟨x0, x1, x2, x3⟩ := cells4 HX2.out
  clear hb
  by_cases h2 : k = 2
  · subst h2
    rw [if_pos rfl] at R1
    go_wp2_with fail
    go_ret
    exact ⟨by rw [R1.out]; rfl, HB2.out⟩
  · rw [if_neg h2] at R1
    have h2' : (k == (2 : Int)) = false := by rw [beq_eq_false_iff_ne]; exact h2
    by_cases h1 : k = 1
    · subst h1
      cases sb with
      | true =>
        rw [if_pos ⟨rfl, rfl⟩] at R1
        go_wp2_with fail
        refine (IS.out _).mono ?_
        rintro e w3 ⟨rfl, rfl⟩
        go_wp2_with fail
        go_ret
        exact ⟨by rw [R1.out]; rfl, HB2.out⟩
      | false =>
        rw [if_neg (fun h => by cases h.2)] at R1
        have R2 := R1
        clear R1
        go_wp2_with fail
        refine (IS.out _).mono ?_
        rintro e w3 ⟨rfl, rfl⟩
        go_wp2_with fail
        refine (SG.out _).mono ?_
        rintro e w3 ⟨rfl, hb⟩
        have HB3 := Lib.hid (Below.thn HB2.out HB2.out.size hb)
        clear hb
        cases gb with
        | true =>
          go_wp2_with fail
          go_ret
          exact ⟨by rw [R2.out]; rfl, HB3.out⟩
        | false =>
          cases ob with
          | true =>
            go_wp2_with fail
            go_ret
            exact ⟨by rw [R2.out]; exact congrArg Ending.returned (hRV.out (by simp)).symm, HB3.out⟩
          | false =>
            go_wp2_with fail
            go_ret
            exact ⟨by rw [R2.out]; exact congrArg Ending.returned (hRN.out (by simp)).symm, HB3.out⟩
    · rw [if_neg (fun h => h1 h.1)] at R1
      have R2 := R1
      clear R1
      have h1' : (k == (1 : Int)) = false := by rw [beq_eq_false_iff_ne]; exact h1
      go_wp2_with fail
      refine (SG.out _).mono ?_
      rintro e w3 ⟨rfl, hb⟩
      have HB3 := Lib.hid (Below.thn HB2.out HB2.out.size hb)
      clear hb
      cases gb with
      | true =>
        go_wp2_with fail
        go_ret
        exact ⟨by rw [R2.out]; rfl, HB3.out⟩
      | false =>
        cases ob with
        | true =>
          go_wp2_with fail
          go_ret
          exact ⟨by rw [R2.out]; exact congrArg Ending.returned (hRV.out (by simp)).symm, HB3.out⟩
        | false =>
          go_wp2_with fail
          go_ret
          exact ⟨by rw [R2.out]; exact congrArg Ending.returned (hRN.out (by simp)).symm, HB3.out⟩
set_option maxRecDepth 100000 in
set_option maxHeartbeats 4000000 in
theorem none_any {w0 : World} {tv : Value} (s : St) (W : World) (h : PS w0 tv s W) :
    Calls Tryz.prog 78 #[.pointer (some ⟨w0.heap.size, 0, none⟩)] W fun e w' => OutP w0 tv (.error 90) e w' := by
  have BL := bail_any 90
  unfold panV at BL
  replace BL := Lib.hid BL
  have HB := Lib.hid h.bel
  clear h
  go_enter Tryz.func78, Tryz.ntmps78
  go_wp2_with fail
  refine (BL.out _).mono ?_
  rintro e w1 ⟨rfl, rfl⟩
  go_wp2_with fail
  simp [bodyPost, panV, OutP]
  exact HB.out
theorem field_t (k n p : Int) (S : BA) (V : World) : (Instr.field 62 (.agg #[.int .i64 k, .string S, .int .u64 n, .int .i64 p]) 1).run Tryz.prog V = .ok (.string S) V := by show _ = _; kernel_rfl
theorem field_n (k n p : Int) (S : BA) (V : World) : (Instr.field 62 (.agg #[.int .i64 k, .string S, .int .u64 n, .int .i64 p]) 2).run Tryz.prog V = .ok (.int .u64 n) V := by show _ = _; kernel_rfl
def Pre (T : List Tok) (s : St) : Prop := s.at_ ≤ T.length ∧ s.cnt ≤ s.at_ ∧ s.tms.length ≤ s.cnt ∧ s.op ≤ 64
/-- how a call goes on: as what it comes to says -/
theorem out_end {w0 : World} {tv : Value} {r : Except Int St} {e : Ending} {W' : World} (h : OutP w0 tv r e W') : (∃ s', r = .ok s' ∧ e = .returned (.tuple #[]) ∧ PS w0 tv s' W') ∨ ∃ x, r = .error x ∧ e = panV x ∧ Below w0.heap.size w0 W' := by
  cases r with
  | ok s' => exact .inl ⟨s', rfl, h⟩
  | error x => exact .inr ⟨x, rfl, h⟩
end Go.Proofs.YtdkflmpdelfgoaaGreatDoor
namespace Go.Proofs.YtdkflmpdelfgoaaGreatDoor
open Go.RowKit Go.Shelf
set_option linter.unusedVariables false
set_option linter.unusedSimpArgs false
attribute [local go_sem] Oper.semAt_some

set_option maxRecDepth 100000 in
set_option maxHeartbeats 4000000 in
theorem e_number_any {w0 : World} {tv : Value} {T : List Tok} (hB : Base w0 tv T) (s : St) (W : World) (h : PS w0 tv s W) (hp : Pre T s) (x : Tok) (hx : nextT T s = x) :
    Calls Tryz.prog 74 #[.pointer (some ⟨w0.heap.size, 0, none⟩)] W fun e w' => OutP w0 tv (leafF s ⟨1, IntKind.i64.wrap (x.n : Int), E0⟩) e w' := by
  obtain ⟨p1, p2, p3, p4⟩ := hp
  have hl := hB.len
  have NX := Lib.hid (next_any hB s W h p1)
  rw [hx] at NX
  have LF := Lib.hid (fun V (hb : Below W.heap.size W V) => leaf_any s ⟨1, IntKind.i64.wrap (x.n : Int), E0⟩ V (h.thn hb) (by omega) (by omega) (by omega))
  obtain ⟨k, t, n, p⟩ := x
  unfold tokQ at NX
  unfold tmV at LF
  simp only at NX LF ⊢
  obtain ⟨N, hN⟩ : ∃ N, IntKind.i64.wrap (n : Int) = N := ⟨_, rfl⟩
  rw [hN] at LF ⊢
  generalize leafF s ⟨1, N, E0⟩ = r at *
  clear h hx hB p1 p2 p3 p4 hl
  have FN := field_n k (n : Int) p ⟨t.toArray⟩
  go_enter Tryz.func74, Tryz.ntmps74
  go_wp2_with fail
  refine NX.out.mono ?_
  rintro e w1 ⟨rfl, hb⟩
  have HB := Lib.hid hb
  clear hb
  go_wp2_with fail
  refine (LF.out _ HB.out).mono ?_
  rintro e w2 ho
  rcases out_end ho with ⟨s', rfl, rfl, hs⟩ | ⟨y, rfl, rfl, hy⟩
  · go_wp2_with fail
    go_end0
    exact ⟨rfl, hs⟩
  · unfold panV
    go_wp2_with fail
    simp [bodyPost, panV, OutP]
    exact hy
end Go.Proofs.YtdkflmpdelfgoaaGreatDoor
namespace Go.Proofs.YtdkflmpdelfgoaaGreatDoor
open Go.RowKit Go.Shelf
set_option linter.unusedVariables false
set_option linter.unusedSimpArgs false
attribute [local go_sem] Oper.semAt_some

set_option maxRecDepth 100000 in
set_option maxHeartbeats 4000000 in
theorem symbol_any {w0 : World} {tv : Value} {T : List Tok} (hB : Base w0 tv T) (s : St) (W : World) (h : PS w0 tv s W) (hp : Pre T s) (x : Tok) (hx : nextT T s = x) (hxt : x.t.length ≤ 281474976710656) :
    Calls Tryz.prog 75 #[.pointer (some ⟨w0.heap.size, 0, none⟩)] W fun e w' => OutP w0 tv (leafF s ⟨2, 0, ⟨x.t.toArray⟩⟩) e w' := by
  obtain ⟨p1, p2, p3, p4⟩ := hp
  have hl := hB.len
  have NX := Lib.hid (next_any hB s W h p1)
  rw [hx] at NX
  have CL := Lib.hid (fun V => e_clone_any ⟨x.t.toArray⟩ V (by rw [size_list]; simp only [List.toList_toArray]; omega))
  have LF := Lib.hid (fun V (hb : Below W.heap.size W V) => leaf_any s ⟨2, 0, ⟨x.t.toArray⟩⟩ V (h.thn hb) (by omega) (by omega) (by omega))
  obtain ⟨k, t, n, p⟩ := x
  unfold tokQ at NX
  unfold tmV at LF
  simp only at NX LF CL ⊢
  generalize (⟨t.toArray⟩ : BA) = S at *
  generalize leafF s ⟨2, 0, S⟩ = r at *
  clear h hx hB p1 p2 p3 p4 hl hxt
  have FT := field_t k (n : Int) p S
  go_enter Tryz.func75, Tryz.ntmps75
  go_wp2_with fail
  refine NX.out.mono ?_
  rintro e w1 ⟨rfl, hb⟩
  have HB := Lib.hid hb
  clear hb
  go_wp2_with fail
  refine (CL.out _).mono ?_
  rintro e w2 ⟨rfl, hb⟩
  have HB2 := Lib.hid (Below.thn HB.out HB.out.size hb)
  clear hb
  go_wp2_with fail
  refine (LF.out _ HB2.out).mono ?_
  rintro e w3 ho
  rcases out_end ho with ⟨s', rfl, rfl, hs⟩ | ⟨y, rfl, rfl, hy⟩
  · go_wp2_with fail
    go_end0
    exact ⟨rfl, hs⟩
  · unfold panV
    go_wp2_with fail
    simp [bodyPost, panV, OutP]
    exact hy
end Go.Proofs.YtdkflmpdelfgoaaGreatDoor
namespace Go.Proofs.YtdkflmpdelfgoaaGreatDoor
open Go.RowKit Go.Shelf
set_option linter.unusedVariables false
set_option linter.unusedSimpArgs false

theorem bind_ok {x : Except Int St} {k : St → Except Int St} {s' : St} (h : x.bind k = .ok s') : ∃ s1, x = .ok s1 ∧ k s1 = .ok s' := by
  cases x with
  | ok s1 => exact ⟨s1, rfl, h⟩
  | error e => cases h
def Job.adv : Job → Nat
  | .loop _ => 0
  | _ => 1
/-- what a state that is read keeps of the one before -/
def Fin (T : List Tok) (d : Nat) (s s' : St) : Prop := s.at_ + d ≤ s'.at_ ∧ s'.at_ ≤ T.length ∧ s'.op = s.op ∧ s'.tms.length + s.cnt = s.tms.length + s'.cnt ∧ s'.cnt + s.at_ ≤ s.cnt + s'.at_
theorem leafF_ok {s s' : St} {t : Tm} (h : leafF s t = .ok s') : s' = ⟨s.at_ + 1, s.tms ++ [t], s.cnt + 1, s.op⟩ ∧ s.cnt + 1 ≤ 256 := by
  unfold leafF at h
  split at h
  · cases h
  · cases h; exact ⟨rfl, by omega⟩
theorem enterF_ok {s s' : St} (h : enterF s = .ok s') : s' = ⟨s.at_ + 1, s.tms, s.cnt, s.op + 1⟩ ∧ s.op + 1 ≤ 64 := by
  unfold enterF at h
  split at h
  · cases h
  · cases h; exact ⟨rfl, by omega⟩
theorem readF_num {x : Tok} (h : readF x = .num) : x.k = 2 := by
  unfold readF at h
  split at h
  · assumption
  · split at h
    · cases h
    · split at h
      · cases h
      · split at h <;> cases h
theorem readF_sym {x : Tok} (h : readF x = .sym) : x.k = 1 ∧ symB x.t = true := by
  unfold readF at h
  split at h
  · cases h
  · split at h
    · assumption
    · split at h
      · cases h
      · split at h <;> cases h
theorem readF_wit {x : Tok} (h : readF x = .wit) : isG x BO = true := by
  unfold readF at h
  split at h
  · cases h
  · split at h
    · cases h
    · split at h
      · assumption
      · split at h <;> cases h
theorem readF_beh {x : Tok} {k : Nat} (h : readF x = .beh k) : opOf x 1 = some k := by
  unfold readF at h
  split at h
  · cases h
  · split at h
    · cases h
    · split at h
      · cases h
      · split at h
        · rename_i ho; cases h; exact ho
        · cases h
theorem runP_fin {T : List Tok} : ∀ (f : Nat) (j : Job) (s s' : St), runP T f j s = .ok s' → s.at_ ≤ T.length → Fin T j.adv s s'
  | 0, j, s, s', h, hat => by cases j <;> cases h
  | f + 1, .row g, s, s', h, hat => by
    rw [runP] at h
    obtain ⟨s1, h1, h2⟩ := bind_ok h
    obtain ⟨a1, a2, a3, a4, a5⟩ := runP_fin f _ _ _ h1 hat
    obtain ⟨b1, b2, b3, b4, b5⟩ := runP_fin f _ _ _ h2 a2
    simp only [Job.adv] at a1 b1 ⊢
    exact ⟨by omega, b2, b3.trans a3, by omega, by omega⟩
  | f + 1, .loop g, s, s', h, hat => by
    rw [runP] at h
    split at h
    · cases h; simp only [Job.adv]; exact ⟨by omega, hat, rfl, by omega, by omega⟩
    · rename_i k hk
      have hlt := next_lt (opOf_k hk)
      split at h
      · cases h; simp only [Job.adv]; exact ⟨by omega, hat, rfl, by omega, by omega⟩
      · obtain ⟨s1, h1, h2⟩ := bind_ok h
        obtain ⟨a1, a2, a3, a4, a5⟩ := runP_fin f _ _ _ h1 (show s.at_ + 1 ≤ T.length by omega)
        obtain ⟨b1, b2, b3, b4, b5⟩ := runP_fin f _ _ _ h2 a2
        simp only [Job.adv, List.length_append, List.length_cons, List.length_nil] at a1 a3 a4 a5 b1 b3 b4 b5 ⊢
        exact ⟨by omega, b2, by omega, by omega, by omega⟩
  | f + 1, .opd, s, s', h, hat => by
    rw [runP] at h
    split at h
    · rename_i hr
      have hlt := next_lt (T := T) (s := s) (by rw [readF_num hr]; decide)
      obtain ⟨rfl, h2⟩ := leafF_ok h
      simp only [Fin, Job.adv, List.length_append, List.length_cons, List.length_nil]
      exact ⟨by omega, by omega, trivial, by omega, by omega⟩
    · rename_i hr
      have hlt := next_lt (T := T) (s := s) (by rw [(readF_sym hr).1]; decide)
      obtain ⟨rfl, h2⟩ := leafF_ok h
      simp only [Fin, Job.adv, List.length_append, List.length_cons, List.length_nil]
      exact ⟨by omega, by omega, trivial, by omega, by omega⟩
    · rename_i hr
      have hlt := next_lt (T := T) (s := s) (isG_k (readF_wit hr))
      obtain ⟨s1, h1, h2⟩ := bind_ok h
      obtain ⟨rfl, _⟩ := enterF_ok h1
      obtain ⟨s2, h3, h4⟩ := bind_ok h2
      obtain ⟨a1, a2, a3, a4, a5⟩ := runP_fin f _ _ _ h3 (show s.at_ + 1 ≤ T.length by omega)
      split at h4
      · rename_i hg
        have hlt2 := next_lt (T := T) (s := s2) (isG_k hg)
        cases h4
        simp only [Fin, Job.adv] at *
        exact ⟨by omega, by omega, by omega, by omega, by omega⟩
      · cases h4
    · rename_i k hr
      have hlt := next_lt (T := T) (s := s) (opOf_k (readF_beh hr))
      obtain ⟨s1, h1, h2⟩ := bind_ok h
      obtain ⟨rfl, _⟩ := enterF_ok h1
      obtain ⟨s2, h3, h4⟩ := bind_ok h2
      obtain ⟨a1, a2, a3, a4, a5⟩ := runP_fin f _ _ _ h3 (show s.at_ + 1 ≤ T.length by omega)
      cases h4
      simp only [Fin, Job.adv, List.length_append, List.length_cons, List.length_nil] at *
      exact ⟨by omega, by omega, by omega, by omega, by omega⟩
    · cases h
end Go.Proofs.YtdkflmpdelfgoaaGreatDoor
