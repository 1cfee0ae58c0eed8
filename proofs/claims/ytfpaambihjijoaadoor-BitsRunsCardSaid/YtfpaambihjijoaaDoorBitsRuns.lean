/-
  For every number, every width and every slice of bytes BitsRuns returns true: the runs of ones, the word of the bytes and a word's bytes are the document's. No conditions.
-/
import Derived.Test.YtfpaambihjijoaaDoorRunsQ
import Derived.Test.YtfpaambihjijoaaDoorRunsW
import Derived.Test.YtfpaambihjijoaaDoorTie
import Derived.Test.YtfpaambihjijoaaDoorCards
import Derived.SevenTiedAt
namespace Go.Proofs.YtfpaambihjijoaaDoor.bitsRuns
open Go.ChangeShapes Go.WideShapes Go.ChangeAt Go.RowKit BM
set_option linter.unusedVariables false

theorem u64_wf {v : Int} (h : (Lit.int .u64 v).wf = true) : 0 ≤ v ∧ v < 18446744073709551616 := by
  simp [Lit.wf, IntKind.min, IntKind.max, IntKind.bits, IntKind.signed] at h; omega
theorem u8_wf {v : Int} (h : (Lit.int .u8 v).wf = true) : 0 ≤ v ∧ v < 256 := by
  simp [Lit.wf, IntKind.min, IntKind.max, IntKind.bits, IntKind.signed] at h; omega
/-- a slice that is no four bytes, or four bytes in memory -/
def Four (W : World) (A : Option Addr) (len : Nat) : Prop :=
  len ≠ 4 ∨ (len = 4 ∧ ∃ (b off : Nat) (x0 x1 x2 x3 : Int), A = some ⟨b, off, none⟩ ∧ b < W.heap.size ∧ (0 ≤ x0 ∧ x0 < 256) ∧ (0 ≤ x1 ∧ x1 < 256) ∧ (0 ≤ x2 ∧ x2 < 256) ∧ (0 ≤ x3 ∧ x3 < 256) ∧
    W.cell? ⟨b, off, none⟩ = some (.int .u8 x0) ∧ W.cell? ⟨b, off + 1, none⟩ = some (.int .u8 x1) ∧ W.cell? ⟨b, off + 2, none⟩ = some (.int .u8 x2) ∧ W.cell? ⟨b, off + 3, none⟩ = some (.int .u8 x3))
theorem cell_lt' {W : World} {b o : Nat} {v : Value} (h : W.cell? ⟨b, o, none⟩ = some v) : b < W.heap.size := by
  unfold World.cell? at h
  rcases Nat.lt_or_ge b W.heap.size with g | g
  · exact g
  · rw [Array.getElem?_eq_none g] at h; simp at h
theorem four_of {W : World} {a : Addr} {len : Nat} {zs : List Int} (hlen : len ≤ zs.length) (hc : ∀ i, i < zs.length → W.cell? (a.add i) = some (.int .u8 (zs.getD i 0))) (hw : ∀ n ∈ zs, (Lit.int .u8 n).wf = true) : Four W (some a) len := by
  by_cases h : len = 4
  · have hl : 4 ≤ zs.length := by omega
    have z := hc 0 (by omega)
    have hs : a.spot = none := by simpa [Addr.add] using World.cell?_spot z
    obtain ⟨b, off, spot⟩ := a
    simp only at hs
    subst hs
    have wf : ∀ i, i < zs.length → 0 ≤ zs.getD i 0 ∧ zs.getD i 0 < 256 := by
      intro i hi
      rw [List.getD_eq_getElem?_getD, List.getElem?_eq_getElem hi]
      exact u8_wf (hw _ (List.getElem_mem hi))
    have c0 : W.cell? ⟨b, off, none⟩ = some (.int .u8 (zs.getD 0 0)) := by simpa [Addr.add] using hc 0 (by omega)
    have c1 : W.cell? ⟨b, off + 1, none⟩ = some (.int .u8 (zs.getD 1 0)) := by simpa [Addr.add] using hc 1 (by omega)
    have c2 : W.cell? ⟨b, off + 2, none⟩ = some (.int .u8 (zs.getD 2 0)) := by simpa [Addr.add] using hc 2 (by omega)
    have c3 : W.cell? ⟨b, off + 3, none⟩ = some (.int .u8 (zs.getD 3 0)) := by simpa [Addr.add] using hc 3 (by omega)
    exact .inr ⟨h, b, off, _, _, _, _, rfl, cell_lt' c0, wf 0 (by omega), wf 1 (by omega), wf 2 (by omega), wf 3 (by omega), c0, c1, c2, c3⟩
  · exact .inl h
/-- what Word gives, the program's and the document's -/
theorem words {w : World} {A : Option Addr} {len : Nat} (cap : Nat) (h : Four w A len) : ∃ x e : Int, (∀ W, Below w.heap.size w W → Calls Tryd.prog 6 #[.slice A len cap] W fun e' w' => e' = .returned (.tuple #[.int .u32 x, .int .i64 e]) ∧ Below W.heap.size W w') ∧
    (∀ W, Below w.heap.size w W → Calls Tryd.prog 7 #[.slice A len cap] W fun e' w' => e' = .returned (.tuple #[.int .u32 x, .int .i64 e]) ∧ Below W.heap.size W w') := by
  rcases h with h | ⟨rfl, b, off, x0, x1, x2, x3, rfl, hb, a0, a1, a2, a3, c0, c1, c2, c3⟩
  · exact ⟨0, 3, fun W _ => (word_no A len cap W h).mono (by rintro e w' ⟨rfl, rfl⟩; exact ⟨rfl, Below.refl _ _⟩), fun W _ => (rword_no A len cap W h).mono (by rintro e w' ⟨rfl, rfl⟩; exact ⟨rfl, Below.refl _ _⟩)⟩
  · have k : ∀ (W : World) (o : Nat) (v : Value), Below w.heap.size w W → w.cell? ⟨b, o, none⟩ = some v → W.cell? ⟨b, o, none⟩ = some v := fun W o v hB hc => (hB.cell (p := ⟨b, o, none⟩) hb).trans hc
    exact ⟨wordI x0 x1 x2 x3, 0, fun W hB => (word_any x0 x1 x2 x3 b off cap W a0.1 a0.2 a1.1 a1.2 a2.1 a2.2 a3.1 a3.2 (k W _ _ hB c0) (k W _ _ hB c1) (k W _ _ hB c2) (k W _ _ hB c3)).mono (by rintro e w' ⟨rfl, rfl⟩; exact ⟨rfl, Below.refl _ _⟩),
      fun W hB => rword_any x0 x1 x2 x3 b off cap W a0.1 a0.2 a1.1 a1.2 a2.1 a2.2 a3.1 a3.2 (k W _ _ hB c0) (k W _ _ hB c1) (k W _ _ hB c2) (k W _ _ hB c3)⟩
theorem runs_keep {V V' : World} {v : Value} {l : List (Nat × Nat)} (h : RunsRow V v l) (hb : Below V.heap.size V V') : RunsRow V' v l := by
  rcases h with h | ⟨g, cap, h1, hg, h2⟩
  · exact .inl h
  · exact .inr ⟨g, cap, h1, Nat.lt_of_lt_of_le hg hb.size, fun j hj => ⟨(hb.cell (p := ⟨g, j * 2, none⟩) hg).trans (h2 j hj).1, (hb.cell (p := ⟨g, j * 2 + 1, none⟩) hg).trans (h2 j hj).2⟩⟩
theorem four_new (w : World) (a b c d : Value) (t : TypeId) : (w.alloc (.cells #[a, b, c, d] t)).cell? ⟨w.heap.size, 0, none⟩ = some a ∧ (w.alloc (.cells #[a, b, c, d] t)).cell? ⟨w.heap.size, 1, none⟩ = some b ∧ (w.alloc (.cells #[a, b, c, d] t)).cell? ⟨w.heap.size, 2, none⟩ = some c ∧ (w.alloc (.cells #[a, b, c, d] t)).cell? ⟨w.heap.size, 3, none⟩ = some d := by
  have h := World.alloc_heap_new w (.cells #[a, b, c, d] t)
  refine ⟨?_, ?_, ?_, ?_⟩ <;> (unfold World.cell?; simp only [h]; rfl)
set_option maxRecDepth 100000 in
set_option maxHeartbeats 2000000 in
theorem walk (v n : Int) (A : Option Addr) (len cap : Nat) (w : World) (wv : (Lit.int .u64 v).wf = true) (hF : Four w A len) (hT : Tab w) (hTB : 0 < w.heap.size) :
    Calls Tryd.prog 3 #[.int .u64 v, .int .i64 n, .slice A len cap] w fun e w' => e = .returned (.bool true) ∧ Below w.heap.size w w' := by
  obtain ⟨b1, b2⟩ := u64_wf wv
  obtain ⟨V, rfl⟩ := Int.eq_ofNat_of_zero_le b1
  have hV : V < 18446744073709551616 := by omega
  obtain ⟨x, e0, WO, WR⟩ := words cap hF
  have LA := Lib.hid (fun w => live_any w)
  have WO' := Lib.hid WO
  have WR' := Lib.hid WR
  have TR := Lib.hid (fun w hT hB => told_runs V n w hV hT hB)
  have RR := Lib.hid (fun w => rruns_any V n w hV)
  have hl64 : (runsC (V % 2 ^ wid n)).length ≤ 64 := by unfold runsC; rw [List.length_map]; exact Nat.le_trans (List.length_filter_le _ _) (by simp)
  obtain ⟨L, hL⟩ : ∃ L, runsC (V % 2 ^ wid n) = L := ⟨_, rfl⟩
  rw [hL] at TR RR hl64
  obtain ⟨y, hy⟩ : ∃ y : Int, (V : Int) % 4294967296 = y := ⟨_, rfl⟩
  have y1 : 0 ≤ y ∧ y < 4294967296 := by omega
  have Y := Lib.hid y1
  have BO := Lib.hid (fun w => bytes_any y w y1.1 y1.2)
  have BR := Lib.hid (fun w => rbytes_any y w y1.1 y1.2)
  have HT := Lib.hid hT
  have HB := Lib.hid hTB
  have LL := Lib.hid hl64
  have bb := Below.refl w.heap.size w
  clear wv hF hT hTB b1 b2 hV WO WR hL hl64 y1
  go_enter Tryd.func3, Tryd.ntmps3
  go_wp2_with fail
  refine (LA.out _).mono ?_
  rintro e w1 ⟨rfl, c1⟩
  replace bb := Below.thn bb bb.size c1
  clear c1
  go_wp2_with fail
  refine (WO'.out _ bb).mono ?_
  rintro e w2 ⟨rfl, c1⟩
  replace bb := Below.thn bb bb.size c1
  clear c1
  go_wp2_with fail
  refine (WR'.out _ bb).mono ?_
  rintro e w3 ⟨rfl, c1⟩
  replace bb := Below.thn bb bb.size c1
  clear c1
  go_wp2_with fail
  refine (TR.out _ (HT.out.keep HB.out bb) (by have := HB.out; have := bb.size; omega)).mono ?_
  rintro e w4 ⟨s1, rfl, r1, c1⟩
  replace bb := Below.thn bb bb.size c1
  have R1 := runs_row r1
  clear c1 r1
  go_wp2_with fail
  refine (RR.out _).mono ?_
  rintro e w5 ⟨s2, rfl, r2, c1⟩
  replace bb := Below.thn bb bb.size c1
  have R1' := runs_keep R1 c1
  have R2 := runs_row r2
  have EQ := Lib.hid (equal_runs s1 s2 L w5 R1' R2 LL.out)
  clear c1 r2 R1 R1' R2
  go_wp2_with fail
  refine EQ.out.mono ?_
  rintro e w6 ⟨rfl, c1⟩
  replace bb := Below.thn bb bb.size c1
  clear c1 EQ
  go_wp2_with fail
  refine (BO.out _).mono ?_
  rintro e w7 ⟨rfl, rfl⟩
  have b7 := bb.alloc bb.size (.cells #[.int .u8 (y % 256), .int .u8 (y / 256 % 256), .int .u8 (y / 65536 % 256), .int .u8 (y / 16777216)] 48)
  obtain ⟨p0, p1, p2, p3⟩ := four_new w6 (.int .u8 (y % 256)) (.int .u8 (y / 256 % 256)) (.int .u8 (y / 65536 % 256)) (.int .u8 (y / 16777216)) 48
  obtain ⟨w8, hw8⟩ : ∃ w8, w6.alloc (.cells #[.int .u8 (y % 256), .int .u8 (y / 256 % 256), .int .u8 (y / 65536 % 256), .int .u8 (y / 16777216)] 48) = w8 := ⟨_, rfl⟩
  have z8 : w8.heap.size = w6.heap.size + 1 := by rw [← hw8]; simp
  rw [hw8] at b7 p0 p1 p2 p3 ⊢
  have Z8 := Lib.hid z8
  clear hw8 z8
  go_wp2_with fail
  refine (BR.out _).mono ?_
  rintro e w9 ⟨rfl, rfl⟩
  obtain ⟨q0, q1, q2, q3⟩ := four_new w8 (.int .u8 (y % 256)) (.int .u8 (y / 256 % 256)) (.int .u8 (y / 65536 % 256)) (.int .u8 (y / 16777216)) 5
  have b9 := b7.alloc b7.size (.cells #[.int .u8 (y % 256), .int .u8 (y / 256 % 256), .int .u8 (y / 65536 % 256), .int .u8 (y / 16777216)] 5)
  have kc : ∀ (o : Nat) (u : Value), w8.cell? ⟨w6.heap.size, o, none⟩ = some u → (w8.alloc (.cells #[.int .u8 (y % 256), .int .u8 (y / 256 % 256), .int .u8 (y / 65536 % 256), .int .u8 (y / 16777216)] 5)).cell? ⟨w6.heap.size, o, none⟩ = some u := fun o u h =>
    (((Below.refl w8.heap.size w8).alloc (Nat.le_refl _) _).cell (p := ⟨w6.heap.size, o, none⟩) (by show w6.heap.size < w8.heap.size; have := Z8.out; omega)).trans h
  have EF := Lib.hid (equal_four (y % 256) (y / 256 % 256) (y / 65536 % 256) (y / 16777216) w6.heap.size w8.heap.size _ (by omega) (by omega) (by omega) (by omega) (by omega) (by omega) (by have := Y.out; omega) (by have := Y.out; omega) (kc _ _ p0) (kc _ _ p1) (kc _ _ p2) (kc _ _ p3) q0 q1 q2 q3)
  clear p0 p1 p2 p3 q0 q1 q2 q3 kc
  go_wp2_with fail
  refine EF.out.mono ?_
  rintro e w10 ⟨rfl, rfl⟩
  go_wp2
  go_ret
  exact ⟨rfl, b9⟩

theorem laidOut : laidOutB Tryd.prog = true := by kernel_rfl
set_option maxRecDepth 100000 in
theorem lifted (os : Os) (started : os.Started) (H : Type) (enc : TypeId × Value → H) :
    ReturnsInHanded {} Tryd.checked os 3 .any (fun w args => (Rows.bitsRunsSpec.pre enc Tryd.prog Tryd.f3 [] false w args ∧ laidMetH Tryd.prog lay1 w) ∧ sizedMet enc Tryd.prog Tryd.f3 (OpenSpec.ofChange Rows.bitsRunsSpec) false w args)
      (Rows.bitsRunsSpec.post enc Tryd.prog Tryd.f3 false true false false) := by
  refine returnsInHanded_of_change_and (C := Tryd.checked) (X := fun w _ => laidMetH Tryd.prog lay1 w) (fun _ _ _ hh h => h.of_heap hh) own started (by kernel_rfl) Tryd.func3
    (ChangeSpec.witness_shaped (enc := enc) (C := Tryd.checked) (os := os) (X := fun w _ => laidMetH Tryd.prog lay1 w) false (World.doorLaid Tryd.prog 400 os) #[.int .u64 0, .int .i64 0, .slice none 0 0] 8 rfl (World.shaped_of_RefB (by kernel_rfl) (by kernel_rfl)) (by kernel_rfl) (by kernel_rfl) (by kernel_rfl) (door_met os _)) ?_
  intro W base args ds gs before hval0 hW _ _ hL _
  have hval : ∀ (j : Nat) t v, Tryd.f3.params[j]? = some t → args[j]? = some v → Value.okWide Tryd.prog W .any base t v := hval0
  have hW' := hW
  obtain ⟨p, q, hA0, hV, rfl, hfz, hnd⟩ := hW
  have hA : DataW.TrodAll enc Tryd.prog W 0 (fun _ => true) true Tryd.f3.params.toList args.toList ds p := hA0
  rw [Tryd.params3] at hA hval
  obtain ⟨v0, vs0, d0, ds0, p0, q0, hargs, rfl, rfl, h0, r0⟩ := trodAll_cons hA
  obtain ⟨v1, vs1, d1, ds1, p1, q1, rfl, rfl, rfl, h1, r1⟩ := trodAll_cons r0
  obtain ⟨v2, vs2, d2, ds2, p2, q2, rfl, rfl, rfl, h2, r2⟩ := trodAll_cons r1
  obtain ⟨rfl, rfl, rfl⟩ := trodAll_nil r2
  obtain rfl : args = #[v0, v1, v2] := by cases args; simp_all
  obtain ⟨rfl, rfl⟩ := trodVars_none hV
  have k0 := h0
  have lt0 : ∀ x ∈ p0, x.block < W.heap.size := by obtain ⟨m, hm⟩ := k0; exact DataW.trod_lt m _ _ _ hm
  have k1 := h1
  have lt1 : ∀ x ∈ p1, x.block < W.heap.size := by obtain ⟨m, hm⟩ := k1; exact DataW.trod_lt m _ _ _ hm
  have k2 := h2
  have lt2 : ∀ x ∈ p2, x.block < W.heap.size := by obtain ⟨m, hm⟩ := k2; exact DataW.trod_lt m _ _ _ hm
  obtain ⟨a0, rfl, _, _, w0⟩ := open_int Tryd.underlying22 (hval 0 22 v0 rfl rfl) h0
  obtain ⟨a1, rfl, _, _, w1⟩ := open_int Tryd.underlying3 (hval 1 3 v1 rfl rfl) h1
  obtain ⟨A2, len2, cap2, rfl⟩ := okWide_slice Tryd.underlying23 (hval 2 23 v2 rfl rfl)
  have F2 : Four W A2 len2 := by
    obtain ⟨fuel, hf⟩ := h2
    rcases open_ints Tryd.underlying23 Tryd.underlying5 (by kernel_rfl) hf with ⟨hcs, _⟩ | ⟨x, l, c, zs, hcs, _, hl, hm, hz, _, hcell, hwz⟩
    · simp [Value.cells] at hcs
      obtain ⟨rfl, rfl, rfl⟩ := hcs
      exact .inl (by decide)
    · simp [Value.cells] at hcs
      obtain ⟨rfl, rfl, rfl⟩ := hcs
      exact four_of (by have h1 : zs.length = cap2 := by simpa using hz
                        omega) hcell hwz
  obtain ⟨hT, hTB⟩ := of_laid hL
  clear hA0 hval0
  refine (walk a0 a1 A2 len2 cap2 W w0 F2 hT hTB).mono fun e W' ⟨he, bel⟩ => ?_
  subst he
  exact ⟨_, rfl, _, _, _, [], _, [], hW', trodAll_mk1 (shut_bool Tryd.underlying4 _), (trodAll_cons_mk (Below.trod laidOut (by kernel_rfl) (of_decide_eq_true (by kernel_rfl)) k0 bel lt0) (trodAll_cons_mk (Below.trod laidOut (by kernel_rfl) (of_decide_eq_true (by kernel_rfl)) k1 bel lt1) (trodAll_cons_mk (Below.trod laidOut (by kernel_rfl) (of_decide_eq_true (by kernel_rfl)) k2 bel lt2) trodAll_mk0))), rfl, bel.frame _, fun h => by cases h⟩

theorem over : Rows.BitsRunsSaid :=
  OpenClaim.holds_of_wide 3 Tryd.f3 rfl rfl rfl rfl rfl rfl rfl ⟨rfl, rfl, rfl, rfl, rfl⟩ rfl rfl rfl rfl rfl (by kernel_rfl) Tryd.func3 (by kernel_rfl)
    (of_decide_eq_true (by kernel_rfl)) (by unfold Func.isWrapper; first | (rw [if_pos (by decide +kernel)]; kernel_rfl) | (rw [if_neg (by decide +kernel)]; exact ⟨rfl, rfl⟩))
    (fun os started H enc _ => lifted os started H enc)

/-- the given statement -/
theorem proved : Rows.BitsRunsCardSaid :=
  Claim7.holds_tied_plain_at .later [] [.data] true (true, "3255909d1a33e6bc464a5a0121ef09384b11ab66f64bb9fdf48690307156d8e2") false
    over (fun _ h => by cases h) (by kernel_rfl) (fun _ h => by cases h) bitsRuns_row_tie rfl ⟨rfl, rfl⟩ (by kernel_rfl) rfl
    (fun f fn hf hfn => by
      obtain rfl : f = 3 := Option.some.inj ((show Tryd.prog.funcNamed "cooper/cooperlaw01.BitsRuns" = some 3 by kernel_rfl).symm.trans hf) |>.symm
      obtain rfl : fn = Tryd.f3 := (Option.some.inj (Tryd.func3.symm.trans hfn)).symm
      exact ⟨by kernel_rfl, fun j t ht => by
        rw [Tryd.params3] at ht
        have hm : t ∈ Tryd.f3.params.toList := by
          have := Array.mem_of_getElem? ht
          simpa [Tryd.f3] using this
        have hall : (Tryd.f3.params.toList.all fun u => !Tryd.prog.wantsStandIn u) = true := by kernel_rfl
        exact (show Tryd.prog.wantsStandIn t = false by simpa using List.all_eq_true.1 hall t hm)⟩)
    (by kernel_rfl)
end Go.Proofs.YtfpaambihjijoaaDoor.bitsRuns
