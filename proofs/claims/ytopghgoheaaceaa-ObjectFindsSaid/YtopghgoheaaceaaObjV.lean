/-
  At, the program's and the document's: what each call returns. Conditions: how the object lies.
-/
import Derived.Test.YtopghgoheaaceaaObjP
import Derived.Test.YtopghgoheaaceaaObjL
namespace Go.Proofs.Ytopghgoheaaceaa
open Go.RowKit
set_option linter.unusedVariables false
set_option linter.unusedSimpArgs false

/-- one symbol more: the number and the value of the best one -/
def atStep (sec off : Int) (st : Option (Nat × Int)) (i : Nat) (y : Sy) : Option (Nat × Int) :=
  if (y.sec == sec) = true then if y.val ≤ off then match st with
    | none => some (i, y.val)
    | some (a, v) => if v < y.val then some (i, y.val) else some (a, v)
  else st else st
def atGo (sec off : Int) : Nat → Option (Nat × Int) → List Sy → Option (Nat × Int)
  | _, st, [] => st
  | i, st, y :: L => atGo sec off (i + 1) (atStep sec off st i y) L
def atL (sec off : Int) (L : List Sy) : Option (Nat × Int) := atGo sec off 0 none L
theorem atGo_snoc (sec off : Int) : ∀ (L : List Sy) (i : Nat) (st : Option (Nat × Int)) (y : Sy), atGo sec off i st (L ++ [y]) = atStep sec off (atGo sec off i st L) (i + L.length) y
  | [], i, st, y => rfl
  | x :: L, i, st, y => by
    show atGo sec off (i + 1) _ (L ++ [y]) = _
    rw [atGo_snoc sec off L (i + 1)]
    rw [show i + 1 + L.length = i + (x :: L).length by rw [List.length_cons]; omega]
    rfl
theorem atL_take {sec off : Int} {L : List Sy} {k : Nat} {y : Sy} (h : L[k]? = some y) : atL sec off (L.take (k + 1)) = atStep sec off (atL sec off (L.take k)) k y := by
  have hk : k < L.length := (List.getElem?_eq_some_iff.1 h).1
  rw [List.take_add_one, h]
  show atGo sec off 0 none (L.take k ++ [y]) = _
  rw [atGo_snoc, List.length_take, Nat.min_eq_left (by omega), Nat.zero_add]
  rfl
/-- the best one is a symbol ahead -/
def AtOk (L : List Sy) (k : Nat) : Option (Nat × Int) → Prop
  | none => True
  | some (a, v) => a < k ∧ ∃ y, L[a]? = some y ∧ y.val = v
theorem atOk_none (L : List Sy) (k : Nat) : AtOk L k none := trivial
theorem atOk_new {L : List Sy} {k : Nat} {y : Sy} (h : L[k]? = some y) : AtOk L (k + 1) (some (k, y.val)) := ⟨by omega, y, h, rfl⟩
theorem atOk_old {L : List Sy} {k : Nat} {st : Option (Nat × Int)} (h : AtOk L k st) : AtOk L (k + 1) st := by
  cases st with
  | none => trivial
  | some p => exact ⟨by have := h.1; omega, h.2⟩
def atO (o : Option (Nat × Int)) : Ending := match o with
  | some (a, _) => .returned (.tuple #[.int .i64 (a : Int), .bool true])
  | none => .returned (.tuple #[.int .i64 0, .bool false])
def atIP (st : Option (Nat × Int)) : Int := match st with
  | some (a, _) => (a : Int)
  | none => 0
set_option maxRecDepth 100000 in
set_option maxHeartbeats 4000000 in
theorem at_any (o : Obj') (sec off : Int) (w : World) (ho : ObjO w o) :
    Calls Try.prog 26 #[obV o, .int .i64 sec, .int .i64 off] w fun e w' => e = atO (atL sec off o.syms) ∧ Below w.heap.size w w' := by
  have HO := Lib.hid ho
  have hl2 := ho.2.len
  obtain ⟨sv, yv, secs, syms⟩ := o
  obtain ⟨sa, sc, h1⟩ := ho.1.slice
  obtain ⟨ya, yc, h2⟩ := ho.2.slice
  unfold maxLen at hl2
  simp only at h1 h2 hl2
  subst h1 h2
  clear ho
  have AT := Lib.hid (fun (k : Nat) (y : Sy) (h : syms[k]? = some y) => atL_take (sec := sec) (off := off) h)
  have AF : Hid (∀ st, atL sec off (syms.take syms.length) = st → atL sec off syms = st) := Lib.hid (fun st h => by rw [List.take_length] at h; exact h)
  unfold obV
  simp only
  generalize atL sec off syms = R at *
  obtain ⟨W1, hW1⟩ : ∃ W1, w.alloc (.cells #[.slice sa secs.length sc, .slice ya syms.length yc] 25) = W1 := ⟨_, rfl⟩
  have HB1 : Hid (Below w.heap.size w W1) := Lib.hid (by rw [← hW1]; exact below1 w _)
  have hz1 : w.heap.size < W1.heap.size := by rw [← hW1]; simp
  have c1 : W1.cell? ⟨w.heap.size, 1, none⟩ = some (.slice ya syms.length yc) := by rw [← hW1]; exact cells_new w _ _ 1 _ rfl
  go_enter Try.func26, Try.ntmps26
  go_wp2_with fail
  clear hW1
  go_loopw [15, 8, 9] (fun iv av fv wr => ∃ (k : Nat) (st : Option (Nat × Int)), k ≤ syms.length ∧ iv = .int .i64 (k : Int) ∧ av = .int .i64 (atIP st) ∧ fv = .bool st.isSome ∧ Hid (atL sec off (syms.take k) = st ∧ AtOk syms k st) ∧ Hid (Below W1.heap.size W1 wr)) (fun iv av fv _ => syms.length - (intOf iv).toNat)
  case atStart => exact ⟨0, none, Nat.zero_le _, rfl, rfl, rfl, Lib.hid ⟨rfl, trivial⟩, Lib.hid (Below.refl _ _)⟩
  case round =>
    obtain ⟨k, st, hk, rfl, rfl, rfl, hst, hbr⟩ := hrel
    have g1 := (bcell hbr.out).1 w.heap.size 1 hz1 |>.trans c1
    have hz2 := Nat.lt_of_lt_of_le hz1 hbr.out.size
    have HBR := Lib.hid (Below.thn HB1.out HB1.out.size hbr.out)
    by_cases hlt : (k : Int) < (syms.length : Int)
    · have hlt' : k < syms.length := by omega
      obtain ⟨g, off0, cap, x, hx, hv, hg, x0, x1, x2, x3⟩ := (HO.out.keep HBR.out).2.at hlt'
      cases hv
      have w9 : IntKind.i64.wrap ((k : Int) + 1) = ((k + 1 : Nat) : Int) := by rw [IntWalk.i64_in _ (by omega)]; omega
      have ST : Hid (atL sec off (syms.take (k + 1)) = atStep sec off st k x) := Lib.hid (by rw [AT.out k x hx, hst.out.1])
      have OKn := Lib.hid (atOk_new hx)
      have OKo := Lib.hid (atOk_old hst.out.2)
      have HN := Lib.hid (hbr.out.alloc hbr.out.size (.cells #[.string x.name, .int .i64 x.sec, .int .i64 x.val, .bool x.gl] 36))
      unfold atStep at ST
      have AB : Hid (∀ a v, st = some (a, v) → a < k ∧ wr.cell? ⟨g, off0 + a * 4 + 2, none⟩ = some (.int .i64 v)) := Lib.hid (fun a v hs => by
        have h := hst.out.2
        rw [hs] at h
        obtain ⟨h1, y, hy, hyv⟩ := h
        obtain ⟨g', off', cap', z, hz, hv, _, _, _, z2, _⟩ := (HO.out.keep HBR.out).2.at (k := a) (show a < syms.length by omega)
        cases hv
        rw [hy] at hz
        cases hz
        exact ⟨h1, by rw [z2, hyv]⟩)
      clear hx hst
      obtain ⟨name, ysec, yval, gl⟩ := x
      simp only at x0 x1 x2 x3 ST OKn HN
      cases st with
      | none =>
        clear AB
        unfold atIP
        simp only [Option.isSome]
        cases d1 : (ysec == sec) with
        | false =>
          rw [d1, if_neg (by decide)] at ST
          have HE := Lib.hid (show atL sec off (syms.take (k + 1)) = none ∧ AtOk syms (k + 1) (none) from ⟨ST.out, OKo.out⟩)
          clear ST OKn OKo
          go_wp2_with fail
          go_quiet (fail)
          go_wp2_with fail
          go_roundw
          case rel => exact ⟨k + 1, none, by omega, by first | rfl | rw [← w9], rfl, rfl, HE, Lib.hid (below_drewN HN.out _)⟩
          case measure => simp [intOf]; omega
        | true =>
          rw [d1, if_pos rfl] at ST
          by_cases d2 : yval ≤ off
          · rw [if_pos d2] at ST
            replace d2 := decide_eq_true d2
            have HE := Lib.hid (show atL sec off (syms.take (k + 1)) = some (k, yval) ∧ AtOk syms (k + 1) (some (k, yval)) from ⟨ST.out, OKn.out⟩)
            clear ST OKn OKo
            go_wp2_with fail
            go_quiet (fail)
            go_wp2_with fail
            go_roundw
            case rel => exact ⟨k + 1, some (k, yval), by omega, by first | rfl | rw [← w9], rfl, rfl, HE, Lib.hid (below_drewN HN.out _)⟩
            case measure => simp [intOf]; omega
          · rw [if_neg d2] at ST
            replace d2 := decide_eq_false d2
            have HE := Lib.hid (show atL sec off (syms.take (k + 1)) = none ∧ AtOk syms (k + 1) (none) from ⟨ST.out, OKo.out⟩)
            clear ST OKn OKo
            go_wp2_with fail
            go_quiet (fail)
            go_wp2_with fail
            go_roundw
            case rel => exact ⟨k + 1, none, by omega, by first | rfl | rw [← w9], rfl, rfl, HE, Lib.hid (below_drewN HN.out _)⟩
            case measure => simp [intOf]; omega
      | some p =>
        obtain ⟨a, v⟩ := p
        obtain ⟨hak, ha⟩ := AB.out a v rfl
        clear AB
        have hai : (a : Int) < (syms.length : Int) := by omega
        have han : ¬ (a : Int) < 0 := by omega
        unfold atIP
        simp only [Option.isSome]
        cases d1 : (ysec == sec) with
        | false =>
          rw [d1, if_neg (by decide)] at ST
          have HE := Lib.hid (show atL sec off (syms.take (k + 1)) = some (a, v) ∧ AtOk syms (k + 1) (some (a, v)) from ⟨ST.out, OKo.out⟩)
          clear ST OKn OKo
          go_wp2_with fail
          go_quiet (fail)
          go_wp2_with fail
          go_roundw
          case rel => exact ⟨k + 1, some (a, v), by omega, by first | rfl | rw [← w9], rfl, rfl, HE, Lib.hid (below_drewN HN.out _)⟩
          case measure => simp [intOf]; omega
        | true =>
          rw [d1, if_pos rfl] at ST
          by_cases d2 : yval ≤ off
          · rw [if_pos d2] at ST
            replace d2 := decide_eq_true d2
            by_cases d3 : v < yval
            · have HE := Lib.hid (show atL sec off (syms.take (k + 1)) = some (k, yval) ∧ AtOk syms (k + 1) (some (k, yval)) from ⟨ST.out.trans (if_pos d3), OKn.out⟩)
              replace d3 := decide_eq_true d3
              clear ST OKn OKo
              go_wp2_with fail
              go_quiet (fail)
              go_wp2_with fail
              go_roundw
              case rel => exact ⟨k + 1, some (k, yval), by omega, by first | rfl | rw [← w9], rfl, rfl, HE, Lib.hid (below_drewN HN.out _)⟩
              case measure => simp [intOf]; omega
            · have HE := Lib.hid (show atL sec off (syms.take (k + 1)) = some (a, v) ∧ AtOk syms (k + 1) (some (a, v)) from ⟨ST.out.trans (if_neg d3), OKo.out⟩)
              replace d3 := decide_eq_false d3
              clear ST OKn OKo
              go_wp2_with fail
              go_quiet (fail)
              go_wp2_with fail
              go_roundw
              case rel => exact ⟨k + 1, some (a, v), by omega, by first | rfl | rw [← w9], rfl, rfl, HE, Lib.hid (below_drewN HN.out _)⟩
              case measure => simp [intOf]; omega
          · rw [if_neg d2] at ST
            replace d2 := decide_eq_false d2
            have HE := Lib.hid (show atL sec off (syms.take (k + 1)) = some (a, v) ∧ AtOk syms (k + 1) (some (a, v)) from ⟨ST.out, OKo.out⟩)
            clear ST OKn OKo
            go_wp2_with fail
            go_quiet (fail)
            go_wp2_with fail
            go_roundw
            case rel => exact ⟨k + 1, some (a, v), by omega, by first | rfl | rw [← w9], rfl, rfl, HE, Lib.hid (below_drewN HN.out _)⟩
            case measure => simp [intOf]; omega
    · have HE := Lib.hid (AF.out st (by rw [show syms.length = k by omega]; exact hst.out.1))
      cases st with
      | none =>
        unfold atIP
        simp only [Option.isSome]
        go_wp2_with fail
        go_ret2
        exact ⟨by rw [HE.out]; rfl, HBR.out⟩
      | some p =>
        obtain ⟨a, v⟩ := p
        unfold atIP
        simp only [Option.isSome]
        have han : ¬ (a : Int) < 0 := by omega
        go_wp2_with fail
        go_ret2
        exact ⟨by rw [HE.out]; rfl, HBR.out⟩
def atID (st : Option (Nat × Int)) : Int := match st with
  | some (a, _) => (a : Int)
  | none => (-1)
set_option maxRecDepth 100000 in
set_option maxHeartbeats 4000000 in
theorem rat_any (o : Obj') (sec off : Int) (w : World) (ho : ObjO w o) :
    Calls Try.prog 27 #[obV o, .int .i64 sec, .int .i64 off] w fun e w' => e = atO (atL sec off o.syms) ∧ Below w.heap.size w w' := by
  have HO := Lib.hid ho
  have hl2 := ho.2.len
  obtain ⟨sv, yv, secs, syms⟩ := o
  obtain ⟨sa, sc, h1⟩ := ho.1.slice
  obtain ⟨ya, yc, h2⟩ := ho.2.slice
  unfold maxLen at hl2
  simp only at h1 h2 hl2
  subst h1 h2
  clear ho
  have AT := Lib.hid (fun (k : Nat) (y : Sy) (h : syms[k]? = some y) => atL_take (sec := sec) (off := off) h)
  have AF : Hid (∀ st, atL sec off (syms.take syms.length) = st → atL sec off syms = st) := Lib.hid (fun st h => by rw [List.take_length] at h; exact h)
  unfold obV
  simp only
  generalize atL sec off syms = R at *
  obtain ⟨W1, hW1⟩ : ∃ W1, w.alloc (.cells #[.slice sa secs.length sc, .slice ya syms.length yc] 25) = W1 := ⟨_, rfl⟩
  have HB1 : Hid (Below w.heap.size w W1) := Lib.hid (by rw [← hW1]; exact below1 w _)
  have hz1 : w.heap.size < W1.heap.size := by rw [← hW1]; simp
  have c1 : W1.cell? ⟨w.heap.size, 1, none⟩ = some (.slice ya syms.length yc) := by rw [← hW1]; exact cells_new w _ _ 1 _ rfl
  go_enter Try.func27, Try.ntmps27
  go_wp2_with fail
  clear hW1
  go_loopw [9, 8] (fun iv av wr => ∃ (k : Nat) (st : Option (Nat × Int)), k ≤ syms.length ∧ iv = .int .i64 (k : Int) ∧ av = .int .i64 (atID st) ∧ Hid (atL sec off (syms.take k) = st ∧ AtOk syms k st) ∧ Hid (Below W1.heap.size W1 wr)) (fun iv av _ => syms.length - (intOf iv).toNat)
  case atStart => exact ⟨0, none, Nat.zero_le _, rfl, rfl, Lib.hid ⟨rfl, trivial⟩, Lib.hid (Below.refl _ _)⟩
  case round =>
    obtain ⟨k, st, hk, rfl, rfl, hst, hbr⟩ := hrel
    have g1 := (bcell hbr.out).1 w.heap.size 1 hz1 |>.trans c1
    have hz2 := Nat.lt_of_lt_of_le hz1 hbr.out.size
    have HBR := Lib.hid (Below.thn HB1.out HB1.out.size hbr.out)
    by_cases hlt : (k : Int) < (syms.length : Int)
    · have hlt' : k < syms.length := by omega
      obtain ⟨g, off0, cap, x, hx, hv, hg, x0, x1, x2, x3⟩ := (HO.out.keep HBR.out).2.at hlt'
      cases hv
      have w9 : IntKind.i64.wrap ((k : Int) + 1) = ((k + 1 : Nat) : Int) := by rw [IntWalk.i64_in _ (by omega)]; omega
      have ST : Hid (atL sec off (syms.take (k + 1)) = atStep sec off st k x) := Lib.hid (by rw [AT.out k x hx, hst.out.1])
      have OKn := Lib.hid (atOk_new hx)
      have OKo := Lib.hid (atOk_old hst.out.2)
      have HN := Lib.hid (hbr.out.alloc hbr.out.size (.cells #[.string x.name, .int .i64 x.sec, .int .i64 x.val, .bool x.gl] 36))
      unfold atStep at ST
      have AB : Hid (∀ a v, st = some (a, v) → a < k ∧ wr.cell? ⟨g, off0 + a * 4 + 2, none⟩ = some (.int .i64 v)) := Lib.hid (fun a v hs => by
        have h := hst.out.2
        rw [hs] at h
        obtain ⟨h1, y, hy, hyv⟩ := h
        obtain ⟨g', off', cap', z, hz, hv, _, _, _, z2, _⟩ := (HO.out.keep HBR.out).2.at (k := a) (show a < syms.length by omega)
        cases hv
        rw [hy] at hz
        cases hz
        exact ⟨h1, by rw [z2, hyv]⟩)
      clear hx hst
      obtain ⟨name, ysec, yval, gl⟩ := x
      simp only at x0 x1 x2 x3 ST OKn HN
      cases st with
      | none =>
        clear AB
        unfold atID
        simp only [Option.isSome]
        cases d1 : (ysec == sec) with
        | false =>
          rw [d1, if_neg (by decide)] at ST
          have HE := Lib.hid (show atL sec off (syms.take (k + 1)) = none ∧ AtOk syms (k + 1) (none) from ⟨ST.out, OKo.out⟩)
          clear ST OKn OKo
          go_wp2_with fail
          go_quiet (fail)
          go_wp2_with fail
          go_roundw
          case rel => exact ⟨k + 1, none, by omega, by first | rfl | rw [← w9], rfl, HE, Lib.hid (below_drewN HN.out _)⟩
          case measure => simp [intOf]; omega
        | true =>
          rw [d1, if_pos rfl] at ST
          by_cases d2 : yval ≤ off
          · rw [if_pos d2] at ST
            replace d2 := decide_eq_true d2
            have HE := Lib.hid (show atL sec off (syms.take (k + 1)) = some (k, yval) ∧ AtOk syms (k + 1) (some (k, yval)) from ⟨ST.out, OKn.out⟩)
            clear ST OKn OKo
            go_wp2_with fail
            go_quiet (fail)
            go_wp2_with fail
            go_roundw
            case rel => exact ⟨k + 1, some (k, yval), by omega, by first | rfl | rw [← w9], rfl, HE, Lib.hid (below_drewN HN.out _)⟩
            case measure => simp [intOf]; omega
          · rw [if_neg d2] at ST
            replace d2 := decide_eq_false d2
            have HE := Lib.hid (show atL sec off (syms.take (k + 1)) = none ∧ AtOk syms (k + 1) (none) from ⟨ST.out, OKo.out⟩)
            clear ST OKn OKo
            go_wp2_with fail
            go_quiet (fail)
            go_wp2_with fail
            go_roundw
            case rel => exact ⟨k + 1, none, by omega, by first | rfl | rw [← w9], rfl, HE, Lib.hid (below_drewN HN.out _)⟩
            case measure => simp [intOf]; omega
      | some p =>
        obtain ⟨a, v⟩ := p
        obtain ⟨hak, ha⟩ := AB.out a v rfl
        clear AB
        have hai : (a : Int) < (syms.length : Int) := by omega
        have han : ¬ (a : Int) < 0 := by omega
        unfold atID
        simp only [Option.isSome]
        cases d1 : (ysec == sec) with
        | false =>
          rw [d1, if_neg (by decide)] at ST
          have HE := Lib.hid (show atL sec off (syms.take (k + 1)) = some (a, v) ∧ AtOk syms (k + 1) (some (a, v)) from ⟨ST.out, OKo.out⟩)
          clear ST OKn OKo
          go_wp2_with fail
          go_quiet (fail)
          go_wp2_with fail
          go_roundw
          case rel => exact ⟨k + 1, some (a, v), by omega, by first | rfl | rw [← w9], rfl, HE, Lib.hid (below_drewN HN.out _)⟩
          case measure => simp [intOf]; omega
        | true =>
          rw [d1, if_pos rfl] at ST
          by_cases d2 : yval ≤ off
          · rw [if_pos d2] at ST
            replace d2 := decide_eq_true d2
            by_cases d3 : v < yval
            · have HE := Lib.hid (show atL sec off (syms.take (k + 1)) = some (k, yval) ∧ AtOk syms (k + 1) (some (k, yval)) from ⟨ST.out.trans (if_pos d3), OKn.out⟩)
              replace d3 := decide_eq_true d3
              clear ST OKn OKo
              go_wp2_with fail
              go_quiet (fail)
              go_wp2_with fail
              go_roundw
              case rel => exact ⟨k + 1, some (k, yval), by omega, by first | rfl | rw [← w9], rfl, HE, Lib.hid (below_drewN HN.out _)⟩
              case measure => simp [intOf]; omega
            · have HE := Lib.hid (show atL sec off (syms.take (k + 1)) = some (a, v) ∧ AtOk syms (k + 1) (some (a, v)) from ⟨ST.out.trans (if_neg d3), OKo.out⟩)
              replace d3 := decide_eq_false d3
              clear ST OKn OKo
              go_wp2_with fail
              go_quiet (fail)
              go_wp2_with fail
              go_roundw
              case rel => exact ⟨k + 1, some (a, v), by omega, by first | rfl | rw [← w9], rfl, HE, Lib.hid (below_drewN HN.out _)⟩
              case measure => simp [intOf]; omega
          · rw [if_neg d2] at ST
            replace d2 := decide_eq_false d2
            have HE := Lib.hid (show atL sec off (syms.take (k + 1)) = some (a, v) ∧ AtOk syms (k + 1) (some (a, v)) from ⟨ST.out, OKo.out⟩)
            clear ST OKn OKo
            go_wp2_with fail
            go_quiet (fail)
            go_wp2_with fail
            go_roundw
            case rel => exact ⟨k + 1, some (a, v), by omega, by first | rfl | rw [← w9], rfl, HE, Lib.hid (below_drewN HN.out _)⟩
            case measure => simp [intOf]; omega
    · have HE := Lib.hid (AF.out st (by rw [show syms.length = k by omega]; exact hst.out.1))
      cases st with
      | none =>
        unfold atID
        simp only [Option.isSome]
        go_wp2_with fail
        go_ret2
        exact ⟨by rw [HE.out]; rfl, HBR.out⟩
      | some p =>
        obtain ⟨a, v⟩ := p
        unfold atID
        simp only [Option.isSome]
        have han : ¬ (a : Int) < 0 := by omega
        go_wp2_with fail
        go_ret2
        exact ⟨by rw [HE.out]; rfl, HBR.out⟩
end Go.Proofs.Ytopghgoheaaceaa
