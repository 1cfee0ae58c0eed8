/-
  What each call of the functions on fields (Get, Put; the program's and the document's own) returns, for every input; nothing that lay in memory has changed.
-/
import Derived.Test.YtfpaambihjijoaaDoorRows
import Derived.Test.YtfpaambihjijoaaDoorBitsMath
import Derived.WalkKit
import Derived.ProofKit
import Derived.WalkLawsBesides
import Derived.WalkSpells
import Derived.Laws.ShiftsVar
import Derived.Deep.RegionWith
import Derived.Deep.RegionHeld3
import Derived.Deep.QuietTactic
import Derived.BigQuiet
import Derived.Lib.Hide
namespace Go.Proofs.YtfpaambihjijoaaDoor
open Go.RowKit BM

/-! ### small things -/
theorem Below.thn {B : Nat} {w W w1 : World} (h : Below B w W) (hB : B ≤ W.heap.size) (k : Below W.heap.size W w1) : Below B w w1 := h.trans (k.mono hB)
theorem bcell {W w1 : World} (hb : Below W.heap.size W w1) : (∀ b o, b < W.heap.size → w1.cell? ⟨b, o, none⟩ = W.cell? ⟨b, o, none⟩) ∧ (∀ b o, b < W.heap.size → w1.frozen? ⟨b, o, none⟩ = W.frozen? ⟨b, o, none⟩) :=
  ⟨fun b o h => hb.cell (p := ⟨b, o, none⟩) h, fun b o h => hb.frozen (p := ⟨b, o, none⟩) h⟩
theorem ret1 {k : IntKind} {a b : Int} (h : a = b) : Ending.returned (.int k a) = .returned (.int k b) := by rw [h]
theorem ret1b {a b : Bool} (h : a = b) : Ending.returned (.bool a) = .returned (.bool b) := by rw [h]
theorem ret2 {k : IntKind} {a b e : Int} (h : a = b) : Ending.returned (.tuple #[.int k a, .int .i64 e]) = .returned (.tuple #[.int k b, .int .i64 e]) := by rw [h]

theorem quiet_eq {P : Program} {f : FuncId} {args : Array Value} {w : World} {n : Nat} {v : Value} (h : Calls P f args (w.drewN n) fun e w' => e = .returned v ∧ w.drewN n = w') :
    Calls P f args (w.drewN n) fun e w'' => e = .returned v ∧ ∃ m, w'' = w.drewN m := Calls.quiet_of_same (h.mono fun _ _ ⟨a, b⟩ => ⟨a, b.symm⟩)
/-- a struct of two numbers that lies in the first block of the call's own, through what leaves all that lay there as it was -/
theorem two_start0 {w w1 : World} {a b : Value} {T : TypeId} (hb : Below (w.alloc (.cells #[a, b] T)).heap.size (w.alloc (.cells #[a, b] T)) w1) :
    (w1.cell? ⟨w.heap.size, 0, none⟩ = some a ∧ w1.cell? ⟨w.heap.size, 1, none⟩ = some b) ∧ w.heap.size < w1.heap.size ∧ Below w.heap.size w w1 := by
  have hs := hb.size
  have h0 := (bcell hb).1 w.heap.size 0 (by simp)
  have h1 := (bcell hb).1 w.heap.size 1 (by simp)
  refine ⟨⟨?_, ?_⟩, ?_, ?_⟩
  · rw [h0]; simp [go_sem]
  · rw [h1]; simp [go_sem]
  · simp at hs ⊢; omega
  · exact Below.thn ((Below.refl _ _).alloc (Nat.le_refl _) _) (by simp) hb
theorem two_start {w w1 : World} {a b : Value} {T : TypeId} (hb : Below (w.alloc (.cells #[a, b] T)).heap.size (w.alloc (.cells #[a, b] T)) w1) :
    (w1.drew.cell? ⟨w.heap.size, 0, none⟩ = some a ∧ w1.drew.cell? ⟨w.heap.size, 1, none⟩ = some b) ∧ w.heap.size < w1.drew.heap.size ∧ Below w.heap.size w w1.drew :=
  have h := two_start0 hb
  ⟨h.1, h.2.1, h.2.2.drew⟩
theorem two_keep {w W w1 : World} {a b : Option Value} {B : Nat} (hb : Below W.heap.size W w1)
    (h : (W.cell? ⟨B, 0, none⟩ = a ∧ W.cell? ⟨B, 1, none⟩ = b) ∧ B < W.heap.size ∧ Below B w W) :
    (w1.cell? ⟨B, 0, none⟩ = a ∧ w1.cell? ⟨B, 1, none⟩ = b) ∧ B < w1.heap.size ∧ Below B w w1 := by
  obtain ⟨⟨h0, h1⟩, hz, hB⟩ := h
  have hs := hb.size
  refine ⟨⟨?_, ?_⟩, by omega, Below.thn hB (by omega) hb⟩
  · rw [(bcell hb).1 B 0 hz, h0]
  · rw [(bcell hb).1 B 1 hz, h1]
theorem two_drew {w W : World} {a b : Option Value} {B : Nat} 
    (h : (W.cell? ⟨B, 0, none⟩ = a ∧ W.cell? ⟨B, 1, none⟩ = b) ∧ B < W.heap.size ∧ Below B w W) :
    (W.drew.cell? ⟨B, 0, none⟩ = a ∧ W.drew.cell? ⟨B, 1, none⟩ = b) ∧ B < W.drew.heap.size ∧ Below B w W.drew := ⟨h.1, h.2.1, h.2.2.drew⟩

theorem wrap_u64 (n : Int) : IntKind.u64.wrap n = n % 18446744073709551616 := by simp [IntKind.wrap, IntKind.bits, IntKind.signed]

/-- n ones, as the code makes them in 64 bits -/
def onesI (n : Int) : Int := ((2 ^ n.toNat - 1 : Nat) : Int)
theorem onesI_bd {n : Int} (h : n ≤ 32) : 0 ≤ onesI n ∧ onesI n < 4294967296 := by
  unfold onesI
  have : 2 ^ n.toNat ≤ 2 ^ 32 := Nat.pow_le_pow_right (by decide) (by omega)
  have e : 2 ^ 32 = 4294967296 := by decide
  rw [e] at this
  have := Nat.two_pow_pos n.toNat
  omega
theorem ones_code32 {n : Int} (h : n ≤ 32) : IntKind.u64.wrap (IntKind.u64.wrap (2 ^ n.toNat) - 1) % 4294967296 = onesI n := by
  have hp : 2 ^ n.toNat ≤ 2 ^ 32 := Nat.pow_le_pow_right (by decide) (by omega)
  have e : 2 ^ 32 = 4294967296 := by decide
  rw [e] at hp
  have hq := Nat.two_pow_pos n.toNat
  have c : (2 : Int) ^ n.toNat = ((2 ^ n.toNat : Nat) : Int) := by simp
  unfold onesI
  rw [wrap_u64, wrap_u64, c]
  generalize 2 ^ n.toNat = X at *
  omega

/-- a field's value, a word with it, as the document's own functions reckon them -/
def getI (x l n : Int) : Int := ((getN x.toNat l.toNat n.toNat : Nat) : Int)
def putI (x l n v : Int) : Int := ((putN x.toNat l.toNat n.toNat v.toNat : Nat) : Int)

theorem get_val {x l n : Int} (b1 : 0 ≤ x) (b2 : x < 4294967296) (h4 : n ≤ 32) : bits .and .u32 (x / 2 ^ l.toNat) (onesI n) = getI x l n := by
  obtain ⟨X, rfl⟩ := Int.eq_ofNat_of_zero_le b1
  have ho := onesI_bd h4
  have c : ((X : Int) / 2 ^ l.toNat) = ((X / 2 ^ l.toNat : Nat) : Int) := by simp
  have hx : X / 2 ^ l.toNat < 4294967296 := Nat.lt_of_le_of_lt (Nat.div_le_self _ _) (by omega)
  rw [c, u32_and _ _ (Int.natCast_nonneg _) (by exact Int.ofNat_lt.2 hx) ho.1 ho.2, Int.toNat_natCast]
  unfold getI onesI
  rw [Int.toNat_natCast, Int.toNat_natCast, get_code]

/-- 2 to the power of n, as the reference makes it -/
def powI (n : Int) : Int := ((2 ^ n.toNat : Nat) : Int)
theorem powI_pos (n : Int) : 1 ≤ powI n := by unfold powI; have := Nat.two_pow_pos n.toNat; omega
theorem powI_le {n m : Int} (h : n ≤ m) : powI n ≤ powI m := by
  unfold powI; exact Int.ofNat_le.2 (Nat.pow_le_pow_right (by decide) (by omega))
theorem powI_63 {n : Int} (h : n ≤ 63) : powI n ≤ 9223372036854775808 := powI_le h
theorem powI_32 {n : Int} (h : n ≤ 32) : powI n ≤ 4294967296 := powI_le h
theorem powI_succ {k : Nat} : powI ((k + 1 : Nat) : Int) = 2 * powI (k : Int) := by
  unfold powI; simp only [Int.toNat_natCast, Nat.pow_succ]; omega

/-- a mask, as the code makes it -/
def maskI (l n : Int) : Int := (((2 ^ n.toNat - 1) * 2 ^ l.toNat : Nat) : Int)
theorem mask_le {l n : Nat} (h : l + n ≤ 32) : (2 ^ n - 1) * 2 ^ l ≤ 4294967295 := by
  have h1 : 2 ^ (l + n) ≤ 2 ^ 32 := Nat.pow_le_pow_right (by decide) h
  have e : 2 ^ 32 = 4294967296 := by decide
  rw [e, Nat.pow_add] at h1
  have h2 : (2 ^ n - 1) * 2 ^ l = 2 ^ l * 2 ^ n - 2 ^ l := by rw [Nat.sub_mul, Nat.one_mul, Nat.mul_comm]
  have := Nat.two_pow_pos l
  omega
theorem maskI_bd {l n : Int} (h1 : 0 ≤ l) (h3 : 1 ≤ n) (h5 : l + n ≤ 32) : 0 ≤ maskI l n ∧ maskI l n < 4294967296 := by
  unfold maskI
  have := mask_le (l := l.toNat) (n := n.toNat) (by omega)
  omega
theorem mask_val {l n : Int} (h1 : 0 ≤ l) (h3 : 1 ≤ n) (h5 : l + n ≤ 32) : IntKind.u32.wrap (onesI n * 2 ^ l.toNat) = maskI l n := by
  have hb := maskI_bd h1 h3 h5
  have c : onesI n * 2 ^ l.toNat = maskI l n := by unfold onesI maskI; simp
  rw [c, IntKind.wrap_u32']
  omega

theorem over_iff {v n : Int} (b1 : 0 ≤ v) (b2 : v < 4294967296) (h4 : n ≤ 32) : bits .andNot .u32 v (onesI n) = 0 ↔ v < powI n := by
  obtain ⟨V, rfl⟩ := Int.eq_ofNat_of_zero_le b1
  have ho := onesI_bd h4
  rw [u32_andNot _ _ b1 b2 ho.1 ho.2]
  have h := over_code 32 V n.toNat (by have e : 2 ^ 32 = 4294967296 := by decide
                                       rw [e]; omega) (by omega)
  have e2 : 2 ^ 32 - 1 = 4294967295 := by decide
  rw [e2] at h
  unfold onesI powI
  rw [Int.toNat_natCast, Int.toNat_natCast]
  constructor
  · intro g; exact Int.ofNat_lt.2 (h.1 (by omega))
  · intro g; rw [h.2 (Int.ofNat_lt.1 g)]; rfl
theorem over_no {v n : Int} (b1 : 0 ≤ v) (b2 : v < 4294967296) (h4 : n ≤ 32) (hv : v < powI n) : (bits .andNot .u32 v (onesI n) != 0) = false := by
  rw [(over_iff b1 b2 h4).2 hv]; rfl
theorem over_yes {v n : Int} (b1 : 0 ≤ v) (b2 : v < 4294967296) (h4 : n ≤ 32) (hv : ¬ v < powI n) : (bits .andNot .u32 v (onesI n) != 0) = true := by
  rw [bne_iff_ne]; exact fun g => hv ((over_iff b1 b2 h4).1 g)

theorem vl_le {v l n : Nat} (hv : v < 2 ^ n) (h : l + n ≤ 32) : v * 2 ^ l ≤ 4294967295 := by
  have h1 := Nat.mul_le_mul_right (2 ^ l) (show v ≤ 2 ^ n - 1 by omega)
  have := mask_le h
  omega
theorem putN_bd {x l n v : Nat} (hx : x < 4294967296) (hv : v < 2 ^ n) (h : l + n ≤ 32) : putN x l n v < 4294967296 := by
  have e : 2 ^ 32 = 4294967296 := by decide
  have := putN_lt x l n v 32 (by rw [e]; exact hx) hv h
  rw [e] at this; exact this
theorem put_val {x l n v : Int} (b1 : 0 ≤ x) (b2 : x < 4294967296) (c1 : 0 ≤ v) (hv : v < powI n) (h1 : 0 ≤ l) (h3 : 1 ≤ n) (h5 : l + n ≤ 32) :
    bits .or .u32 (bits .andNot .u32 x (maskI l n)) (IntKind.u32.wrap (v * 2 ^ l.toNat)) = putI x l n v := by
  obtain ⟨X, rfl⟩ := Int.eq_ofNat_of_zero_le b1
  obtain ⟨V, rfl⟩ := Int.eq_ofNat_of_zero_le c1
  have hm := maskI_bd h1 h3 h5
  have hv' : V < 2 ^ n.toNat := Int.ofNat_lt.1 hv
  have hs := vl_le hv' (show l.toNat + n.toNat ≤ 32 by omega)
  have c : (V : Int) * 2 ^ l.toNat = ((V * 2 ^ l.toNat : Nat) : Int) := by simp
  have cw : IntKind.u32.wrap ((V * 2 ^ l.toNat : Nat) : Int) = ((V * 2 ^ l.toNat : Nat) : Int) := by rw [IntKind.wrap_u32']; omega
  rw [c, cw, u32_andNot _ _ b1 b2 hm.1 hm.2]
  have ha : (X : Int).toNat &&& (4294967295 - (maskI l n).toNat) < 4294967296 := Nat.lt_of_le_of_lt Nat.and_le_left (by omega)
  rw [u32_or _ _ (Int.natCast_nonneg _) (by exact Int.ofNat_lt.2 ha) (Int.natCast_nonneg _) (by omega)]
  have e : 2 ^ 32 = 4294967296 := by decide
  have hc := put_code 32 X l.toNat n.toNat V (by rw [e]; omega) hv' (by omega)
  rw [show 2 ^ 32 - 1 = 4294967295 by decide] at hc
  unfold maskI putI
  simp only [Int.toNat_natCast]
  rw [hc]

/-- as the reference reckons them -/
theorem rget_val {x l n : Int} (b1 : 0 ≤ x) (b2 : x < 4294967296) : x / powI l % powI n % 4294967296 = getI x l n := by
  obtain ⟨X, rfl⟩ := Int.eq_ofNat_of_zero_le b1
  have h : getN X l.toNat n.toNat < 4294967296 := Nat.lt_of_le_of_lt (Nat.mod_le _ _) (Nat.lt_of_le_of_lt (Nat.div_le_self _ _) (by omega))
  have c : (X : Int) / powI l % powI n = ((getN X l.toNat n.toNat : Nat) : Int) := by unfold powI getN; simp
  rw [c]; unfold getI; rw [Int.toNat_natCast]; omega
theorem getI_bd {x l n : Int} (b1 : 0 ≤ x) (b2 : x < 4294967296) : 0 ≤ getI x l n ∧ getI x l n < 4294967296 := by
  have h : getN x.toNat l.toNat n.toNat < 4294967296 := Nat.lt_of_le_of_lt (Nat.mod_le _ _) (Nat.lt_of_le_of_lt (Nat.div_le_self _ _) (by omega))
  unfold getI; omega
theorem putI_bd {x l n v : Int} (b1 : 0 ≤ x) (b2 : x < 4294967296) (c1 : 0 ≤ v) (hv : v < powI n) (h1 : 0 ≤ l) (h3 : 1 ≤ n) (h5 : l + n ≤ 32) : 0 ≤ putI x l n v ∧ putI x l n v < 4294967296 := by
  have hv' : v.toNat < 2 ^ n.toNat := by have : ((2 ^ n.toNat : Nat) : Int) = powI n := rfl; omega
  have := putN_bd (x := x.toNat) (l := l.toNat) (by omega) hv' (show l.toNat + n.toNat ≤ 32 by omega)
  unfold putI; omega
theorem rput_val {x l n v : Int} (b1 : 0 ≤ x) (b2 : x < 4294967296) (c1 : 0 ≤ v) (hv : v < powI n) (h1 : 0 ≤ l) (h3 : 1 ≤ n) (h5 : l + n ≤ 32) :
    IntKind.u64.wrap (IntKind.u64.wrap (x - IntKind.u64.wrap (getI x l n * powI l)) + IntKind.u64.wrap (v * powI l)) % 4294967296 = putI x l n v := by
  have hb := putI_bd b1 b2 c1 hv h1 h3 h5
  have hg : getI x l n * powI l ≤ x := by
    have h := split3 x.toNat l.toNat n.toNat
    have : getI x l n * powI l = ((2 ^ l.toNat * getN x.toNat l.toNat n.toNat : Nat) : Int) := by unfold getI powI; rw [← Int.natCast_mul, Nat.mul_comm]
    omega
  have hg0 : 0 ≤ getI x l n * powI l := Int.mul_nonneg (getI_bd b1 b2).1 (by have := powI_pos l; omega)
  have hv' : v.toNat < 2 ^ n.toNat := by have : ((2 ^ n.toNat : Nat) : Int) = powI n := rfl; omega
  have hs := vl_le hv' (show l.toNat + n.toNat ≤ 32 by omega)
  have hs' : v * powI l = ((v.toNat * 2 ^ l.toNat : Nat) : Int) := by unfold powI; rw [Int.natCast_mul]; congr 1; omega
  have hp : putI x l n v = x - getI x l n * powI l + v * powI l := by
    have e1 : getI x l n * powI l = ((getN x.toNat l.toNat n.toNat * 2 ^ l.toNat : Nat) : Int) := by unfold getI powI; rw [← Int.natCast_mul]
    have e2 : putI x l n v = ((x.toNat - getN x.toNat l.toNat n.toNat * 2 ^ l.toNat + v.toNat * 2 ^ l.toNat : Nat) : Int) := rfl
    rw [e1] at hg
    rw [hs', e1, e2]
    generalize getN x.toNat l.toNat n.toNat * 2 ^ l.toNat = G at *
    generalize v.toNat * 2 ^ l.toNat = V at *
    omega
  rw [wrap_u64, wrap_u64, wrap_u64, wrap_u64, hp]
  rw [hp] at hb
  generalize getI x l n * powI l = G at *
  generalize v * powI l = V at *
  omega

end Go.Proofs.YtfpaambihjijoaaDoor
