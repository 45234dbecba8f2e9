
/- Words of keys, plain: their bits, what a target weighs, orders of targets. No walk. -/
import Derived.Test.YtbhamkmiagdimaaDoorKsTargets
import Derived.Test.YtbhamkmiagdimaaDoorKsOrdP
import Derived.Test.YtbhamkmiagdimaaDoorKsHas
import Derived.Laws.BitsLemmas
namespace Go.Proofs.YtbhamkmiagdimaaDoor
open Go.RowKit Go.Shelf Go.Lib Go.Sort

def bitsTo (p : Nat → Bool) : Nat → Nat
  | 0 => 0
  | n + 1 => bitsTo p n ||| (if p n = true then 2 ^ n else 0)
theorem bitsTo_test (p : Nat → Bool) : ∀ n i, (bitsTo p n).testBit i = (decide (i < n) && p i)
  | 0, i => by simp [bitsTo]
  | n + 1, i => by
    rw [bitsTo, Nat.testBit_or, bitsTo_test p n i]
    by_cases e : i = n
    · subst e
      by_cases hp : p i = true
      · rw [if_pos hp, Nat.testBit_two_pow_self, hp]; simp
      · have hp' : p i = false := by simpa using hp
        rw [if_neg hp, hp']; simp
    · have h1 : (if p n = true then 2 ^ n else 0).testBit i = false := by
        by_cases hp : p n = true
        · rw [if_pos hp, Nat.testBit_two_pow_of_ne (fun x => e x.symm)]
        · rw [if_neg hp, Nat.zero_testBit]
      rw [h1, Bool.or_false]
      congr 1
      exact decide_eq_decide.2 (by omega)
theorem bitsTo_lt (p : Nat → Bool) : ∀ n, bitsTo p n < 2 ^ n
  | 0 => by simp [bitsTo]
  | n + 1 => by
    have ih := bitsTo_lt p n
    rw [bitsTo]
    refine Nat.or_lt_two_pow (by rw [Nat.pow_succ]; omega) ?_
    by_cases hp : p n = true
    · rw [if_pos hp, Nat.pow_succ]; have := Nat.two_pow_pos n; omega
    · rw [if_neg hp]; exact Nat.two_pow_pos _
theorem bitsTo_32 (p : Nat → Bool) {n : Nat} (h : n ≤ 32) : bitsTo p n < 4294967296 := by
  have h1 := bitsTo_lt p n
  have h2 : 2 ^ n ≤ 2 ^ 32 := Nat.pow_le_pow_right (by decide) h
  omega
theorem testBit_div (m i : Nat) : m / 2 ^ i % 2 = if m.testBit i = true then 1 else 0 := by
  rw [Nat.testBit_eq_decide_div_mod_eq]
  have := Nat.mod_two_eq_zero_or_one (m / 2 ^ i)
  rcases this with h | h <;> simp [h]
theorem pow_cast (i : Nat) : ((2 : Int) ^ i) = ((2 ^ i : Nat) : Int) := by simp
theorem wrap_i64_small {n : Int} (h0 : 0 ≤ n) (h1 : n < 4294967296) : IntKind.i64.wrap n = n := by rw [IntKind.wrap_i64]; omega
theorem wrap_u32_small {n : Int} (h0 : 0 ≤ n) (h1 : n < 4294967296) : IntKind.u32.wrap n = n := by rw [IntKind.wrap_u32]; omega
theorem pow_lt {i : Nat} (h : i < 32) : 2 ^ i < 4294967296 := Nat.lt_of_lt_of_le (Nat.pow_lt_pow_right (by decide) h) (by decide)
theorem or_i64 {a b : Nat} (ha : a < 4294967296) (hb : b < 4294967296) : bits .or .i64 (a : Int) (b : Int) = ((a ||| b : Nat) : Int) :=
  (bits_nat .i64 32 (by decide) (fun n h0 h1 => wrap_i64_small h0 (by simpa using h1)) a b (by simpa using ha) (by simpa using hb)).2
theorem and_i64 {a b : Nat} (ha : a < 4294967296) (hb : b < 4294967296) : bits .and .i64 (a : Int) (b : Int) = ((a &&& b : Nat) : Int) :=
  (bits_nat .i64 32 (by decide) (fun n h0 h1 => wrap_i64_small h0 (by simpa using h1)) a b (by simpa using ha) (by simpa using hb)).1
theorem or_u32 {a b : Nat} (ha : a < 4294967296) (hb : b < 4294967296) : bits .or .u32 (a : Int) (b : Int) = ((a ||| b : Nat) : Int) :=
  (bits_nat .u32 32 (by decide) (fun n h0 h1 => wrap_u32_small h0 (by simpa using h1)) a b (by simpa using ha) (by simpa using hb)).2
theorem and_u32 {a b : Nat} (ha : a < 4294967296) (hb : b < 4294967296) : bits .and .u32 (a : Int) (b : Int) = ((a &&& b : Nat) : Int) :=
  (bits_nat .u32 32 (by decide) (fun n h0 h1 => wrap_u32_small h0 (by simpa using h1)) a b (by simpa using ha) (by simpa using hb)).1
theorem and_one (m : Nat) : m &&& 1 = m % 2 := Nat.and_two_pow_sub_one_eq_mod m 1
/-- One bit, as both sides test it. -/
theorem bit_int (m i : Nat) : ((m : Int) / 2 ^ i) = ((m / 2 ^ i : Nat) : Int) := by simp

/-! the words of a switch's targets -/
def wordN (d : Array CaseD) (t : Int) (n : Nat) : Nat := bitsTo (fun i => goB d i == t) n
theorem wordN_succ (d : Array CaseD) (t : Int) (n : Nat) : wordN d t (n + 1) = wordN d t n ||| (if goB d n = t then 2 ^ n else 0) := by
  unfold wordN
  rw [bitsTo]
  congr 1
  by_cases h : goB d n = t <;> simp [h]
theorem wordN_hit {d : Array CaseD} {t : Int} {n : Nat} (h : goB d n = t) : wordN d t (n + 1) = wordN d t n ||| 2 ^ n := by rw [wordN_succ, if_pos h]
theorem wordN_miss {d : Array CaseD} {t : Int} {n : Nat} (h : goB d n ≠ t) : wordN d t (n + 1) = wordN d t n := by rw [wordN_succ, if_neg h, Nat.or_zero]
theorem wordN_lt (d : Array CaseD) (t : Int) {n : Nat} (h : n ≤ 32) : wordN d t n < 4294967296 := bitsTo_32 _ h
theorem wordN_bit (d : Array CaseD) (t : Int) {i : Nat} (h : i < 32) : wordN d t 32 / 2 ^ i % 2 = if goB d i = t then 1 else 0 := by
  rw [testBit_div, wordN, bitsTo_test]
  by_cases e : goB d i = t <;> simp [h, e]

/-- The targets: a to h, and z. -/
def letN (s : ByteArray) : Bool := decide (s.size = 1) && (tgtB (tg0 s) || (tg0 s == 122))
theorem letN_size {s : ByteArray} (h : letN s = true) : s.size = 1 := by
  simp only [letN, Bool.and_eq_true, decide_eq_true_eq] at h
  exact h.1
theorem letN_range {s : ByteArray} (h : letN s = true) : 97 ≤ tg0 s ∧ tg0 s ≤ 122 := by
  simp only [letN, Bool.and_eq_true, Bool.or_eq_true, tgtB, decide_eq_true_eq, beq_iff_eq] at h
  omega
noncomputable def maskB (d : Array CaseD) (rest : Int) (s : ByteArray) : Bool := swB d rest && letN s
noncomputable def maskN (d : Array CaseD) (rest : Int) (s : ByteArray) : Int := if maskB d rest s = true then (wordN d (tg0 s) 32 : Int) else 0

/-! what a target weighs -/
def wgtE (d : Array CaseD) (t : Int) (j : Nat) : Int := if tgJ d j = t then d[j]!.weight else 0
def wgtS (d : Array CaseD) (t : Int) (k : Nat) : Int := sumTo (wgtE d t) k
theorem wgtS_hit {d : Array CaseD} {t : Int} {k : Nat} (h : tgJ d k = t) : wgtS d t (k + 1) = wgtS d t k + d[k]!.weight := by
  show sumTo _ k + wgtE d t k = _
  rw [wgtE, if_pos h]; rfl
theorem wgtS_miss {d : Array CaseD} {t : Int} {k : Nat} (h : tgJ d k ≠ t) : wgtS d t (k + 1) = wgtS d t k := by
  show sumTo _ k + wgtE d t k = _
  rw [wgtE, if_neg h]
  exact Int.add_zero _
theorem wgtS_le {d : Array CaseD} {rest : Int} (h : SwOK d rest) (t : Int) : ∀ k, k ≤ d.size → 0 ≤ wgtS d t k ∧ wgtS d t k ≤ 100 * k :=
  sumTo_le (n := d.size) fun j hj => by
    have := caseB_weight (h.case j hj)
    unfold wgtE
    split <;> omega
theorem wgtS_z {d : Array CaseD} {rest : Int} (h : SwOK d rest) : ∀ k, k ≤ d.size → wgtS d 122 k = 0
  | 0, _ => rfl
  | k + 1, hk => by
    have hl := caseB_letter (h.case k (by omega))
    rw [wgtS_miss (show tgJ d k ≠ 122 by unfold tgJ; omega), wgtS_z h k (by omega)]
/-- How often keys of a target come. -/
def wgtT (d : Array CaseD) (rest t : Int) : Int := if t = 122 then rest else wgtS d t d.size
theorem wgtT_le {d : Array CaseD} {rest : Int} (h : SwOK d rest) (t : Int) : 0 ≤ wgtT d rest t ∧ wgtT d rest t ≤ 800 := by
  have h1 := wgtS_le h t d.size (Nat.le_refl _)
  have h2 := h.size
  have h3 := h.rest
  simp only [wgtB, decide_eq_true_eq] at h3
  unfold wgtT
  split <;> omega
noncomputable def mwgtN (d : Array CaseD) (rest : Int) (s : ByteArray) : Int := if maskB d rest s = true then wgtT d rest (tg0 s) else -1
end Go.Proofs.YtbhamkmiagdimaaDoor
