
/- Words of keys, plain: their bits, what a target weighs, orders of targets. No walk. -/
import Derived.Test.YtbhamkmiagdimaaDoorKsTargets
import Derived.Test.YtbhamkmiagdimaaDoorKsOrdP
import Derived.Test.YtbhamkmiagdimaaDoorKsHas
import Derived.Test.YtbhamkmiagdimaaDoorKsBitP
namespace Go.Proofs.YtbhamkmiagdimaaDoor
open Go.RowKit Go.Shelf Go.Lib Go.Sort

/-! the words of a switch's targets -/
def wordN (d : Array CaseD) (t : Int) (n : Nat) : Nat := bitsTo (fun i => goB d i == t) n
theorem wordN_succ (d : Array CaseD) (t : Int) (n : Nat) : wordN d t (n + 1) = wordN d t n ||| (if goB d n = t then 2 ^ n else 0) := by
  unfold wordN
  rw [bitsTo]
  congr 1
  by_cases h : goB d n = t <;> simp [h]
theorem wordN_hit {d : Array CaseD} {t : Int} {n : Nat} (h : goB d n = t) : wordN d t (n + 1) = wordN d t n ||| 2 ^ n := by rw [wordN_succ, if_pos h]
theorem wordN_miss {d : Array CaseD} {t : Int} {n : Nat} (h : goB d n ≠ t) : wordN d t (n + 1) = wordN d t n := by rw [wordN_succ, if_neg h, Nat.or_zero]
theorem wordN_lt (d : Array CaseD) (t : Int) {n : Nat} (h : n ≤ 32) : wordN d t n < 4294967296 := bitsTo_32 _ h
theorem wordN_bit (d : Array CaseD) (t : Int) {i : Nat} (h : i < 32) : wordN d t 32 / 2 ^ i % 2 = if goB d i = t then 1 else 0 := by
  rw [testBit_div, wordN, bitsTo_test]
  by_cases e : goB d i = t <;> simp [h, e]

/-- The targets: a to h, and z. -/
def letN (s : ByteArray) : Bool := decide (s.size = 1) && (tgtB (tg0 s) || (tg0 s == 122))
theorem letN_size {s : ByteArray} (h : letN s = true) : s.size = 1 := by
  simp only [letN, Bool.and_eq_true, decide_eq_true_eq] at h
  exact h.1
theorem letN_range {s : ByteArray} (h : letN s = true) : 97 ≤ tg0 s ∧ tg0 s ≤ 122 := by
  simp only [letN, Bool.and_eq_true, Bool.or_eq_true, tgtB, decide_eq_true_eq, beq_iff_eq] at h
  omega
noncomputable def maskB (d : Array CaseD) (rest : Int) (s : ByteArray) : Bool := swB d rest && letN s
noncomputable def maskN (d : Array CaseD) (rest : Int) (s : ByteArray) : Int := if maskB d rest s = true then (wordN d (tg0 s) 32 : Int) else 0

/-! what a target weighs -/
def wgtE (d : Array CaseD) (t : Int) (j : Nat) : Int := if tgJ d j = t then d[j]!.weight else 0
def wgtS (d : Array CaseD) (t : Int) (k : Nat) : Int := sumTo (wgtE d t) k
theorem wgtS_hit {d : Array CaseD} {t : Int} {k : Nat} (h : tgJ d k = t) : wgtS d t (k + 1) = wgtS d t k + d[k]!.weight := by
  show sumTo _ k + wgtE d t k = _
  rw [wgtE, if_pos h]; rfl
theorem wgtS_miss {d : Array CaseD} {t : Int} {k : Nat} (h : tgJ d k ≠ t) : wgtS d t (k + 1) = wgtS d t k := by
  show sumTo _ k + wgtE d t k = _
  rw [wgtE, if_neg h]
  exact Int.add_zero _
theorem wgtS_le {d : Array CaseD} {rest : Int} (h : SwOK d rest) (t : Int) : ∀ k, k ≤ d.size → 0 ≤ wgtS d t k ∧ wgtS d t k ≤ 100 * k :=
  sumTo_le (n := d.size) fun j hj => by
    have := caseB_weight (h.case j hj)
    unfold wgtE
    split <;> omega
theorem wgtS_z {d : Array CaseD} {rest : Int} (h : SwOK d rest) : ∀ k, k ≤ d.size → wgtS d 122 k = 0
  | 0, _ => rfl
  | k + 1, hk => by
    have hl := caseB_letter (h.case k (by omega))
    rw [wgtS_miss (show tgJ d k ≠ 122 by unfold tgJ; omega), wgtS_z h k (by omega)]
/-- How often keys of a target come. -/
def wgtT (d : Array CaseD) (rest t : Int) : Int := if t = 122 then rest else wgtS d t d.size
theorem wgtT_le {d : Array CaseD} {rest : Int} (h : SwOK d rest) (t : Int) : 0 ≤ wgtT d rest t ∧ wgtT d rest t ≤ 800 := by
  have h1 := wgtS_le h t d.size (Nat.le_refl _)
  have h2 := h.size
  have h3 := h.rest
  simp only [wgtB, decide_eq_true_eq] at h3
  unfold wgtT
  split <;> omega
noncomputable def mwgtN (d : Array CaseD) (rest : Int) (s : ByteArray) : Int := if maskB d rest s = true then wgtT d rest (tg0 s) else -1
end Go.Proofs.YtbhamkmiagdimaaDoor
