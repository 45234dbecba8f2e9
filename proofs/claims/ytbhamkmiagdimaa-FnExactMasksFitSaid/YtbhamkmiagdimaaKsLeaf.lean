
/- The leaves of chapter 1: what isKey, isWeight, ofCase, readTarget, Case.valid, has, meets, width and the model's l1In, l1Case return. -/
import Derived.Test.YtbhamkmiagdimaaRows
import Derived.WalkKit
import Derived.WalkSpells
import Derived.WalkLawsBesides
import Derived.Lib.Hide
import Derived.Deep.QuietTactic
import Derived.BigQuiet
namespace Go.Proofs.Ytbhamkmiagdimaa
open Go.RowKit

def keyB (n : Int) : Bool := decide (0 ≤ n ∧ n ≤ 31)
def wgtB (n : Int) : Bool := decide (0 ≤ n ∧ n ≤ 99)
def tgtB (n : Int) : Bool := decide (97 ≤ n ∧ n ≤ 104)
def inB (n a b : Int) : Bool := decide (a ≤ n ∧ n ≤ b)
theorem retB {a b : Bool} (h : a = b) : Ending.returned (.bool a) = .returned (.bool b) := by rw [h]

set_option maxHeartbeats 400000 in
theorem l1In_any (n a b : Int) (w : World) : Calls Try.prog 14 #[.int .i64 n, .int .i64 a, .int .i64 b] w fun e w' => e = .returned (.bool (inB n a b)) ∧ w = w' := by
  by_cases h : a ≤ n
  · by_cases h2 : n ≤ b
    all_goals
      go_enter Try.func14, Try.ntmps14
      go_wp2
      go_ret
      exact ⟨retB (by simp [inB]; omega), rfl⟩
  · go_enter Try.func14, Try.ntmps14
    go_wp2
    go_ret
    exact ⟨retB (by simp [inB]; omega), rfl⟩

/-! readTarget -/
/-! Case.valid -/
structure CaseD where
  low : Int
  high : Int
  target : ByteArray
  weight : Int
deriving Inhabited
def encC (c : CaseD) : List Value := [.int .i64 c.low, .int .i64 c.high, .string c.target, .int .i64 c.weight]
def aggC (c : CaseD) : Value := .agg #[.int .i64 c.low, .int .i64 c.high, .string c.target, .int .i64 c.weight]
def tg0 (s : ByteArray) : Int := if h : 0 < s.size then (s[0].toNat : Int) else 0
def oneB (s : ByteArray) : Bool := decide (s.size = 1) && tgtB (tg0 s)
def caseB (c : CaseD) : Bool := oneB c.target && keyB c.low && keyB c.high && decide (c.low ≤ c.high) && wgtB c.weight

theorem below_drewN {B : Nat} {a w : World} (h : Below B a w) (n : Nat) : Below B a (w.drewN n) := ⟨h.os, h.tape, h.output, h.size, h.block⟩

theorem toList_nil {s : ByteArray} (h : s.size = 0) : s.toList = [] := by rw [ByteArray.toList_eq]; exact List.eq_nil_of_length_eq_zero (by simpa using h)
theorem toList_some {s : ByteArray} (h : 0 < s.size) : s.toList.isEmpty = false := by
  rw [ByteArray.toList_eq]
  have hl : 0 < s.data.toList.length := by simpa using h
  generalize s.data.toList = l at hl ⊢
  cases l with
  | nil => exact absurd hl (Nat.lt_irrefl 0)
  | cons a l => rfl
theorem size_tail (s : ByteArray) : (s.extract 1 s.size).size = s.size - 1 := by simp [ByteArray.size_extract]
/-! has, meets, width -/
def hasB (c : CaseD) (k : Int) : Bool := decide (c.low ≤ k ∧ k ≤ c.high)
def meetB (c d : CaseD) : Bool := decide (c.low ≤ d.high ∧ d.low ≤ c.high)
/-! the model's l1Case -/
end Go.Proofs.Ytbhamkmiagdimaa
