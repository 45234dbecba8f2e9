
/- Bits of words, plain. No walk. -/
import Derived.Test.YtjpcpiffffobcaaGreatDoorRows
import Derived.WalkKit
import Derived.WalkSpells
import Derived.WalkLawsBesides
import Derived.Lib.Hide
import Derived.Deep.QuietTactic
import Derived.BigQuiet
import Derived.Laws.BitsLemmas
namespace Go.Proofs.YtjpcpiffffobcaaGreatDoor
open Go.RowKit

def bitsTo (p : Nat → Bool) : Nat → Nat
  | 0 => 0
  | n + 1 => bitsTo p n ||| (if p n = true then 2 ^ n else 0)
theorem bitsTo_test (p : Nat → Bool) : ∀ n i, (bitsTo p n).testBit i = (decide (i < n) && p i)
  | 0, i => by simp [bitsTo]
  | n + 1, i => by
    rw [bitsTo, Nat.testBit_or, bitsTo_test p n i]
    by_cases e : i = n
    · subst e
      by_cases hp : p i = true
      · rw [if_pos hp, Nat.testBit_two_pow_self, hp]; simp
      · have hp' : p i = false := by simpa using hp
        rw [if_neg hp, hp']; simp
    · have h1 : (if p n = true then 2 ^ n else 0).testBit i = false := by
        by_cases hp : p n = true
        · rw [if_pos hp, Nat.testBit_two_pow_of_ne (fun x => e x.symm)]
        · rw [if_neg hp, Nat.zero_testBit]
      rw [h1, Bool.or_false]
      congr 1
      exact decide_eq_decide.2 (by omega)
theorem bitsTo_lt (p : Nat → Bool) : ∀ n, bitsTo p n < 2 ^ n
  | 0 => by simp [bitsTo]
  | n + 1 => by
    have ih := bitsTo_lt p n
    rw [bitsTo]
    refine Nat.or_lt_two_pow (by rw [Nat.pow_succ]; omega) ?_
    by_cases hp : p n = true
    · rw [if_pos hp, Nat.pow_succ]; have := Nat.two_pow_pos n; omega
    · rw [if_neg hp]; exact Nat.two_pow_pos _
theorem bitsTo_32 (p : Nat → Bool) {n : Nat} (h : n ≤ 32) : bitsTo p n < 4294967296 := by
  have h1 := bitsTo_lt p n
  have h2 : 2 ^ n ≤ 2 ^ 32 := Nat.pow_le_pow_right (by decide) h
  omega
theorem testBit_div (m i : Nat) : m / 2 ^ i % 2 = if m.testBit i = true then 1 else 0 := by
  rw [Nat.testBit_eq_decide_div_mod_eq]
  have := Nat.mod_two_eq_zero_or_one (m / 2 ^ i)
  rcases this with h | h <;> simp [h]
theorem pow_cast (i : Nat) : ((2 : Int) ^ i) = ((2 ^ i : Nat) : Int) := by simp
theorem wrap_i64_small {n : Int} (h0 : 0 ≤ n) (h1 : n < 4294967296) : IntKind.i64.wrap n = n := by rw [IntKind.wrap_i64]; omega
theorem wrap_u32_small {n : Int} (h0 : 0 ≤ n) (h1 : n < 4294967296) : IntKind.u32.wrap n = n := by rw [IntKind.wrap_u32]; omega
theorem pow_lt {i : Nat} (h : i < 32) : 2 ^ i < 4294967296 := Nat.lt_of_lt_of_le (Nat.pow_lt_pow_right (by decide) h) (by decide)
theorem or_i64 {a b : Nat} (ha : a < 4294967296) (hb : b < 4294967296) : bits .or .i64 (a : Int) (b : Int) = ((a ||| b : Nat) : Int) :=
  (bits_nat .i64 32 (by decide) (fun n h0 h1 => wrap_i64_small h0 (by simpa using h1)) a b (by simpa using ha) (by simpa using hb)).2
theorem and_i64 {a b : Nat} (ha : a < 4294967296) (hb : b < 4294967296) : bits .and .i64 (a : Int) (b : Int) = ((a &&& b : Nat) : Int) :=
  (bits_nat .i64 32 (by decide) (fun n h0 h1 => wrap_i64_small h0 (by simpa using h1)) a b (by simpa using ha) (by simpa using hb)).1
theorem or_u32 {a b : Nat} (ha : a < 4294967296) (hb : b < 4294967296) : bits .or .u32 (a : Int) (b : Int) = ((a ||| b : Nat) : Int) :=
  (bits_nat .u32 32 (by decide) (fun n h0 h1 => wrap_u32_small h0 (by simpa using h1)) a b (by simpa using ha) (by simpa using hb)).2
theorem and_u32 {a b : Nat} (ha : a < 4294967296) (hb : b < 4294967296) : bits .and .u32 (a : Int) (b : Int) = ((a &&& b : Nat) : Int) :=
  (bits_nat .u32 32 (by decide) (fun n h0 h1 => wrap_u32_small h0 (by simpa using h1)) a b (by simpa using ha) (by simpa using hb)).1
theorem and_one (m : Nat) : m &&& 1 = m % 2 := Nat.and_two_pow_sub_one_eq_mod m 1
/-- One bit, as both sides test it. -/
theorem bit_int (m i : Nat) : ((m : Int) / 2 ^ i) = ((m / 2 ^ i : Nat) : Int) := by simp

end Go.Proofs.YtjpcpiffffobcaaGreatDoor
