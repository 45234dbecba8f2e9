
/- Reading of numbers by the model: l13Num. · Reading of numbers by the model: l13Num of any text ends. · Cutting of texts by the model: l13Cut. -/
import Derived.Test.YtjpcpiffffobcaaDoorKsLeaf
import Derived.LoopTactic
import Derived.Test.YtjpcpiffffobcaaDoorKsSums
namespace Go.Proofs.YtjpcpiffffobcaaDoor
open Go.RowKit Go.Lib

def byteN (s : ByteArray) (i : Nat) : Nat := (s.data[i]!).toNat
def dgB (s : ByteArray) (j : Nat) : Bool := decide (48 ≤ byteN s j) && decide (byteN s j ≤ 57)
def numTo (s : ByteArray) : Nat → Nat
  | 0 => 0
  | i + 1 => numTo s i * 10 + (byteN s i - 48)

theorem retNB {a c : Int} {b e : Bool} (h : a = c) (h2 : b = e) : Ending.returned (.tuple #[.int .i64 a, .bool b]) = .returned (.tuple #[.int .i64 c, .bool e]) := by rw [h, h2]

/-- Digits alone, none too many, no zero ahead: exact. -/
def plainB (s : ByteArray) : Prop := 0 < s.size ∧ s.size ≤ 17 ∧ (∀ j (h : j < s.size), 48 ≤ s[j].toNat ∧ s[j].toNat ≤ 57) ∧ (∀ h : 0 < s.size, s[0].toNat = 48 → s.size = 1)
theorem numTo_lt (s : ByteArray) (i : Nat) (h : ∀ j, j < i → byteN s j ≤ 57) : numTo s i < 10 ^ i := by
  induction i with
  | zero => simp [numTo]
  | succ i ih =>
    have h1 := ih fun j hj => h j (by omega)
    have h2 := h i (by omega)
    rw [numTo, Nat.pow_succ]
    omega
theorem byteN_eq {s : ByteArray} {i : Nat} (h : i < s.size) : s[i].toNat = byteN s i := by
  have h' : i < s.data.size := h
  rw [byteN, getElem!_pos s.data i h']
  rfl

end Go.Proofs.YtjpcpiffffobcaaDoor

namespace Go.Proofs.YtjpcpiffffobcaaDoor
open Go.RowKit Go.Lib

def IntV (v : Value) : Prop := ∃ z : Int, v = .int .i64 z
def NumRet (x : Ending) : Prop := ∃ (z : Int) (ok : Bool), x = .returned (.tuple #[.int .i64 z, .bool ok])
theorem NumRet.mk (z : Int) (ok : Bool) : NumRet (.returned (.tuple #[.int .i64 z, .bool ok])) := ⟨z, ok, rfl⟩

end Go.Proofs.YtjpcpiffffobcaaDoor

namespace Go.Proofs.YtjpcpiffffobcaaDoor
open Go.RowKit Go.Shelf Go.Lib Go.Sort

/-- What l13Cut has behind i steps: the pieces, and where the next one begins. -/
def cutSt (s : ByteArray) (c : Nat) : Nat → List ByteArray × Nat
  | 0 => ([], 0)
  | i + 1 => if i = s.size ∨ byteN s i = c then ((cutSt s c i).1 ++ [s.extract (cutSt s c i).2 i], i + 1) else cutSt s c i
theorem cutSt_le (s : ByteArray) (c i : Nat) : (cutSt s c i).2 ≤ i ∧ (cutSt s c i).1.length ≤ i := by
  induction i with
  | zero => simp [cutSt]
  | succ i ih =>
    rw [cutSt]
    split
    · simp; omega
    · omega
def cutL (s : ByteArray) (c : Nat) : List ByteArray := (cutSt s c (s.size + 1)).1
def encT (z : ByteArray) : Value := .string z
theorem infoStr : (Tryd.prog.info? 9).map (fun i => (i.zero, i.size, i.bytes)) = some (some (.string ⟨#[]⟩), 1, 16) := by kernel_rfl

end Go.Proofs.YtjpcpiffffobcaaDoor
