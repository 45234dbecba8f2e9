
/- Decimal numerals below 100: strconv.Itoa and the model's l13Dec. -/
import Derived.Test.YtbhamkmiagdimaaDoorRows
import Derived.Test.YtbhamkmiagdimaaDoorKsLay2
import Derived.Lib.ItoaNum
import Derived.WalkKit
import Derived.WalkSpells
import Derived.WalkLawsBesides
import Derived.Lib.Hide
namespace Go.Proofs.YtbhamkmiagdimaaDoor
open Go.RowKit

def itoaS (n : Int) : ByteArray := ⟨(Lib.decDigits n.toNat).toArray⟩
theorem itoaS_one {n : Int} (h0 : 0 ≤ n) (h1 : n ≤ 9) : itoaS n = ⟨#[UInt8.ofNat (48 + n).toNat]⟩ := by
  obtain ⟨i, rfl⟩ := Int.eq_ofNat_of_zero_le h0
  have e : (48 + (i : Int)).toNat = 48 + i := by omega
  rw [itoaS, Int.toNat_natCast, Lib.decDigits_one (by omega), e]
theorem itoaS_two {n : Int} (h0 : 10 ≤ n) (h1 : n ≤ 99) : itoaS n = ⟨#[UInt8.ofNat (48 + n / 10).toNat, UInt8.ofNat (48 + n % 10).toNat]⟩ := by
  obtain ⟨i, rfl⟩ := Int.eq_ofNat_of_zero_le (show 0 ≤ n by omega)
  have e1 : (48 + (i : Int) / 10).toNat = 48 + i / 10 := by omega
  have e2 : (48 + (i : Int) % 10).toNat = 48 + i % 10 := by omega
  rw [itoaS, Int.toNat_natCast, Lib.decDigits_two (by omega) (by omega), e1, e2]
theorem itoaS_size {n : Int} (h0 : 0 ≤ n) (h1 : n ≤ 99) : (itoaS n).size ≤ 2 := by
  by_cases h : n ≤ 9
  · rw [itoaS_one h0 h]; exact Nat.le_succ 1
  · rw [itoaS_two (by omega) h1]; exact Nat.le_refl 2
theorem byte_string (z : Int) (W : World) : Sem.run Tryd.prog (convert 112 9 (.slice (some ⟨W.heap.size, 0, none⟩) 1 1)) (W.alloc (.cells #[.int .u8 z] 5)) = .ok (.string ⟨#[UInt8.ofNat z.toNat]⟩) (W.alloc (.cells #[.int .u8 z] 5)) := by
  rw [run_convert_bytes_string _ _ _ _ _ _ _ Tryd.underlying112 Tryd.underlying5 Tryd.underlying9, run_bytesToString _ _ _ _ [z] (by go_simp)]
  rfl

theorem retStr {a c : ByteArray} (h : a = c) : Ending.returned (.string a) = .returned (.string c) := by rw [h]

end Go.Proofs.YtbhamkmiagdimaaDoor
