
/- Decimal numerals below 100: strconv.Itoa and the model's l13Dec. -/
import Derived.Test.YtjpcpiffffobcaaGreatDoorRows
import Derived.Test.YtjpcpiffffobcaaGreatDoorKsLay2
import Derived.Lib.ItoaNum
import Derived.WalkKit
import Derived.WalkSpells
import Derived.WalkLawsBesides
import Derived.Lib.Hide
namespace Go.Proofs.YtjpcpiffffobcaaGreatDoor
open Go.RowKit

def itoaS (n : Int) : ByteArray := ⟨(Lib.decDigits n.toNat).toArray⟩
theorem itoaS_one {n : Int} (h0 : 0 ≤ n) (h1 : n ≤ 9) : itoaS n = ⟨#[UInt8.ofNat (48 + n).toNat]⟩ := by
  obtain ⟨i, rfl⟩ := Int.eq_ofNat_of_zero_le h0
  have e : (48 + (i : Int)).toNat = 48 + i := by omega
  rw [itoaS, Int.toNat_natCast, Lib.decDigits_one (by omega), e]
theorem itoaS_two {n : Int} (h0 : 10 ≤ n) (h1 : n ≤ 99) : itoaS n = ⟨#[UInt8.ofNat (48 + n / 10).toNat, UInt8.ofNat (48 + n % 10).toNat]⟩ := by
  obtain ⟨i, rfl⟩ := Int.eq_ofNat_of_zero_le (show 0 ≤ n by omega)
  have e1 : (48 + (i : Int) / 10).toNat = 48 + i / 10 := by omega
  have e2 : (48 + (i : Int) % 10).toNat = 48 + i % 10 := by omega
  rw [itoaS, Int.toNat_natCast, Lib.decDigits_two (by omega) (by omega), e1, e2]
theorem itoaS_size {n : Int} (h0 : 0 ≤ n) (h1 : n ≤ 99) : (itoaS n).size ≤ 2 := by
  by_cases h : n ≤ 9
  · rw [itoaS_one h0 h]; exact Nat.le_succ 1
  · rw [itoaS_two (by omega) h1]; exact Nat.le_refl 2
theorem itoa_any (n : Int) (h0 : 0 ≤ n) (h1 : n ≤ 99) (w : World) : Calls Tryz.prog 84 #[.int .i64 n] w fun e w' => e = .returned (.string (itoaS n)) ∧ w = w' := by
  obtain ⟨i, rfl⟩ := Int.eq_ofNat_of_zero_le h0
  exact (Tryz.strconv_Itoa_small i (by omega) w).mono fun _ _ ⟨a, b⟩ => ⟨a, b.symm⟩

theorem byte_string (z : Int) (W : World) : Sem.run Tryz.prog (convert 39 9 (.slice (some ⟨W.heap.size, 0, none⟩) 1 1)) (W.alloc (.cells #[.int .u8 z] 5)) = .ok (.string ⟨#[UInt8.ofNat z.toNat]⟩) (W.alloc (.cells #[.int .u8 z] 5)) := by
  rw [run_convert_bytes_string _ _ _ _ _ _ _ Tryz.underlying39 Tryz.underlying5 Tryz.underlying9, run_bytesToString _ _ _ _ [z] (by go_simp)]
  rfl

theorem retStr {a c : ByteArray} (h : a = c) : Ending.returned (.string a) = .returned (.string c) := by rw [h]

set_option maxRecDepth 100000 in
set_option maxHeartbeats 400000 in
theorem dec_one (n : Int) (h0 : 0 ≤ n) (h1 : n ≤ 9) (w : World) : Calls Tryz.prog 88 #[.int .i64 n] w fun e w' => e = .returned (.string (itoaS n)) ∧ Below w.heap.size w w' := by
  have hconv := fun z W => byte_string z W
  have hw : IntKind.u8.wrap (48 + n) = 48 + n := by rw [IntKind.wrap]; simp [IntKind.signed, IntKind.bits]; omega
  have HS := Lib.hid (itoaS_one h0 h1)
  go_enter Tryz.func88, Tryz.ntmps88
  go_wp2
  refine wp_loop_rounds 1 ?_
  rw [rounds_succ]
  go_wp2
  go_ret
  refine ⟨retStr ?_, (Below.refl _ _).alloc (Nat.le_refl _) _⟩
  rw [HS.out]
  rfl

set_option maxRecDepth 100000 in
set_option maxHeartbeats 400000 in
theorem dec_two (n : Int) (h0 : 10 ≤ n) (h1 : n ≤ 99) (w : World) : Calls Tryz.prog 88 #[.int .i64 n] w fun e w' => e = .returned (.string (itoaS n)) ∧ Below w.heap.size w w' := by
  have hconv := fun z W => byte_string z W
  have hconv2 : ∀ z o, Sem.run Tryz.prog (convert 39 9 (.slice (some ⟨w.heap.size + 1, 0, none⟩) 1 1)) ((w.alloc o).alloc (.cells #[.int .u8 z] 5)) = .ok (.string ⟨#[UInt8.ofNat z.toNat]⟩) ((w.alloc o).alloc (.cells #[.int .u8 z] 5)) := fun z o => by
    have := byte_string z (w.alloc o)
    rw [World.size_alloc] at this
    exact this
  have hq0 : 0 ≤ n / 10 := by omega
  have hq1 : n / 10 ≤ 9 := by omega
  have hr0 : 0 ≤ n % 10 := by omega
  have hr1 : n % 10 ≤ 9 := by omega
  have hw : IntKind.u8.wrap (48 + n % 10) = 48 + n % 10 := by rw [IntKind.wrap]; simp [IntKind.signed, IntKind.bits]; omega
  have hw2 : IntKind.u8.wrap (48 + n / 10) = 48 + n / 10 := by rw [IntKind.wrap]; simp [IntKind.signed, IntKind.bits]; omega
  have HS := Lib.hid (itoaS_two h0 h1)
  go_enter Tryz.func88, Tryz.ntmps88
  go_wp2
  refine wp_loop_rounds 2 ?_
  rw [rounds_succ]
  go_wp2
  rw [rounds_succ]
  go_wp2
  go_ret
  refine ⟨retStr ?_, ((Below.refl _ _).alloc (Nat.le_refl _) _).alloc (by simp) _⟩
  rw [HS.out]
  rfl

theorem dec_any (n : Int) (h0 : 0 ≤ n) (h1 : n ≤ 99) (w : World) : Calls Tryz.prog 88 #[.int .i64 n] w fun e w' => e = .returned (.string (itoaS n)) ∧ Below w.heap.size w w' := by
  by_cases h : n ≤ 9
  · exact dec_one n h0 h w
  · exact dec_two n (by omega) h1 w
end Go.Proofs.YtjpcpiffffobcaaGreatDoor
