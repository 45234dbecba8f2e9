
/- Where the target of a case's text stands: l1Target. -/
import Derived.Test.YtjpcpiffffobcaaGreatDoorKsNumC
namespace Go.Proofs.YtjpcpiffffobcaaGreatDoor
open Go.RowKit Go.Shelf Go.Lib Go.Sort

def letB (s : ByteArray) (j : Nat) : Bool := decide (97 ≤ byteN s j) && decide (byteN s j ≤ 104)
theorem letB_in (s : ByteArray) (k : Nat) : letB s k = inB (byteN s k) 97 104 := by
  unfold letB inB
  rw [← Bool.decide_and]
  exact decide_eq_decide.2 (by omega)
theorem wrap_byte {n : Nat} (h : n < 256) : wrap64 (n : Int) = (n : Int) := by
  unfold wrap64
  omega
/-- l1Target answers the first letter from a to h, or -1. -/
def AtT (s : ByteArray) (x : Int) : Prop := (∃ k : Nat, k < s.size ∧ x = k ∧ letB s k = true ∧ ∀ j, j < k → letB s j = false) ∨ (x = -1 ∧ ∀ j, j < s.size → letB s j = false)

set_option maxRecDepth 2000000 in
set_option maxHeartbeats 2000000 in
theorem target_at (s : ByteArray) (hs : s.size ≤ 2000000) (w : World) :
    Calls Tryz.prog 124 #[.string s] w fun x w' => ∃ z : Int, x = .returned (.int .i64 z) ∧ AtT s z ∧ RowKit.Below w.heap.size w w' := by
  have HB := Lib.hid (Below.refl w.heap.size w)
  have hsi : (s.size : Int) ≤ 2000000 := by omega
  go_enter Tryz.func124, Tryz.ntmps124
  go_wp2_with fail
  go_loopw [6] (fun i wr => ∃ k : Nat, i = .int .i64 k ∧ k ≤ s.size ∧ Hid (∀ j, j < k → letB s j = false) ∧ wr = w) (fun i _ => s.size - (intOf i).toNat)
  case atStart => exact ⟨0, rfl, Nat.zero_le _, fun j hj => absurd hj (Nat.not_lt_zero _), rfl⟩
  case round =>
    obtain ⟨k, rfl, hk, HE, rfl⟩ := hrel
    by_cases hlt : k < s.size
    · have hin : ∀ W, Calls Tryz.prog 35 #[.int .i64 (wrap64 (s[k].toNat : Int)), .int .i64 97, .int .i64 104] W fun e w' => e = .returned (.bool (letB s k)) ∧ W = w' := fun W => by rw [letB_in, ← byteN_eq hlt, wrap_byte (UInt8.toNat_lt _)]; exact l1In_any _ 97 104 W
      cases hl : letB s k
      all_goals
        rw [hl] at hin
        have HIN := Lib.hid hin
        clear hin
      · have HL := Lib.hid hl
        clear hl
        go_wp2_with (go_at_call 35; refine (HIN.out _).mono ?_; rintro e w' ⟨rfl, rfl⟩)
        go_roundw
        case rel =>
          refine ⟨k + 1, by go_num, by omega, Lib.hid ?_, trivial⟩
          intro j hj
          by_cases e : j = k
          · rw [e]; exact HL.out
          · exact HE.out j (by omega)
        case measure => simp [intOf]; omega
      · have HL := Lib.hid hl
        clear hl
        go_wp2_with (go_at_call 35; refine (HIN.out _).mono ?_; rintro e w' ⟨rfl, rfl⟩)
        go_ret
        exact ⟨_, rfl, .inl ⟨k, hlt, rfl, HL.out, HE.out⟩, HB.out⟩
    · go_wp2_with fail
      go_ret
      exact ⟨_, rfl, .inr ⟨rfl, fun j hj => HE.out j (by omega)⟩, HB.out⟩
end Go.Proofs.YtjpcpiffffobcaaGreatDoor
