
/- What a test for a case costs: the program's testCost, the model's l3Cost. -/
import Derived.Test.YtjpcpiffffobcaaGreatDoorKsLeaf
namespace Go.Proofs.YtjpcpiffffobcaaGreatDoor
open Go.RowKit

def tcost (c : CaseD) : Int := if c.low = c.high then 1 else 2
theorem tcost_bounds (c : CaseD) : 1 ≤ tcost c ∧ tcost c ≤ 2 := by unfold tcost; split <;> omega
theorem tcost_one {c : CaseD} (h : c.low = c.high) : tcost c = 1 := by rw [tcost, if_pos h]
theorem tcost_two {c : CaseD} (h : c.low ≠ c.high) : tcost c = 2 := by rw [tcost, if_neg h]
theorem retIA {a b : Int} (h : a = b) : Ending.returned (.int .i64 a) = .returned (.int .i64 b) := by rw [h]

set_option maxHeartbeats 400000 in
theorem testCost_any (c : CaseD) (w : World) (h0 : 0 ≤ c.low) (h1 : c.low ≤ 31) (h2 : 0 ≤ c.high) (h3 : c.high ≤ 31) :
    Calls Tryz.prog 149 #[aggC c] w fun e w' => e = .returned (.int .i64 (tcost c)) ∧ Below w.heap.size w w' := by
  have hcall := Lib.hid (fun W => width_any c W h0 h1 h2 h3)
  unfold aggC at *
  by_cases h : c.low = c.high
  · have HT := Lib.hid (tcost_one h)
    have hq : (c.high - c.low + 1 == 1) = true := by simp; omega
    clear h
    go_enter Tryz.func149, Tryz.ntmps149
    go_wp2_with (go_at_call 154; refine (hcall.out _).mono ?_; rintro e w' ⟨rfl, hb⟩; have HB := Lib.hid hb; clear hb)
    go_ret
    exact ⟨retIA HT.out.symm, ((Below.refl _ _).alloc (Nat.le_refl _) _).trans (HB.out.mono (by simp))⟩
  · have HT := Lib.hid (tcost_two h)
    have hq : (c.high - c.low + 1 == 1) = false := by simp; omega
    clear h
    go_enter Tryz.func149, Tryz.ntmps149
    go_wp2_with (go_at_call 154; refine (hcall.out _).mono ?_; rintro e w' ⟨rfl, hb⟩; have HB := Lib.hid hb; clear hb)
    go_ret
    exact ⟨retIA HT.out.symm, ((Below.refl _ _).alloc (Nat.le_refl _) _).trans (HB.out.mono (by simp))⟩

set_option maxHeartbeats 400000 in
theorem l3Cost_any (c : CaseD) (w : World) :
    Calls Tryz.prog 82 #[aggC c] w fun e w' => e = .returned (.int .i64 (tcost c)) ∧ Below w.heap.size w w' := by
  unfold aggC
  by_cases h : c.low = c.high
  · have HT := Lib.hid (tcost_one h)
    have hq : (c.low == c.high) = true := by simp [h]
    clear h
    go_enter Tryz.func82, Tryz.ntmps82
    go_wp2
    go_ret
    exact ⟨retIA HT.out.symm, (Below.refl _ _).alloc (Nat.le_refl _) _⟩
  · have HT := Lib.hid (tcost_two h)
    have hq : (c.low == c.high) = false := by simp [h]
    clear h
    go_enter Tryz.func82, Tryz.ntmps82
    go_wp2
    go_ret
    exact ⟨retIA HT.out.symm, (Below.refl _ _).alloc (Nat.le_refl _) _⟩
end Go.Proofs.YtjpcpiffffobcaaGreatDoor
