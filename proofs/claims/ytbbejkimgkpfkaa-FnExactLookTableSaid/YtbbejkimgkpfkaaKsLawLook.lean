
/- The law on LookTable, walked: it returns true whatever the table and the numbers. -/
import Derived.Test.YtbbejkimgkpfkaaKsLookI
namespace Go.Proofs.Ytbbejkimgkpfkaa
open Go.RowKit

set_option maxRecDepth 100000 in
set_option maxHeartbeats 1000000 in
theorem lawLook_any (s : ByteArray) (low key : Int) (w : World) (hs : s.size ≤ maxLen) :
    Calls Try.prog 3 #[.string s, .int .i64 low, .int .i64 key] w fun x w' => x = .returned (.bool true) ∧ Below w.heap.size w w' := by
  unfold maxLen at hs
  by_cases hbig : 1048576 < s.size
  · go_enter Try.func3, Try.ntmps3
    go_wp2
    go_ret
    exact ⟨rfl, Below.refl _ _⟩
  · have hm : s.size ≤ 1048576 := by omega
    have hmi : ¬ (1048576 : Int) < (s.size : Int) := by omega
    have HS := Lib.hid (fun W => specLook_any s low key W hm)
    have HI := Lib.hid (fun W => implLook_any s low key W hm)
    obtain ⟨y, hy⟩ : ∃ y, y = lookS s low key := ⟨_, rfl⟩
    obtain ⟨b, hb⟩ : ∃ b, b = lookOK s low key := ⟨_, rfl⟩
    rw [← hy, ← hb] at HS HI
    clear hy hb hbig
    go_enter Try.func3, Try.ntmps3
    go_wp2_with fail
    refine (HS.out _).mono ?_
    rintro x w1 ⟨rfl, rfl⟩
    go_wp2_with fail
    refine (HI.out _).mono ?_
    rintro x w1 ⟨rfl, hb1⟩
    have HB1 := Lib.hid hb1
    clear hb1
    cases b
    all_goals
      go_wp2
      go_ret
      exact ⟨rfl, HB1.out⟩
end Go.Proofs.Ytbbejkimgkpfkaa
