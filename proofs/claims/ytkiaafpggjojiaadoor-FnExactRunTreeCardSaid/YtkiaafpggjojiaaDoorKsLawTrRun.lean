
/- The law on RunTree, walked: it returns true whatever the text and the number. -/
import Derived.Test.YtkiaafpggjojiaaDoorKsLawTrValid
import Derived.Test.YtkiaafpggjojiaaDoorKsTreeR
namespace Go.Proofs.YtkiaafpggjojiaaDoor
open Go.RowKit Go.Lib Go.Shelf

set_option maxRecDepth 100000 in
set_option maxHeartbeats 1000000 in
theorem lawTrRun_any (s : ByteArray) (key : Int) (w : World) (hV : VarsAt w) : Calls Tryd.prog 4 #[.string s, .int .i64 key] w fun x w' => x = .returned (.bool true) ∧ Below w.heap.size w w' := by
  by_cases hn : (s.size : Int) ≤ 1048576
  · have HS := Lib.hid (fun W => specRunTree_any s key (by omega) W)
    have HI := Lib.hid (fun W hW => implRunTree_any s key W hW)
    have HV := Lib.hid hV
    clear hV
    obtain ⟨b1, hb1⟩ : ∃ b, b = trS (treeS (ls s)) key := ⟨_, rfl⟩
    obtain ⟨b2, hb2⟩ : ∃ b, b = trN (treeS (ls s)) key := ⟨_, rfl⟩
    obtain ⟨b3, hb3⟩ : ∃ b, b = trB (treeS (ls s)) key := ⟨_, rfl⟩
    rw [← hb1, ← hb2, ← hb3] at HS HI
    clear hb1 hb2 hb3
    cases b3
    all_goals
      go_enter Tryd.func4, Tryd.ntmps4
      go_wp2_with fail
      refine (HS.out _).mono ?_
      rintro x w1 ⟨rfl, hb1⟩
      have HB1 := Lib.hid hb1
      have HV1 := Lib.hid (HV.out.below hb1)
      clear hb1
      go_wp2_with fail
      refine (HI.out _ HV1.out).mono ?_
      rintro x w2 ⟨rfl, hb2⟩
      have HB2 := Lib.hid (HB1.out.trans (hb2.mono HB1.out.size))
      clear hb2
      go_wp2
      go_ret
      exact ⟨rfl, HB2.out⟩
  · have hn' : (1048576 : Int) < (s.size : Int) := by omega
    go_enter Tryd.func4, Tryd.ntmps4
    go_wp2
    go_ret
    exact ⟨rfl, Below.refl _ _⟩
end Go.Proofs.YtkiaafpggjojiaaDoor
