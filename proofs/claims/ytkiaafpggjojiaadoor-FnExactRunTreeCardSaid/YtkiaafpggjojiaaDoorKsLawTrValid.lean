
/- The law on TreeValid, walked: it returns true whatever the text. -/
import Derived.Test.YtkiaafpggjojiaaDoorKsTreeL
namespace Go.Proofs.YtkiaafpggjojiaaDoor
open Go.RowKit Go.Lib Go.Shelf

theorem VarsAt.below {w w' : World} (h : VarsAt w) (hb : Below w.heap.size w w') : VarsAt w' := h.keptN (grown_of_belowT hb none)
set_option maxRecDepth 100000 in
set_option maxHeartbeats 1000000 in
theorem lawTrValid_any (s : ByteArray) (w : World) (hV : VarsAt w) : Calls Tryd.prog 3 #[.string s] w fun x w' => x = .returned (.bool true) ∧ Below w.heap.size w w' := by
  by_cases hn : (s.size : Int) ≤ 1048576
  · have HS := Lib.hid (fun W => specTreeValid_any s (by omega) W)
    have HI := Lib.hid (fun W hW => implTreeValid_any s W hW)
    have HV := Lib.hid hV
    clear hV
    obtain ⟨b, hb⟩ : ∃ b, b = (treeS (ls s)).isSome := ⟨_, rfl⟩
    rw [← hb] at HS HI
    clear hb
    cases b
    all_goals
      go_enter Tryd.func3, Tryd.ntmps3
      go_wp2_with fail
      refine (HS.out _).mono ?_
      rintro x w1 ⟨rfl, hb1⟩
      have HB1 := Lib.hid hb1
      have HV1 := Lib.hid (HV.out.below hb1)
      clear hb1
      go_wp2_with fail
      refine (HI.out _ HV1.out).mono ?_
      rintro x w2 ⟨rfl, hb2⟩
      have HB2 := Lib.hid (HB1.out.trans (hb2.mono HB1.out.size))
      clear hb2
      go_wp2
      go_ret
      exact ⟨rfl, HB2.out⟩
  · have hn' : (1048576 : Int) < (s.size : Int) := by omega
    go_enter Tryd.func3, Tryd.ntmps3
    go_wp2
    go_ret
    exact ⟨rfl, Below.refl _ _⟩
end Go.Proofs.YtkiaafpggjojiaaDoor
