
/- Reading of numbers by the model: l13Num of any text ends. -/
import Derived.Test.YtoiljohaicpncaaDoorKsNum
namespace Go.Proofs.YtoiljohaicpncaaDoor
open Go.RowKit Go.Lib

def IntV (v : Value) : Prop := ∃ z : Int, v = .int .i64 z
def NumRet (x : Ending) : Prop := ∃ (z : Int) (ok : Bool), x = .returned (.tuple #[.int .i64 z, .bool ok])
theorem NumRet.mk (z : Int) (ok : Bool) : NumRet (.returned (.tuple #[.int .i64 z, .bool ok])) := ⟨z, ok, rfl⟩

set_option maxRecDepth 2000000 in
set_option maxHeartbeats 4000000 in
/-- Of every text not too long: some number, some answer. -/
theorem num_safe (s : ByteArray) (hs : s.size ≤ 2000000) (w : World) :
    Calls Tryd.prog 185 #[.string s] w fun x w' => NumRet x ∧ w' = w := by
  have h17i : (s.size : Int) ≤ 2000000 := by omega
  by_cases h0 : s.size = 0
  · have he : s = ByteArray.empty := by
      obtain ⟨⟨l⟩⟩ := s
      match l, h0 with
      | [], _ => rfl
    subst he
    go_enter Tryd.func185, Tryd.ntmps185
    go_wp2_with fail
    go_ret2
    exact ⟨NumRet.mk _ _, rfl⟩
  have h00 : 0 < s.size := by omega
  go_enter Tryd.func185, Tryd.ntmps185
  go_wp2_with fail
  all_goals first
    | (go_ret2; exact ⟨NumRet.mk _ _, rfl⟩)
    | (show Code.wp _ _ _ _ _; skip)
  all_goals
    try simp only [*, Bool.false_or]
    go_loopw [5, 6] (fun v i wr => ∃ k : Nat, i = .int .i64 k ∧ k ≤ s.size ∧ IntV v ∧ wr = w) (fun _ i _ => s.size - (intOf i).toNat)
    case atStart => exact ⟨0, rfl, Nat.zero_le _, ⟨0, rfl⟩, rfl⟩
    case round =>
      obtain ⟨k, rfl, hk, ⟨z, rfl⟩, rfl⟩ := hrel
      go_wp2_with fail
      all_goals first
        | (go_ret2; exact ⟨NumRet.mk _ _, rfl⟩)
        | skip
      all_goals
        go_roundw
        case rel => exact ⟨k + 1, by go_num, by omega, ⟨_, rfl⟩, by first | rfl | trivial⟩
        case measure => simp [intOf]; omega
end Go.Proofs.YtoiljohaicpncaaDoor
