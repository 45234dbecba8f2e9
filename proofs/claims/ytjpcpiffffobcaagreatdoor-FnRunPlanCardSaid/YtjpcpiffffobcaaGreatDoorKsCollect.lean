
/- slices.Collect over an iterator of cases that promises all of them: a slice of the call's own; SegmentsOf of the program and the model. -/
import Derived.Test.YtjpcpiffffobcaaGreatDoorKsFlow
namespace Go.Proofs.YtjpcpiffffobcaaGreatDoor
open Go.RowKit Go.Shelf Go.Lib Go.Sort

attribute [local go_sem] Oper.semAt_some

abbrev encCase : SegD → Array Value := fun x => #[Value.agg #[.int .i64 x.1.low, .int .i64 x.1.high, .string x.1.target, .int .i64 x.1.weight]]
theorem tSl : 30 ≠ 67 := by decide

/-! SegmentsOf -/
noncomputable def segsN (d : Array CaseD) (rest : Int) : List CaseD := if swB d rest = true then segs d rest else []
theorem segsN_on {d : Array CaseD} {rest : Int} (h : swB d rest = true) : segsN d rest = segs d rest := by rw [segsN, if_pos h]
theorem segsN_off {d : Array CaseD} {rest : Int} (h : swB d rest = false) : segsN d rest = [] := by rw [segsN, if_neg (by rw [h]; exact Bool.false_ne_true)]
theorem ret2v {v : Value} {a b : Bool} (h : a = b) : Ending.returned (.tuple #[v, .bool a]) = .returned (.tuple #[v, .bool b]) := by rw [h]
/-- Two results: a slice of the call's own, and whether the switch is valid. -/
def Segs2 (base : Nat) (d : Array CaseD) (rest : Int) (w : World) (x : Ending) (w' : World) : Prop :=
  ∃ v, x = .returned (.tuple #[v, .bool (swB d rest)]) ∧ OwnsC base v (segsN d rest) w' ∧ RowKit.Below base w w'

end Go.Proofs.YtjpcpiffffobcaaGreatDoor
