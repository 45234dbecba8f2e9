
/- Two neighbours as one: joinTargets, joinCases. -/
import Derived.Test.YtbbejkimgkpfkaaDoorKsIterS
import Derived.Test.YtbbejkimgkpfkaaDoorKsPull
namespace Go.Proofs.YtbbejkimgkpfkaaDoor
open Go.RowKit Go.Shelf Go.Lib Go.Sort

theorem Box4.cold {W : World} {B : Nat} {x : CaseD} (h : Box4 W B x) (i : Nat) : W.frozen? ⟨B, i, none⟩ = false := by simp [World.frozen?, show W.heap[B]? = _ from h]
/-- What a join answers. -/
def JoinPost (j : CaseD → CaseD → Bool) (l x : CaseD) (w : World) (r : Ending) (w' : World) : Prop :=
  ∃ o : CaseD, r = .returned (.tuple #[.agg #[.int .i64 o.low, .int .i64 o.high, .string o.target, .int .i64 o.weight], .bool (j l x)]) ∧ (j l x = true → o = oneC l x) ∧ RowKit.Below w.heap.size w w'

end Go.Proofs.YtbbejkimgkpfkaaDoor
