
/- TargetsOf of the model. -/
import Derived.Test.YtbbejkimgkpfkaaDoorKsTargetsImpl
namespace Go.Proofs.YtbbejkimgkpfkaaDoor
open Go.RowKit Go.Shelf Go.Lib Go.Sort

theorem strOf_letters (d : Array CaseD) (i : Nat) : (strOf (lettersTo d i)).size ≤ i := by
  rw [strOf_size]
  exact lettersTo_length d i

end Go.Proofs.YtbbejkimgkpfkaaDoor
