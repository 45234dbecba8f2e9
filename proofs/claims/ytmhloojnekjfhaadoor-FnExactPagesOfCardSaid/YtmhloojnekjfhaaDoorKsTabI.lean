
/- TableFor: the program's and the model's. -/
import Derived.Test.YtmhloojnekjfhaaDoorKsTabS
import Derived.Test.YtmhloojnekjfhaaDoorKsRowK
import Derived.Deep.WholeRow
import Derived.Laws.BytesArg
namespace Go.Proofs.YtmhloojnekjfhaaDoor
open Go.RowKit Go.Shelf Go.Lib Go.Sort

theorem strOf_tab (d : Array CaseD) (lo n : Nat) : strOfNums ((List.range n).map fun i => goB d (lo + i)) = tabS d lo n := by
  apply ByteArray.ext
  simp [strOfNums, tabS, tabL]
theorem conv_row (d : Array CaseD) (g ln n cap : Nat) (h32 : ln + n ≤ 32) (W : World) (hW : RowU W g (goB d)) :
    Sem.run Tryd.prog (convert 66 9 (.slice (some ⟨g, ln, none⟩) n cap)) W = .ok (.string (tabS d ln n)) W := by
  rw [← strOf_tab d]
  refine run_convert_bytes_arg W 66 58 Tryd.underlying66 Tryd.underlying58 g ln n cap _ (by simp) (fun i hi => ?_) 9 Tryd.underlying9
  rw [hW.cell (by omega)]
  simp [hi]

end Go.Proofs.YtmhloojnekjfhaaDoor
