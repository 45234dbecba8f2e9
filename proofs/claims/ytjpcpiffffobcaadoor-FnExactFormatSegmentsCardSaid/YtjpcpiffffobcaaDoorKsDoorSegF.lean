
/- From the listed tables to what the walk of FormatSegments asks; the world of the witness. -/
import Derived.Test.YtjpcpiffffobcaaDoorKsDoor
import Derived.Test.YtjpcpiffffobcaaDoorKsLawSegF
namespace Go.Proofs.YtjpcpiffffobcaaDoor
open Go.ChangeShapes Go.WideShapes Go.ChangeAt Go.RowKit Go.Deep Go.Joins

theorem wf_i64 {n : Int} (h : (Lit.int .i64 n).wf = true) : -9223372036854775808 ≤ n ∧ n ≤ 9223372036854775807 := by
  have h2 : (decide (IntKind.i64.min ≤ n) && decide (n ≤ IntKind.i64.max)) = true := h
  rw [Bool.and_eq_true, decide_eq_true_eq, decide_eq_true_eq] at h2
  exact h2
theorem intC_of_wf {c : CaseD} (h : WfC c) : IntC c := ⟨wf_i64 h.1, wf_i64 h.2.1, wf_i64 h.2.2⟩
set_option maxRecDepth 100000 in
theorem tab_of_laidS {W : World} (h : laidMetH Tryd.prog Rows.fnExactFormatSegmentsRow.laid W) : TabA W := by
  rw [MakeChecks.laidMetH_plain _ _ _ (by kernel_rfl)] at h
  exact Lib.tabIs_of_head (g := 2) (t := 149) (e := 140) (n := 20) (by kernel_rfl) (by kernel_rfl) Tryd.underlying149 Tryd.underlying140 (by kernel_rfl) (by kernel_rfl) h.tail.tail
set_option maxRecDepth 100000 in
theorem door_metS (os : Os) (args : Array Value) : laidMetH Tryd.prog Rows.fnExactFormatSegmentsRow.laid ((World.doorLaid Tryd.prog 400 os).forCall (fun _ _ => 0) ⟨#[], args, []⟩).memory :=
  laidMetH_of_parts3 (fuel := 8) (laidMet_of_run' 8 (by kernel_rfl) (by kernel_rfl)) (by kernel_rfl) (by kernel_rfl)
end Go.Proofs.YtjpcpiffffobcaaDoor
