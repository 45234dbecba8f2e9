
/- The world of the witness, for every row that lists the one variable. -/
import Derived.Test.YtjpcpiffffobcaaDoorKsDoor
namespace Go.Proofs.YtjpcpiffffobcaaDoor
open Go.ChangeShapes Go.WideShapes Go.ChangeAt Go.RowKit Go.Deep Go.Joins

theorem door_met (os : Os) (args : Array Value) : laidMetH Tryd.prog Rows.fnExactPriceOfRow.laid ((World.doorLaid Tryd.prog 400 os).forCall (fun _ _ => 0) ⟨#[], args, []⟩).memory :=
  laidMetH_of_parts3 (fuel := 8) (laidMet_of_run' 8 (by kernel_rfl) (by kernel_rfl)) (by kernel_rfl) (by kernel_rfl)
end Go.Proofs.YtjpcpiffffobcaaDoor
