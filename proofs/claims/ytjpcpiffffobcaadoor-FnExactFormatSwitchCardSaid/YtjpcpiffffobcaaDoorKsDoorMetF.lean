
/- The world of the witness for the rows that list the library's tables too. -/
import Derived.Test.YtjpcpiffffobcaaDoorKsDoor
namespace Go.Proofs.YtjpcpiffffobcaaDoor
open Go.ChangeShapes Go.WideShapes Go.ChangeAt Go.RowKit Go.Deep Go.Joins

theorem door_metF (os : Os) (args : Array Value) : laidMetH Tryd.prog Rows.fnExactFormatSwitchRow.laid ((World.doorLaid Tryd.prog 400 os).forCall (fun _ _ => 0) ⟨#[], args, []⟩).memory :=
  laidMetH_of_parts3 (fuel := 8) (laidMet_of_run' 8 (by kernel_rfl) (by kernel_rfl)) (by kernel_rfl) (by kernel_rfl)
theorem err_of_laidF {W : World} (h : laidMetH Tryd.prog Rows.fnExactFormatSwitchRow.laid W) : ∃ a : Addr, W.var? Tryd.prog "loop.example/keyswitches/impl.errNoTarget" = some #[.iface 157 (.pointer (some a))] := by
  rw [MakeChecks.laidMetH_plain _ _ _ (by kernel_rfl)] at h
  obtain ⟨a, _, hv, _⟩ := laid_sentinel h.tail.tail.tail gErr tErr Tryd.underlying115 rowErr Tryd.underlying157 Tryd.underlying200 rfl rfl Tryd.underlying9 (by kernel_rfl) (by kernel_rfl)
  exact ⟨a, hv⟩
end Go.Proofs.YtjpcpiffffobcaaDoor
