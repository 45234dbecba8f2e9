
/- From a text's reading as data, and from the listed variables, to what the walks of trees ask; the world of the witness. -/
import Derived.Test.YtndnbeijmhcepaaDoorKsDoor
import Derived.Test.YtndnbeijmhcepaaDoorKsTreeP
import Derived.ChangeMaps5
namespace Go.Proofs.YtndnbeijmhcepaaDoor
open Go.ChangeShapes Go.WideShapes Go.ChangeAt Go.RowKit Go.Deep Go.Joins

theorem gTree : Tryd.prog.globalNamed "loop.example/keyswitches/impl.errNoTree" = some 0 := by kernel_rfl
theorem tTree : (Tryd.prog.globals[0]?).map (·.type) = some 89 := by kernel_rfl
theorem gRange : Tryd.prog.globalNamed "strconv.ErrRange" = some 7 := by kernel_rfl
theorem tRange : (Tryd.prog.globals[7]?).map (·.type) = some 89 := by kernel_rfl
theorem gSyn : Tryd.prog.globalNamed "strconv.ErrSyntax" = some 6 := by kernel_rfl
theorem tSyn : (Tryd.prog.globals[6]?).map (·.type) = some 89 := by kernel_rfl
set_option maxRecDepth 100000 in
/-- What the listed variables give the walks. -/
theorem vars_of_laidT {W : World} (h : laidMetH Tryd.prog Rows.fnExactSwitchOfRow.laid W) : ∃ a : Addr, W.var? Tryd.prog "loop.example/keyswitches/impl.errNoTree" = some #[.iface 173 (.pointer (some a))] ∧ VarsAt W := by
  rw [MakeChecks.laidMetH_plain _ _ _ (by kernel_rfl)] at h
  obtain ⟨a1, _, h1, _⟩ := laid_sentinel h.tail.tail.tail gRange tRange Tryd.underlying89 rowErr Tryd.underlying173 Tryd.underlying175 rfl rfl Tryd.underlying9 (by kernel_rfl) (by kernel_rfl)
  obtain ⟨a2, _, h2, _⟩ := laid_sentinel h.tail.tail.tail.tail gSyn tSyn Tryd.underlying89 rowErr Tryd.underlying173 Tryd.underlying175 rfl rfl Tryd.underlying9 (by kernel_rfl) (by kernel_rfl)
  obtain ⟨a3, _, h3, _⟩ := laid_sentinel h.tail.tail.tail.tail.tail gTree tTree Tryd.underlying89 rowErr Tryd.underlying173 Tryd.underlying175 rfl rfl Tryd.underlying9 (by kernel_rfl) (by kernel_rfl)
  have c1 : W.cell? ⟨7, 0, none⟩ = some (.iface 173 (.pointer (some a1))) := by simpa using World.var?_cell gRange h1 0
  have c2 : W.cell? ⟨6, 0, none⟩ = some (.iface 173 (.pointer (some a2))) := by simpa using World.var?_cell gSyn h2 0
  have c3 : W.cell? ⟨0, 0, none⟩ = some (.iface 173 (.pointer (some a3))) := by simpa using World.var?_cell gTree h3 0
  exact ⟨a3, h3, ⟨⟨_, _, c2, .inr ⟨_, _, rfl⟩, c1, .inr ⟨_, _, rfl⟩⟩, _, _, c3⟩⟩
set_option maxRecDepth 100000 in
theorem door_metT (os : Os) (args : Array Value) : laidMetH Tryd.prog Rows.fnExactSwitchOfRow.laid ((World.doorLaid Tryd.prog 400 os).forCall (fun _ _ => 0) ⟨#[], args, []⟩).memory :=
  laidMetH_of_parts3 (fuel := 8) (laidMet_of_run' 8 (by kernel_rfl) (by kernel_rfl)) (by kernel_rfl) (by kernel_rfl)
end Go.Proofs.YtndnbeijmhcepaaDoor
