
/- Orders of the cases of a switch: what an order is; the model's l3Order. -/
import Derived.Test.YtbhamkmiagdimaaDoorKsLeaf
import Derived.Test.YtbhamkmiagdimaaDoorKsRowN
import Derived.Sort.LotA
import Derived.Sort.Row
import Derived.Sort.Grow
import Derived.IntWalk
import Derived.Laws.MakeOwn
import Derived.Shelf.SlicesE.Clone
namespace Go.Proofs.YtbhamkmiagdimaaDoor
open Go.RowKit Go.Shelf Go.Lib Go.Sort

def OrdTo (n : Nat) (o : Array Int) (k : Nat) : Prop := ∀ j, j < k → (0 ≤ o[j]! ∧ o[j]! < n) ∧ ∀ i, i < j → o[i]! ≠ o[j]!
def OrdOK (n : Nat) (o : Array Int) : Prop := o.size = n ∧ OrdTo n o o.size
open Classical in
noncomputable def ordB (n : Nat) (o : Array Int) : Bool := decide (OrdOK n o)
theorem ordB_iff (n : Nat) (o : Array Int) : ordB n o = true ↔ OrdOK n o := @decide_eq_true_iff _ (Classical.propDecidable _)
theorem ordB_not (n : Nat) (o : Array Int) : ordB n o = false ↔ ¬ OrdOK n o := @decide_eq_false_iff_not _ (Classical.propDecidable _)
theorem OrdTo.succ {n : Nat} {o : Array Int} {k : Nat} (h : OrdTo n o k) (h1 : 0 ≤ o[k]! ∧ o[k]! < n) (h2 : ∀ i, i < k → o[i]! ≠ o[k]!) : OrdTo n o (k + 1) := fun j hj => by
  rcases Nat.lt_or_ge j k with h3 | h3
  · exact h j h3
  · obtain rfl : j = k := by omega
    exact ⟨h1, h2⟩

end Go.Proofs.YtbhamkmiagdimaaDoor
