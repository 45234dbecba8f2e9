
/- The order of numbers by which the sorts compare. No walk. -/
import Derived.Test.YtjpcpiffffobcaaGreatDoorRows
import Derived.Sort.WalkA
namespace Go.Proofs.YtjpcpiffffobcaaGreatDoor
open Go.Sort

def ltZ (x y : Int) : Bool := decide (x < y)
theorem swo_ltZ : SWO ltZ := ⟨fun x => by simp [ltZ], fun x y z h1 h2 => by simp [ltZ] at *; omega, fun x y z h1 h2 => by simp [ltZ] at *; omega⟩
end Go.Proofs.YtjpcpiffffobcaaGreatDoor
