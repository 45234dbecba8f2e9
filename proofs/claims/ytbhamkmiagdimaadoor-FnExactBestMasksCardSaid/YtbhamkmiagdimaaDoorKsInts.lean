
/- slices.Sort on at most twelve integers. -/
import Derived.Test.YtbhamkmiagdimaaDoorKsLtZ
import Derived.Test.YtbhamkmiagdimaaDoorKsLeaf
import Derived.Test.YtbhamkmiagdimaaDoorKsRowN
import Derived.Test.YtbhamkmiagdimaaDoorKsLay4
namespace Go.Proofs.YtbhamkmiagdimaaDoor
open Go.RowKit Go.Shelf Go.Lib Go.Sort


theorem holds_setN {w : World} {g : Nat} {d : Array Int} (h : Holds encN w g 0 d) (i : Nat) (x : Int) (hi : i < d.size) : Holds encN (w.setCell ⟨g, i, none⟩ (.int .i64 x)) g 0 (d.setIfInBounds i x) := by
  have e := putRow_set encN w g 0 d i x hi
  rw [putRow_self encN w g 0 d h, Nat.zero_add] at e
  show Holds encN (w.setCell ⟨g, i, none⟩ (encN x)) g 0 _
  rw [e]
  exact holds_putRow encN w g 0 d _ h (by simp)
theorem grown_setN {a w : World} {g : Nat} (h : a.grownBy w (some g)) (i : Nat) (u : Value) : a.grownBy (w.setCell ⟨g, i, none⟩ u) (some g) :=
  ⟨h.os, h.tape, h.output, by simpa [World.setCell] using h.size, fun k hk hne => (Below.heap_setCell w _ u k (fun e => hne (by rw [e]))).trans (h.block k hk hne)⟩
theorem grown_drewN {a w : World} {r : Option Nat} (h : a.grownBy w r) (n : Nat) : a.grownBy (w.drewN n) r := ⟨h.os, h.tape, h.output, h.size, h.block⟩
theorem grown_drew1N {a w : World} {r : Option Nat} (h : a.grownBy w r) : a.grownBy w.drew r := ⟨h.os, h.tape, h.output, h.size, h.block⟩
theorem grown_reflN (w : World) (r : Option Nat) : w.grownBy w r := ⟨rfl, rfl, rfl, Nat.le_refl _, fun _ _ _ => rfl⟩

/-- Behind the sort: the row holds what the insertion sort makes of it; nothing else has turned. -/
def SortedRowN (d : Array Int) (g : Nat) (w w' : World) : Prop := Holds encN w' g 0 (insertionSort ltZ d 0 d.size) ∧ w.grownBy w' (some g)

end Go.Proofs.YtbhamkmiagdimaaDoor
