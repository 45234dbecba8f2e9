
/- slices.Sort on at most twelve bytes. -/
import Derived.Test.YtjmfcnblkojejaaDoorKsLtZ
import Derived.Test.YtjmfcnblkojejaaDoorKsSums
import Derived.Test.YtjmfcnblkojejaaDoorKsLay3
namespace Go.Proofs.YtjmfcnblkojejaaDoor
open Go.RowKit Go.Shelf Go.Lib Go.Sort


abbrev encB : Int → Value := Value.int .u8
theorem holds_setB {w : World} {g : Nat} {d : Array Int} (h : Holds encB w g 0 d) (i : Nat) (x : Int) (hi : i < d.size) : Holds encB (w.setCell ⟨g, i, none⟩ (.int .u8 x)) g 0 (d.setIfInBounds i x) := by
  have e := putRow_set encB w g 0 d i x hi
  rw [putRow_self encB w g 0 d h, Nat.zero_add] at e
  show Holds encB (w.setCell ⟨g, i, none⟩ (encB x)) g 0 _
  rw [e]
  exact holds_putRow encB w g 0 d _ h (by simp)
theorem grown_setB {a w : World} {g : Nat} (h : a.grownBy w (some g)) (i : Nat) (u : Value) : a.grownBy (w.setCell ⟨g, i, none⟩ u) (some g) :=
  ⟨h.os, h.tape, h.output, by simpa [World.setCell] using h.size, fun k hk hne => (Below.heap_setCell w _ u k (fun e => hne (by rw [e]))).trans (h.block k hk hne)⟩
theorem grown_drewB {a w : World} {r : Option Nat} (h : a.grownBy w r) (n : Nat) : a.grownBy (w.drewN n) r := ⟨h.os, h.tape, h.output, h.size, h.block⟩
theorem grown_drew1B {a w : World} {r : Option Nat} (h : a.grownBy w r) : a.grownBy w.drew r := ⟨h.os, h.tape, h.output, h.size, h.block⟩
theorem grown_reflB (w : World) (r : Option Nat) : w.grownBy w r := ⟨rfl, rfl, rfl, Nat.le_refl _, fun _ _ _ => rfl⟩

/-- Behind the sort: the row holds what the insertion sort makes of it; nothing else has turned. -/
def SortedRow (d : Array Int) (g : Nat) (w w' : World) : Prop := Holds encB w' g 0 (insertionSort ltZ d 0 d.size) ∧ w.grownBy w' (some g)

end Go.Proofs.YtjmfcnblkojejaaDoor
