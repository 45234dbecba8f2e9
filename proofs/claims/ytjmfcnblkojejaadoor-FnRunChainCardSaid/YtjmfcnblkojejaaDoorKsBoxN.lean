
/- A block of integers of the call's own, whole. -/
import Derived.Test.YtjmfcnblkojejaaDoorKsVals
namespace Go.Proofs.YtjmfcnblkojejaaDoor
open Go.RowKit Go.Shelf Go.Lib Go.Sort

def BoxN (w : World) (g : Nat) (A : Array Int) : Prop := w.heap[g]? = some (.cells (A.map encN) 3 (0, 0))
section
variable {w w' : World} {g : Nat} {A : Array Int}
theorem BoxN.lt (h : BoxN w g A) : g < w.heap.size := (Array.getElem?_eq_some_iff.1 h).1
theorem BoxN.holds (h : BoxN w g A) : Holds encN w g 0 A := fun j hj => by
  have h' : w.heap[g]? = some (.cells (A.map encN) 3 (0, 0)) := h
  constructor
  · rw [Nat.zero_add]
    simp only [World.cell?, h']
    simp [hj]
  · simp [World.frozen?, h']
theorem BoxN.row (h : BoxN w g A) : RowN w g 0 A := ⟨h.lt, fun j hj => (h.holds j hj).1⟩
theorem BoxN.set (h : BoxN w g A) (i : Nat) (x : Int) : BoxN (w.setCell ⟨g, i, none⟩ (.int .i64 x)) g (A.setIfInBounds i x) := by
  unfold BoxN
  rw [heap_setCell_same w g i _ _ _ h]
  simp [Array.map_setIfInBounds]
theorem BoxN.kept {row : Option Nat} (h : BoxN w g A) (hg : w.grownBy w' row) (hne : some g ≠ row) : BoxN w' g A := (hg.block g h.lt hne).trans h
theorem BoxN.below (h : BoxN w g A) (hb : RowKit.Below w.heap.size w w') : BoxN w' g A := (hb.block g h.lt).trans h
theorem BoxN.owns (h : BoxN w g A) {base : Nat} (hb : base ≤ g) (hn : A.size ≤ 1048576) : OwnsN base (.slice (some ⟨g, 0, none⟩) A.size A.size) A.toList w := by
  refine ⟨by simp, .inr ⟨g, A.size, A.map encN, by simp, hb, h, by simp, by unfold maxLen; omega, by simp, ?_⟩⟩
  simp [List.take_of_length_le]
end
theorem BoxN.made (n : Nat) (W : World) (g : Nat) (hg : g = W.heap.size) : BoxN (W.alloc (.cells (madeCells #[.int .i64 0] n) 3)) g (Array.replicate n 0) := by
  subst hg
  unfold BoxN
  rw [World.alloc_heap_new]
  congr 2
  refine Array.ext (by simp [madeCells]) fun j h1 h2 => ?_
  simp [madeCells, Nat.mod_one]
end Go.Proofs.YtjmfcnblkojejaaDoor
