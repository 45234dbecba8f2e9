
/- A block that holds a switch. -/
import Derived.Test.YtjpcpiffffobcaaGreatDoorKsMergeN
namespace Go.Proofs.YtjpcpiffffobcaaGreatDoor
open Go.RowKit Go.Shelf Go.Lib Go.Sort

theorem two_cells {w : World} {g : Nat} {u0 u1 : Value} (h0 : w.cell? ⟨g, 0, none⟩ = some u0) (h1 : w.cell? ⟨g, 1, none⟩ = some u1) (v0 v1 : Value) :
    ((w.setCell ⟨g, 0, none⟩ v0).setCell ⟨g, 1, none⟩ v1).cell? ⟨g, 0, none⟩ = some v0 ∧ ((w.setCell ⟨g, 0, none⟩ v0).setCell ⟨g, 1, none⟩ v1).cell? ⟨g, 1, none⟩ = some v1 := by
  have o1 : ∀ (W : World) (x y : Nat) (v : Value), x ≠ y → (W.setCell ⟨g, x, none⟩ v).cell? ⟨g, y, none⟩ = W.cell? ⟨g, y, none⟩ := fun W x y v h => World.cell?_setCell_other _ _ _ _ (fun e => h (by cases e; rfl))
  have e0 := World.cell?_setCell_same w ⟨g, 0, none⟩ v0 h0
  have e1 := World.cell?_setCell_same (w.setCell ⟨g, 0, none⟩ v0) ⟨g, 1, none⟩ v1 ((o1 _ 0 1 _ (by decide)).trans h1)
  exact ⟨(o1 _ 1 0 _ (by decide)).trans e0, e1⟩

/-- A block that holds a switch. -/
def BoxS (W : World) (B : Nat) (v : Value) (rest : Int) : Prop := W.heap[B]? = some (.cells #[v, .int .i64 rest] 32 (0, 0))
theorem BoxS.new (W : World) (v : Value) (rest : Int) : BoxS (W.alloc (.cells #[v, .int .i64 rest] 32)) W.heap.size v rest := World.alloc_heap_new W _
theorem BoxS.lt {W : World} {B : Nat} {v : Value} {rest : Int} (h : BoxS W B v rest) : B < W.heap.size := (Array.getElem?_eq_some_iff.1 h).1
theorem BoxS.kept {W W' : World} {row : Option Nat} {B : Nat} {v : Value} {rest : Int} (h : BoxS W B v rest) (hg : W.grownBy W' row) (hne : some B ≠ row) : BoxS W' B v rest := (hg.block B h.lt hne).trans h
theorem BoxS.c0 {W : World} {B : Nat} {v : Value} {rest : Int} (h : BoxS W B v rest) : W.cell? ⟨B, 0, none⟩ = some v := by simp [World.cell?, show W.heap[B]? = _ from h]
theorem BoxS.c1 {W : World} {B : Nat} {v : Value} {rest : Int} (h : BoxS W B v rest) : W.cell? ⟨B, 1, none⟩ = some (.int .i64 rest) := by simp [World.cell?, show W.heap[B]? = _ from h]
theorem BoxS.z {W : World} {B : Nat} {v : Value} {rest : Int} (h : BoxS W B v rest) (o : Nat) : W.frozen? ⟨B, o, none⟩ = false := by simp [World.frozen?, show W.heap[B]? = _ from h]
theorem BoxS.set {W : World} {B : Nat} {v : Value} {rest : Int} (h : BoxS W B v rest) (u : Value) : BoxS (W.setCell ⟨B, 0, none⟩ u) B u rest := by
  obtain ⟨hlt, hk⟩ := Array.getElem?_eq_some_iff.1 h
  show (W.heap.modify B _)[B]? = _
  rw [Array.getElem?_eq_getElem (by rw [Array.size_modify]; exact hlt), Array.getElem_modify_self, hk]
  simp
theorem BoxS.not_row {W : World} {B : Nat} {v u : Value} {rest : Int} {base k : Nat} {xs : List Value} (h : BoxS W B v rest) (hr : W.ownsRow base 67 4 u k xs) : u.ownBlock ≠ some B := by
  intro e
  rcases hr.2 with ⟨rfl, _⟩ | ⟨g, cap, cur, rfl, _, hg, _⟩
  · cases e
  · simp only [Value.ownBlock, Option.some.injEq] at e
    rw [e, show W.heap[B]? = _ from h] at hg
    simp only [Option.some.injEq, Obj.cells.injEq] at hg
    exact absurd hg.2.1 (by decide)

end Go.Proofs.YtjpcpiffffobcaaGreatDoor
