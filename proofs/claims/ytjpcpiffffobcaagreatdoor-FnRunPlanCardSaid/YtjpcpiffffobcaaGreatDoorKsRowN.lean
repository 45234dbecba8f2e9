
/- A row of integers in memory; what make lays. -/
import Derived.Test.YtjpcpiffffobcaaGreatDoorKsLeaf
import Derived.Sort.LotA
import Derived.Sort.Row
import Derived.Sort.Grow
import Derived.IntWalk
import Derived.Laws.MakeOwn
namespace Go.Proofs.YtjpcpiffffobcaaGreatDoor
open Go.RowKit Go.Sort

abbrev encN : Int → Value := Value.int .i64
/-- A row of integers in memory. -/
structure RowN (w : World) (b off : Nat) (o : Array Int) : Prop where
  old : b < w.heap.size
  cell : ∀ j, j < o.size → w.cell? ⟨b, off + j, none⟩ = some (.int .i64 o[j]!)
theorem RowN.below {w w' : World} {b off : Nat} {o : Array Int} (h : RowN w b off o) (hb : RowKit.Below w.heap.size w w') : RowN w' b off o :=
  ⟨Nat.lt_of_lt_of_le h.old hb.size, fun j hj => (hb.cell (p := ⟨b, off + j, none⟩) h.old).trans (h.cell j hj)⟩

theorem holds_setG {α : Type} [Inhabited α] (enc : α → Value) {w : World} {g : Nat} {d : Array α} (h : Holds enc w g 0 d) (i : Nat) (x : α) (hi : i < d.size) : Holds enc (w.setCell ⟨g, i, none⟩ (enc x)) g 0 (d.setIfInBounds i x) := by
  have e := putRow_set enc w g 0 d i x hi
  rw [putRow_self enc w g 0 d h, Nat.zero_add] at e
  rw [e]
  exact holds_putRow enc w g 0 d _ h (by simp)

theorem run_makeInt (n : Nat) (hn : n ≤ 1048576) (W : World) :
    (Instr.makeSlice 84 (.int .i64 (n : Int)) (.int .i64 (n : Int))).run Tryz.prog W = .ok (.slice (some ⟨W.heap.size, 0, none⟩) n n) (W.alloc (.cells (madeCells #[.int .i64 0] n) 3)) := by
  obtain ⟨i0, hi, hz0, hz1, hz2⟩ := info_parts (show (Tryz.prog.info? 3).map (fun i => (i.zero, i.size, i.bytes)) = some (some (.int .i64 0), 1, 8) by kernel_rfl)
  have h := run_make (P := Tryz.prog) W 84 3 i0 _ Tryz.underlying84 hi hz0 .i64 .i64 (n : Int) (n : Int) (by omega) (by omega) (by rw [hz2]; omega) (by omega)
  rw [hz1] at h
  simp only [Int.toNat_natCast, Nat.mul_one] at h
  exact h
theorem made_holdsG {α : Type} [Inhabited α] {u : Value} (enc : α → Value) (z : α) (hz : enc z = u) (n : Nat) (T : TypeId) (W : World) (g : Nat) (hg : g = W.heap.size) : Holds enc (W.alloc (.cells (madeCells #[u] n) T)) g 0 (Array.replicate n z) := by
  subst hg hz
  intro t ht
  have ht' : t < n := by simpa using ht
  constructor
  · simp [madeCells, ht', Nat.mod_one]
  · simp

end Go.Proofs.YtjpcpiffffobcaaGreatDoor
