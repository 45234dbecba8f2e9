
/- A row of 32 bytes: its cells, and a block that is one. No walk. -/
import Derived.Test.YtbhamkmiagdimaaDoorRows
import Derived.WalkKit
import Derived.WalkSpells
import Derived.WalkLawsBesides
import Derived.Lib.Hide
import Derived.Deep.WholeRow
import Derived.Laws.BytesArg
namespace Go.Proofs.YtbhamkmiagdimaaDoor
open Go.RowKit

/-- The cells of a row. -/
def rowA (f : Nat → Int) : Array Value := ((List.range 32).map fun i => Value.int .u8 (f i)).toArray
theorem rowA_size (f : Nat → Int) : (rowA f).size = 32 := by simp [rowA]
theorem rowA_get (f : Nat → Int) {i : Nat} (h : i < 32) : (rowA f)[i]? = some (.int .u8 (f i)) := by simp [rowA, h]
theorem rowA_congr {f g : Nat → Int} (h : ∀ i, i < 32 → f i = g i) : rowA f = rowA g := by
  unfold rowA
  congr 1
  exact List.map_congr_left fun i hi => by rw [h i (List.mem_range.1 hi)]
theorem rowA_set (f : Nat → Int) (k : Nat) (z : Int) : (rowA f).setIfInBounds k (.int .u8 z) = rowA (fun i => if i = k then z else f i) := by
  apply Array.ext_getElem?
  intro i
  rw [Array.getElem?_setIfInBounds]
  by_cases hi : i < 32
  · rw [rowA_get _ hi, rowA_get _ hi]
    by_cases e : k = i
    · subst e; simp [rowA_size, hi]
    · have e' : ¬ i = k := fun x => e x.symm
      simp [e, e']
  · have e1 : (rowA f)[i]? = none := Array.getElem?_eq_none (by rw [rowA_size]; omega)
    have e2 : (rowA (fun i => if i = k then z else f i))[i]? = none := Array.getElem?_eq_none (by rw [rowA_size]; omega)
    rw [e1, e2, rowA_size]
    split
    · next e => rw [if_neg (by omega)]
    · rfl
theorem rowA_one (f : Nat → Int) : (rowA f).all (·.oneCell') = true := by
  rw [Array.all_eq_true_iff_forall_mem]
  intro v hv
  simp only [rowA, List.mem_toArray, List.mem_map, List.mem_range] at hv
  obtain ⟨i, _, rfl⟩ := hv
  rfl

/-- Block R is a row of targets. -/
def RowU (W : World) (R : Nat) (f : Nat → Int) : Prop := W.heap[R]? = some (.cells (rowA f) 63 (0, 0))
theorem RowU.lt {W : World} {R : Nat} {f : Nat → Int} (h : RowU W R f) : R < W.heap.size := (Array.getElem?_eq_some_iff.1 h).1
theorem RowU.cell {W : World} {R : Nat} {f : Nat → Int} (h : RowU W R f) {k : Nat} (hk : k < 32) : W.cell? ⟨R, k, none⟩ = some (.int .u8 (f k)) := (cell_of_row W R k _ _ _ h).trans (rowA_get f hk)
theorem RowU.frozen {W : World} {R : Nat} {f : Nat → Int} (h : RowU W R f) (k : Nat) : W.frozen? ⟨R, k, none⟩ = false := frozen_of_row W R k _ _ h
theorem RowU.kept {W W' : World} {row : Option Nat} {R : Nat} {f : Nat → Int} (h : RowU W R f) (hg : W.grownBy W' row) (hne : some R ≠ row) : RowU W' R f := (hg.block R h.lt hne).trans h
theorem RowU.alloc {W : World} {R : Nat} {f : Nat → Int} (h : RowU W R f) (o : Obj) : RowU (W.alloc o) R f := h.kept (World.grownBy_alloc W o none) (by simp)
theorem RowU.below {W W' : World} {R : Nat} {f : Nat → Int} (h : RowU W R f) (hb : RowKit.Below W.heap.size W W') : RowU W' R f := (hb.block R h.lt).trans h
theorem RowU.set {W : World} {R : Nat} {f : Nat → Int} (h : RowU W R f) (k : Nat) (z : Int) : RowU (W.setCell ⟨R, k, none⟩ (.int .u8 z)) R (fun i => if i = k then z else f i) := by
  unfold RowU
  rw [heap_setCell_same W R k _ _ _ h, rowA_set]
theorem RowU.congr {W : World} {R : Nat} {f g : Nat → Int} (h : RowU W R f) (e : ∀ i, i < 32 → f i = g i) : RowU W R g := by
  unfold RowU at h ⊢
  rw [h, rowA_congr e]
theorem grownBy_setCellK (w : World) (b i : Nat) (v : Value) : w.grownBy (w.setCell ⟨b, i, none⟩ v) (some b) :=
  ⟨rfl, rfl, rfl, by simp, fun k _ hne => heap_setCell_other w ⟨b, i, none⟩ k v (fun e => hne (by rw [e]))⟩
theorem infoRow : (Tryd.prog.info? 63).map (·.size) = some 32 := by kernel_rfl
theorem infoRowA (f : Nat → Int) : (Tryd.prog.info? 63).map (·.size) = some (rowA f).size := by rw [rowA_size]; exact infoRow
theorem grownBy_same (w : World) (row : Option Nat) : w.grownBy w row := ⟨rfl, rfl, rfl, Nat.le_refl _, fun _ _ _ => rfl⟩
theorem zero_row : rowA (fun _ => 0) = #[.int .u8 0, .int .u8 0, .int .u8 0, .int .u8 0, .int .u8 0, .int .u8 0, .int .u8 0, .int .u8 0, .int .u8 0, .int .u8 0, .int .u8 0, .int .u8 0, .int .u8 0, .int .u8 0, .int .u8 0, .int .u8 0, .int .u8 0, .int .u8 0, .int .u8 0, .int .u8 0, .int .u8 0, .int .u8 0, .int .u8 0, .int .u8 0, .int .u8 0, .int .u8 0, .int .u8 0, .int .u8 0, .int .u8 0, .int .u8 0, .int .u8 0, .int .u8 0] := rfl

theorem arrRow : Tryd.prog.underlying 63 = some (.array (Tryd.prog.arrayLen 63) (Tryd.prog.elem 63)) := by kernel_rfl
theorem lenRow : Tryd.prog.arrayLen 63 = 32 := by kernel_rfl
theorem elemRow : Tryd.prog.elem 63 = 61 := by kernel_rfl
theorem slice_row (g ln n : Nat) (h : ln + n ≤ 32) (hn : 0 < n) (z : Int) (hz : z = (ln : Int) + n) (W : World) :
    Sem.run Tryd.prog (Instr.sliceAt 63 (.pointer (some ⟨g, 0, none⟩)) (some (.int .i64 ln)) (some (.int .i64 z)) none) W = .ok (.slice (some ⟨g, ln, none⟩) n (32 - ln)) W := by
  rw [run_sliceAt_array_lh W 63 _ arrRow .i64 .i64 ln z (by omega) (by omega) (by rw [lenRow]; omega), elemRow, Tryd.sizeOf61]
  have e1 : ¬ 32 = ln := by omega
  have e2 : z.toNat - ln = n := by omega
  simp [slicedAt, lenRow, Result.andThen, Addr.add, e1, e2]
  exact fun e => e.symm
theorem index_row (f : Nat → Int) {k : Nat} (h : k < 32) (W : World) : Sem.run Tryd.prog (Instr.index 63 (.agg (rowA f)) (.int .i64 k)) W = .ok (.int .u8 (f k)) W := by
  have hg := rowA_get f h
  have hk : (k : Int) < 32 := by omega
  simp [Instr.index, run_underlying Tryd.underlying63, asIntOf, part, Tryd.sizeOf61, Tryd.isAgg61, hg, Result.andThen]
  omega
end Go.Proofs.YtbhamkmiagdimaaDoor
