
/- The draws of chapter 7: a switch and mostly an order of its targets. -/
import Derived.Test.YtjpcpiffffobcaaGreatDoorKsDrawF
import Derived.Test.YtjpcpiffffobcaaGreatDoorKsWordA
namespace Go.Proofs.YtjpcpiffffobcaaGreatDoor
open Go.RowKit Go.Shelf Go.Lib Go.Sort

/-- A switch and a text have been drawn; the source lies in block g. -/
def DrewOrd (g p : Nat) (w : World) (x : Ending) (w' : World) : Prop := ∃ (D : Array CaseD) (rest : Int) (s : ByteArray) (b cap : Nat), SmallSw D 9 ∧ s.size ≤ 10 ∧ x = .returned (.tuple #[.agg #[.slice (some ⟨b, 0, none⟩) D.size cap, .int .i64 rest], .string s]) ∧ RowC w' b 0 D ∧ w.heap.size ≤ b ∧ D.size ≤ cap ∧ cap ≤ maxLen ∧ RdAt w' g p ∧ w.grownBy w' (some g)
theorem DrewOrd.mk {g p : Nat} {w : World} {x : Ending} {w' : World} (D : Array CaseD) (rest : Int) (s : ByteArray) (b cap : Nat) (h1 : SmallSw D 9) (h2 : s.size ≤ 10) (h3 : x = .returned (.tuple #[.agg #[.slice (some ⟨b, 0, none⟩) D.size cap, .int .i64 rest], .string s])) (h4 : RowC w' b 0 D) (h5 : w.heap.size ≤ b) (h6 : D.size ≤ cap) (h7 : cap ≤ maxLen) (h8 : RdAt w' g p) (h9 : w.grownBy w' (some g)) : DrewOrd g p w x w' := ⟨D, rest, s, b, cap, h1, h2, h3, h4, h5, h6, h7, h8, h9⟩
theorem grown_two {w w1 w2 : World} {g B : Nat} (h1 : w.grownBy w1 (some g)) (h2 : w1.grownBy w2 (some B)) (hB : w.heap.size ≤ B) : w.grownBy w2 (some g) :=
  ⟨h2.os.trans h1.os, h2.tape.trans h1.tape, h2.output.trans h1.output, Nat.le_trans h1.size h2.size, fun q hq hne => (h2.block q (Nat.lt_of_lt_of_le hq h1.size) (by simp; omega)).trans (h1.block q hq hne)⟩
theorem grown_belowD {w w' : World} {r : Option Nat} (h : RowKit.Below w.heap.size w w') : w.grownBy w' r := ⟨h.os, h.tape, h.output, h.size, fun k hk _ => h.block k hk⟩
theorem grown_drewD {a w : World} {r : Option Nat} (h : a.grownBy w r) (n : Nat) : a.grownBy (w.drewN n) r := ⟨h.os, h.tape, h.output, h.size, h.block⟩
theorem of3 {z : ByteArray} (h : z ∈ [(⟨#[97]⟩ : ByteArray), ⟨#[122]⟩, ⟨#[104]⟩]) : z.size = 1 := by
  simp only [List.mem_cons, List.not_mem_nil, or_false] at h
  rcases h with rfl | rfl | rfl <;> rfl

theorem RowC.keptD {W W' : World} {g off : Nat} {d : Array CaseD} {row : Option Nat} (h : RowC W g off d) (hg : W.grownBy W' row) (hne : some g ≠ row) : RowC W' g off d := by
  have hc : ∀ j, W'.cell? ⟨g, j, none⟩ = W.cell? ⟨g, j, none⟩ := fun j => World.cell?_of_block (w := W) (hg.block g h.old hne)
  exact ⟨Nat.lt_of_lt_of_le h.old hg.size, fun j hj => (hc _).trans (h.low j hj), fun j hj => (hc _).trans (h.high j hj), fun j hj => (hc _).trans (h.target j hj), fun j hj => (hc _).trans (h.weight j hj)⟩
theorem put_box {W : World} {B : Nat} {v : Value} {r : Int} (hB : BoxS W B v r) (u : Value) (z : Int) :
    BoxS ((W.setCell ⟨B, 0, none⟩ u).setCell ⟨B, 1, none⟩ (.int .i64 z)) B u z ∧ W.grownBy ((W.setCell ⟨B, 0, none⟩ u).setCell ⟨B, 1, none⟩ (.int .i64 z)) (some B) :=
  ⟨(hB.set u).set1 z, (grown_set W B 0 u).trans (grown_set (W.setCell ⟨B, 0, none⟩ u) B 1 (.int .i64 z))⟩
/-- A switch, a text and a key have been drawn. -/
def DrewOKey (w : World) (x : Ending) (w' : World) : Prop := ∃ (D : Array CaseD) (rest key : Int) (s : ByteArray) (b cap : Nat), x = .returned (.tuple #[.agg #[.slice (some ⟨b, 0, none⟩) D.size cap, .int .i64 rest], .string s, .int .i64 key]) ∧ s.size ≤ 10 ∧ RowC w' b 0 D ∧ D.size ≤ cap ∧ cap ≤ maxLen ∧ SmallSw D 9 ∧ RowKit.Below w.heap.size w w'
theorem DrewOKey.mk {w : World} {x : Ending} {w' : World} (D : Array CaseD) (rest key : Int) (s : ByteArray) (b cap : Nat) (h1 : x = .returned (.tuple #[.agg #[.slice (some ⟨b, 0, none⟩) D.size cap, .int .i64 rest], .string s, .int .i64 key])) (h0 : s.size ≤ 10) (h2 : RowC w' b 0 D) (h3 : D.size ≤ cap) (h4 : cap ≤ maxLen) (h5 : SmallSw D 9) (h6 : RowKit.Below w.heap.size w w') : DrewOKey w x w' := ⟨D, rest, key, s, b, cap, h1, h0, h2, h3, h4, h5, h6⟩

end Go.Proofs.YtjpcpiffffobcaaGreatDoor
