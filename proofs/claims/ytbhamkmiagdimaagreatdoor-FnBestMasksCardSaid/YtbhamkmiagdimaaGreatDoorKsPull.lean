
/- pullFrom: a function that hands out the segments of a switch one behind the other. -/
import Derived.Test.YtbhamkmiagdimaaGreatDoorKsCollect
import Derived.Test.YtbhamkmiagdimaaGreatDoorKsMark
namespace Go.Proofs.YtbhamkmiagdimaaGreatDoor
open Go.RowKit Go.Shelf Go.Lib Go.Sort

/-- A slice value that reads as a list of cases, in no block of a set. -/
def ReadsC (W : World) (v : Value) (S : Nat → Prop) (l : List CaseD) : Prop :=
  (l = [] ∧ ∃ p c, v = .slice p 0 c) ∨ (0 < l.length ∧ ∃ g off cap, v = .slice (some ⟨g, off, none⟩) l.length cap ∧ l.length ≤ cap ∧ cap ≤ maxLen ∧ RowC W g off l.toArray ∧ ¬ S g)
/-- The box of a pulling function: what is left. -/
def PullAt (W : World) (X : Nat) (S : Nat → Prop) (l : List CaseD) : Prop := ∃ v, Boxed W X 23 v ∧ ReadsC W v S l

theorem RowC.kept {W W' : World} {g off : Nat} {d : Array CaseD} {row : Option Nat} (h : RowC W g off d) (hg : W.grownBy W' row) (hne : some g ≠ row) : RowC W' g off d := by
  have e : ∀ o, W'.cell? ⟨g, o, none⟩ = W.cell? ⟨g, o, none⟩ := fun o => World.cell?_of_block (hg.block g h.old hne)
  exact ⟨Nat.lt_of_lt_of_le h.old hg.size, fun j hj => (e _).trans (h.low j hj), fun j hj => (e _).trans (h.high j hj), fun j hj => (e _).trans (h.target j hj), fun j hj => (e _).trans (h.weight j hj)⟩
theorem PullAt.kept {W W' : World} {X : Nat} {S : Nat → Prop} {l : List CaseD} {row : Option Nat} (h : PullAt W X S l) (hg : W.grownBy W' row) (h1 : some X ≠ row) (h2 : ∀ g, row = some g → S g ∨ W.heap.size ≤ g) : PullAt W' X S l := by
  obtain ⟨v, hb, hr⟩ := h
  refine ⟨v, hb.kept hg h1, ?_⟩
  rcases hr with h0 | ⟨h0, g, off, cap, hv, hc, hm, hR, hS⟩
  · exact .inl h0
  · refine .inr ⟨h0, g, off, cap, hv, hc, hm, hR.kept hg (fun e => ?_), hS⟩
    rcases h2 g e.symm with h | h
    · exact hS h
    · have := hR.old
      omega
theorem row_tail {W : World} {g off : Nat} {c : CaseD} {t : List CaseD} (h : RowC W g off (c :: t).toArray) : RowC W g (off + 4) t.toArray := by
  have e : ∀ j, (c :: t).toArray[j + 1]! = t.toArray[j]! := fun j => by rw [toArray_get, toArray_get]; rfl
  have s : ∀ j, j < t.toArray.size → j + 1 < (c :: t).toArray.size := fun j hj => by simpa using hj
  refine ⟨h.old, fun j hj => ?_, fun j hj => ?_, fun j hj => ?_, fun j hj => ?_⟩
  · have := h.low (j + 1) (s j hj); rw [e] at this; rw [show off + 4 + j * 4 = off + (j + 1) * 4 by omega]; exact this
  · have := h.high (j + 1) (s j hj); rw [e] at this; rw [show off + 4 + j * 4 + 1 = off + (j + 1) * 4 + 1 by omega]; exact this
  · have := h.target (j + 1) (s j hj); rw [e] at this; rw [show off + 4 + j * 4 + 2 = off + (j + 1) * 4 + 2 by omega]; exact this
  · have := h.weight (j + 1) (s j hj); rw [e] at this; rw [show off + 4 + j * 4 + 3 = off + (j + 1) * 4 + 3 by omega]; exact this

def zeroD : CaseD := ⟨0, 0, ⟨#[]⟩, 0⟩
/-- What a pull answers. -/
def PullPost (X : Nat) (S : Nat → Prop) (l : List CaseD) (W : World) (x : Ending) (w' : World) : Prop :=
  x = .returned (.tuple #[aggC (l.headD zeroD), .bool (!l.isEmpty)]) ∧ PullAt w' X S l.tail ∧ W.grownBy w' (some X)

end Go.Proofs.YtbhamkmiagdimaaGreatDoor
