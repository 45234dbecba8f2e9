
/- The laws' measure of an argument: szCase, szCaseS, szSwitch. -/
import Derived.Test.YtjmfcnblkojejaaDoorKsModel
namespace Go.Proofs.YtjmfcnblkojejaaDoor
open Go.RowKit Go.Shelf Go.Lib Go.Sort

/-- What is left behind the measure: a number; if it is not negative the slice is no longer than 2^20. -/
def SzPost (n : Nat) (w : World) (x : Ending) (w' : World) : Prop :=
  ∃ r : Int, x = .returned (.int .i64 r) ∧ (0 ≤ r → n ≤ 1048576) ∧ RowKit.Below w.heap.size w w'

/-- A slice of cases that came in: nil, or a row. -/
def SliceC (w : World) (v : Value) (d : Array CaseD) : Prop :=
  (∃ p cap, v = .slice p 0 cap ∧ d = #[]) ∨ ∃ b off cap, v = .slice (some ⟨b, off, none⟩) d.size cap ∧ d.size ≤ cap ∧ cap ≤ maxLen ∧ RowC w b off d
theorem SliceC.below {w w' : World} {v : Value} {d : Array CaseD} (h : SliceC w v d) (hb : RowKit.Below w.heap.size w w') : SliceC w' v d := by
  rcases h with h | ⟨b, off, cap, h1, h2, h3, h4⟩
  · exact .inl h
  · exact .inr ⟨b, off, cap, h1, h2, h3, h4.below hb⟩

end Go.Proofs.YtjmfcnblkojejaaDoor
