
/- TargetsOf of the program. -/
import Derived.Test.YtbbejkimgkpfkaaDoorKsTargets
namespace Go.Proofs.YtbbejkimgkpfkaaDoor
open Go.RowKit Go.Shelf Go.Lib Go.Sort

theorem caseB_target' {c : CaseD} (h : caseB c = true) : c.target.size = 1 := by simp [caseB, oneB] at h; exact h.1.1.1.1.1
theorem retTg {a c : ByteArray} {b e : Bool} (h : a = c) (h2 : b = e) : Ending.returned (.tuple #[.string a, .bool b]) = .returned (.tuple #[.string c, .bool e]) := by rw [h, h2]
theorem byteRow_eq (d : Array CaseD) : byteRow d d.size = (bytesZ d false).map encB := by simp [byteRow, bytesZ]
theorem byteRow_z (d : Array CaseD) : byteRow d d.size ++ [.int .u8 122] = (bytesZ d true).map encB := by simp [byteRow, bytesZ]

/-- The tail of TargetsOf: sort, compact, text: over a row of the call's own. -/
theorem tail_pack {d : Array CaseD} {rest : Int} {z : Bool} (hok : SwOK d rest) : (bytesZ d z).toArray.size ≤ 12 ∧ compactUpTo (insertionSort ltZ (bytesZ d z).toArray 0 (bytesZ d z).toArray.size) (bytesZ d z).toArray.size = lettersZ d z ∧ (insertionSort ltZ (bytesZ d z).toArray 0 (bytesZ d z).toArray.size).size = (bytesZ d z).toArray.size := by
  have h := sort_compact (bytesZ d z).toArray (lettersZ d z) (lettersZ_asc d z) (lettersZ_mem hok z)
  refine ⟨?_, h.1, h.2⟩
  have := hok.size
  cases z <;> simp [bytesZ] <;> omega

def sortedZ (d : Array CaseD) (z : Bool) : Array Int := insertionSort ltZ (bytesZ d z).toArray 0 (bytesZ d z).toArray.size
end Go.Proofs.YtbbejkimgkpfkaaDoor
