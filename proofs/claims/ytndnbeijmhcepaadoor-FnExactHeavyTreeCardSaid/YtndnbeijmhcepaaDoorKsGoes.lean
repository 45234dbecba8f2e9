
/- TargetOf: the program's and the model's. -/
import Derived.Test.YtndnbeijmhcepaaDoorKsCase
namespace Go.Proofs.YtndnbeijmhcepaaDoor
open Go.RowKit Go.Shelf Go.Lib Go.Sort

def zS : ByteArray := ⟨#[122]⟩
/-- The target of a key of a valid switch. -/
def goesN (d : Array CaseD) (key : Int) : ByteArray := if 0 ≤ atN d key then d[(atN d key).toNat]!.target else zS
noncomputable def okN (d : Array CaseD) (rest key : Int) : Bool := swB d rest && keyB key
noncomputable def targetN (d : Array CaseD) (rest key : Int) : ByteArray := if okN d rest key = true then goesN d key else ⟨#[]⟩
theorem goesN_hit {d : Array CaseD} {key : Int} {k : Nat} (h : atN d key = k) : goesN d key = d[k]!.target := by
  unfold goesN
  rw [h, if_pos (by omega), Int.toNat_natCast]
theorem goesN_miss {d : Array CaseD} {key : Int} (h : atN d key = -1) : goesN d key = zS := by
  unfold goesN
  rw [h, if_neg (by omega)]
theorem ret2 {a c : ByteArray} {b e : Bool} (h : a = c) (h2 : b = e) : Ending.returned (.tuple #[.string a, .bool b]) = .returned (.tuple #[.string c, .bool e]) := by rw [h, h2]
theorem retS {a c : ByteArray} (h : a = c) : Ending.returned (.string a) = .returned (.string c) := by rw [h]

set_option maxRecDepth 100000 in
set_option maxHeartbeats 400000 in
theorem text_any (w : World) : Calls Tryd.prog 47 #[.int .u8 122] w fun x w' => x = .returned (.string zS) ∧ RowKit.Below w.heap.size w w' := by
  have hconv : Sem.run Tryd.prog (convert 83 9 (.slice (some ⟨w.heap.size, 0, none⟩) 1 1)) (w.alloc (.cells #[.int .u8 122] 5)) = .ok (.string zS) (w.alloc (.cells #[.int .u8 122] 5)) := by
    rw [run_convert_bytes_string _ _ _ _ _ _ _ Tryd.underlying83 Tryd.underlying5 Tryd.underlying9, run_bytesToString _ _ _ _ [122] (by go_simp)]
    rfl
  go_enter Tryd.func47, Tryd.ntmps47
  go_wp2
  go_ret
  exact ⟨rfl, (Below.refl _ _).alloc (Nat.le_refl _) _⟩

end Go.Proofs.YtndnbeijmhcepaaDoor
