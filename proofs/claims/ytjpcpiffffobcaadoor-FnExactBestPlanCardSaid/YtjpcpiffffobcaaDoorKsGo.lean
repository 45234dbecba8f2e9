
/- CaseOf: the program's and the model's; the index of the case of a key. · TargetOf: the program's and the model's. -/
import Derived.Test.YtjpcpiffffobcaaDoorKsSums
namespace Go.Proofs.YtjpcpiffffobcaaDoor
open Go.RowKit Go.Shelf Go.Lib Go.Sort

/-- The index of the first case that has a key, or -1. -/
def atN (d : Array CaseD) (key : Int) : Int := Lib.idxBy (fun _ y => hasB y key) (d.toList.take d.size) default
theorem toList_get (d : Array CaseD) (j : Nat) : d.toList[j]! = d[j]! := by
  by_cases h : j < d.size <;> simp [h]
theorem atN_hit {d : Array CaseD} {key : Int} {k : Nat} (hk : k < d.size) (h : hasB d[k]! key = true) (hb : ∀ j, j < k → hasB d[j]! key = false) : atN d key = k := by
  have := Lib.idxBy_hit (fun (_ y : CaseD) => hasB y key) d.toList d.size k default hk (by simp) (by rw [toList_get]; exact h) (fun j hj => by rw [toList_get]; exact hb j hj)
  exact this
theorem atN_miss {d : Array CaseD} {key : Int} (hb : ∀ j, j < d.size → hasB d[j]! key = false) : atN d key = -1 := by
  have := Lib.idxBy_miss (fun (_ y : CaseD) => hasB y key) d.toList d.size default (fun j hj => by rw [toList_get]; exact hb j hj)
  exact this
theorem atN_cases (d : Array CaseD) (key : Int) : (∃ k : Nat, k < d.size ∧ atN d key = k ∧ hasB d[k]! key = true ∧ ∀ j, j < k → hasB d[j]! key = false) ∨ (atN d key = -1 ∧ ∀ j, j < d.size → hasB d[j]! key = false) := by
  by_cases h : ∃ k, k < d.size ∧ hasB d[k]! key = true
  · have hd : ∀ n, (∃ k, k < n ∧ k < d.size ∧ hasB d[k]! key = true) → ∃ k, k < d.size ∧ hasB d[k]! key = true ∧ ∀ j, j < k → hasB d[j]! key = false := by
      intro n
      induction n with
      | zero => rintro ⟨k, hk, _⟩; omega
      | succ n ih =>
        rintro ⟨k, hk, h1, h2⟩
        by_cases hex : ∃ j, j < k ∧ hasB d[j]! key = true
        · obtain ⟨j, hj, h3⟩ := hex
          exact ih ⟨j, by omega, by omega, h3⟩
        · refine ⟨k, h1, h2, fun j hj => ?_⟩
          cases hq : hasB d[j]! key with
          | false => rfl
          | true => exact absurd ⟨j, hj, hq⟩ hex
    obtain ⟨k, h1, h2⟩ := h
    obtain ⟨q, h3, h4, h5⟩ := hd (k + 1) ⟨k, by omega, h1, h2⟩
    exact .inl ⟨q, h3, atN_hit h3 h4 h5, h4, h5⟩
  · have hb : ∀ j, j < d.size → hasB d[j]! key = false := fun j hj => by
      cases hq : hasB d[j]! key with
      | false => rfl
      | true => exact absurd ⟨j, hj, hq⟩ h
    exact .inr ⟨atN_miss hb, hb⟩
theorem atN_out {d : Array CaseD} {rest key : Int} (h : SwOK d rest) (hk : keyB key = false) : atN d key = -1 :=
  atN_miss fun j hj => by
    have h1 := caseB_low (h.case j hj)
    have h2 := caseB_high (h.case j hj)
    simp [keyB] at hk
    simp [hasB]
    omega
noncomputable def caseN (d : Array CaseD) (rest key : Int) : Int := if swB d rest = true then atN d key else -1

/-! the model -/
end Go.Proofs.YtjpcpiffffobcaaDoor

namespace Go.Proofs.YtjpcpiffffobcaaDoor
open Go.RowKit Go.Shelf Go.Lib Go.Sort

def zS : ByteArray := ⟨#[122]⟩
/-- The target of a key of a valid switch. -/
def goesN (d : Array CaseD) (key : Int) : ByteArray := if 0 ≤ atN d key then d[(atN d key).toNat]!.target else zS
noncomputable def okN (d : Array CaseD) (rest key : Int) : Bool := swB d rest && keyB key
noncomputable def targetN (d : Array CaseD) (rest key : Int) : ByteArray := if okN d rest key = true then goesN d key else ⟨#[]⟩
theorem goesN_hit {d : Array CaseD} {key : Int} {k : Nat} (h : atN d key = k) : goesN d key = d[k]!.target := by
  unfold goesN
  rw [h, if_pos (by omega), Int.toNat_natCast]
theorem goesN_miss {d : Array CaseD} {key : Int} (h : atN d key = -1) : goesN d key = zS := by
  unfold goesN
  rw [h, if_neg (by omega)]
theorem ret2 {a c : ByteArray} {b e : Bool} (h : a = c) (h2 : b = e) : Ending.returned (.tuple #[.string a, .bool b]) = .returned (.tuple #[.string c, .bool e]) := by rw [h, h2]
theorem retS {a c : ByteArray} (h : a = c) : Ending.returned (.string a) = .returned (.string c) := by rw [h]

set_option maxRecDepth 100000 in
set_option maxHeartbeats 400000 in
theorem text_any (w : World) : Calls Tryd.prog 146 #[.int .u8 122] w fun x w' => x = .returned (.string zS) ∧ RowKit.Below w.heap.size w w' := by
  have hconv : Sem.run Tryd.prog (convert 109 9 (.slice (some ⟨w.heap.size, 0, none⟩) 1 1)) (w.alloc (.cells #[.int .u8 122] 5)) = .ok (.string zS) (w.alloc (.cells #[.int .u8 122] 5)) := by
    rw [run_convert_bytes_string _ _ _ _ _ _ _ Tryd.underlying109 Tryd.underlying5 Tryd.underlying9, run_bytesToString _ _ _ _ [122] (by go_simp)]
    rfl
  go_enter Tryd.func146, Tryd.ntmps146
  go_wp2
  go_ret
  exact ⟨rfl, (Below.refl _ _).alloc (Nat.le_refl _) _⟩

end Go.Proofs.YtjpcpiffffobcaaDoor
