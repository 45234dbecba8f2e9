
/- CaseOf: the program's and the model's; the index of the case of a key. -/
import Derived.Test.YtndnbeijmhcepaaDoorKsSum
namespace Go.Proofs.YtndnbeijmhcepaaDoor
open Go.RowKit Go.Shelf Go.Lib Go.Sort

/-- The index of the first case that has a key, or -1. -/
def atN (d : Array CaseD) (key : Int) : Int := Lib.idxBy (fun _ y => hasB y key) (d.toList.take d.size) default
theorem toList_get (d : Array CaseD) (j : Nat) : d.toList[j]! = d[j]! := by
  by_cases h : j < d.size <;> simp [h]
theorem atN_hit {d : Array CaseD} {key : Int} {k : Nat} (hk : k < d.size) (h : hasB d[k]! key = true) (hb : ∀ j, j < k → hasB d[j]! key = false) : atN d key = k := by
  have := Lib.idxBy_hit (fun (_ y : CaseD) => hasB y key) d.toList d.size k default hk (by simp) (by rw [toList_get]; exact h) (fun j hj => by rw [toList_get]; exact hb j hj)
  exact this
theorem atN_miss {d : Array CaseD} {key : Int} (hb : ∀ j, j < d.size → hasB d[j]! key = false) : atN d key = -1 := by
  have := Lib.idxBy_miss (fun (_ y : CaseD) => hasB y key) d.toList d.size default (fun j hj => by rw [toList_get]; exact hb j hj)
  exact this
theorem atN_cases (d : Array CaseD) (key : Int) : (∃ k : Nat, k < d.size ∧ atN d key = k ∧ hasB d[k]! key = true ∧ ∀ j, j < k → hasB d[j]! key = false) ∨ (atN d key = -1 ∧ ∀ j, j < d.size → hasB d[j]! key = false) := by
  by_cases h : ∃ k, k < d.size ∧ hasB d[k]! key = true
  · have hd : ∀ n, (∃ k, k < n ∧ k < d.size ∧ hasB d[k]! key = true) → ∃ k, k < d.size ∧ hasB d[k]! key = true ∧ ∀ j, j < k → hasB d[j]! key = false := by
      intro n
      induction n with
      | zero => rintro ⟨k, hk, _⟩; omega
      | succ n ih =>
        rintro ⟨k, hk, h1, h2⟩
        by_cases hex : ∃ j, j < k ∧ hasB d[j]! key = true
        · obtain ⟨j, hj, h3⟩ := hex
          exact ih ⟨j, by omega, by omega, h3⟩
        · refine ⟨k, h1, h2, fun j hj => ?_⟩
          cases hq : hasB d[j]! key with
          | false => rfl
          | true => exact absurd ⟨j, hj, hq⟩ hex
    obtain ⟨k, h1, h2⟩ := h
    obtain ⟨q, h3, h4, h5⟩ := hd (k + 1) ⟨k, by omega, h1, h2⟩
    exact .inl ⟨q, h3, atN_hit h3 h4 h5, h4, h5⟩
  · have hb : ∀ j, j < d.size → hasB d[j]! key = false := fun j hj => by
      cases hq : hasB d[j]! key with
      | false => rfl
      | true => exact absurd ⟨j, hj, hq⟩ h
    exact .inr ⟨atN_miss hb, hb⟩
theorem atN_out {d : Array CaseD} {rest key : Int} (h : SwOK d rest) (hk : keyB key = false) : atN d key = -1 :=
  atN_miss fun j hj => by
    have h1 := caseB_low (h.case j hj)
    have h2 := caseB_high (h.case j hj)
    simp [keyB] at hk
    simp [hasB]
    omega
noncomputable def caseN (d : Array CaseD) (rest key : Int) : Int := if swB d rest = true then atN d key else -1

/-! the model -/
end Go.Proofs.YtndnbeijmhcepaaDoor
