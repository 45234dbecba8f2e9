
/- Plain: what tests cost until each case of an order is found. -/
import Derived.Test.YtjmfcnblkojejaaDoorKsOrdQ
import Derived.Test.YtjmfcnblkojejaaDoorKsTestA
namespace Go.Proofs.YtjmfcnblkojejaaDoor
open Go.RowKit Go.Shelf Go.Lib Go.Sort

def caseAt (d : Array CaseD) (o : Array Int) (j : Nat) : CaseD := d[(o[j]!).toNat]!
def rsum (d : Array CaseD) (o : Array Int) : Nat → Int
  | 0 => 0
  | k + 1 => rsum d o k + tcost (caseAt d o k)
theorem rsum_bounds (d : Array CaseD) (o : Array Int) : ∀ k : Nat, (k : Int) ≤ rsum d o k ∧ rsum d o k ≤ 2 * (k : Int)
  | 0 => ⟨by simp [rsum], by simp [rsum]⟩
  | k + 1 => by
    have h := rsum_bounds d o k
    have h2 := tcost_bounds (caseAt d o k)
    simp only [rsum]
    omega
def reachTo (d : Array CaseD) (o : Array Int) : Nat → Array Int
  | 0 => Array.replicate o.size 0
  | k + 1 => (reachTo d o k).setIfInBounds (o[k]!).toNat (rsum d o (k + 1))
theorem reachTo_size (d : Array CaseD) (o : Array Int) : ∀ k, (reachTo d o k).size = o.size
  | 0 => by simp [reachTo]
  | k + 1 => by simp [reachTo, reachTo_size d o k]
def reachA (d : Array CaseD) (o : Array Int) : Array Int := reachTo d o o.size
theorem reachA_size (d : Array CaseD) (o : Array Int) : (reachA d o).size = o.size := reachTo_size d o _
theorem OrdOK.idx {n : Nat} {o : Array Int} (h : OrdOK n o) {j : Nat} (hj : j < o.size) : ∃ t : Nat, o[j]! = (t : Int) ∧ t < n := by
  have := (h.2 j hj).1
  exact ⟨(o[j]!).toNat, by omega, by omega⟩
/-- At the index of the j-th case of the order stands the sum up to it. -/
theorem reachTo_get {n : Nat} {d : Array CaseD} {o : Array Int} (h : OrdOK n o) : ∀ k, k ≤ o.size → ∀ j, j < k → (reachTo d o k)[(o[j]!).toNat]! = rsum d o (j + 1)
  | 0, _, j, hj => absurd hj (Nat.not_lt_zero j)
  | k + 1, hk, j, hj => by
    obtain ⟨t, ht, htn⟩ := h.idx (j := k) (by omega)
    obtain ⟨s, hs, hsn⟩ := h.idx (j := j) (by omega)
    simp only [reachTo, ht, hs, Int.toNat_natCast]
    have hsz : t < (reachTo d o k).size := by rw [reachTo_size, h.1]; exact htn
    rcases Nat.lt_or_ge j k with h1 | h1
    · have hne : s ≠ t := fun e => (h.2 k (by omega)).2 j h1 (by rw [ht, hs, e])
      rw [getElem!_set_other _ _ _ _ hne]
      have := reachTo_get (d := d) h k (by omega) j h1
      rwa [hs, Int.toNat_natCast] at this
    · obtain rfl : j = k := by omega
      rw [ht] at hs
      obtain rfl : t = s := by omega
      rw [getElem!_set_same _ _ _ hsz]
theorem reachA_get {n : Nat} {d : Array CaseD} {o : Array Int} (h : OrdOK n o) {j : Nat} (hj : j < o.size) : (reachA d o)[(o[j]!).toNat]! = rsum d o (j + 1) :=
  reachTo_get h _ (Nat.le_refl _) j hj
end Go.Proofs.YtjmfcnblkojejaaDoor
