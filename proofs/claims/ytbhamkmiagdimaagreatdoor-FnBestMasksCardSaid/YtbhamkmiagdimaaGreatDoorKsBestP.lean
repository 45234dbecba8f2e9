
/- Plain: the insertion sort of 0 to n-1, as the model's insertions make it. -/
import Derived.Test.YtbhamkmiagdimaaGreatDoorKsOrdQ
import Derived.Sort.WalkA
namespace Go.Proofs.YtbhamkmiagdimaaGreatDoor
open Go.RowKit Go.Shelf Go.Lib Go.Sort

/-- The element at i moved to k, those between one further. -/
def moved (A : Array Int) (i k : Nat) : Array Int := Array.ofFn (n := A.size) fun j => if j.1 < k then A[j.1]! else if j.1 = k then A[i]! else if j.1 ≤ i then A[j.1 - 1]! else A[j.1]!
theorem moved_size (A : Array Int) (i k : Nat) : (moved A i k).size = A.size := by simp [moved]
theorem moved_get {A : Array Int} {i k j : Nat} (hj : j < A.size) : (moved A i k)[j]! = if j < k then A[j]! else if j = k then A[i]! else if j ≤ i then A[j - 1]! else A[j]! := by
  have h : j < (moved A i k).size := by rw [moved_size]; exact hj
  rw [getElem!_pos (moved A i k) j h]
  simp only [moved, Array.getElem_ofFn]
theorem arr_ext {a b : Array Int} (h : a.size = b.size) (hg : ∀ j, j < a.size → a[j]! = b[j]!) : a = b :=
  Array.ext h fun j h1 h2 => by
    have := hg j h1
    rwa [getElem!_pos a j h1, getElem!_pos b j h2] at this
theorem moved_self {A : Array Int} {i : Nat} : moved A i i = A :=
  arr_ext (moved_size A i i) fun j hj => by
    rw [moved_size] at hj
    rw [moved_get hj]
    by_cases h1 : j < i
    · rw [if_pos h1]
    · rw [if_neg h1]
      by_cases h2 : j = i
      · rw [if_pos h2, h2]
      · rw [if_neg h2, if_neg (by omega)]
theorem swp_get {d : Array Int} {p q : Nat} (hp : p < d.size) (hq : q < d.size) (hpq : p ≠ q) (j : Nat) : (swp d p q)[j]! = if j = q then d[p]! else if j = p then d[q]! else d[j]! := by
  unfold swp
  by_cases h1 : j = q
  · subst h1
    rw [if_pos rfl, getElem!_set_same _ _ _ (by simpa using hq)]
  · rw [if_neg h1, getElem!_set_other _ _ _ _ h1]
    by_cases h2 : j = p
    · subst h2
      rw [if_pos rfl, getElem!_set_same _ _ _ hp]
    · rw [if_neg h2, getElem!_set_other _ _ _ _ h2]
theorem swp_size (d : Array Int) (p q : Nat) : (swp d p q).size = d.size := by simp [swp]
theorem moved_swp {A : Array Int} {i k : Nat} (hi : i < A.size) (hk : k + 1 ≤ i) : swp (moved A i (k + 1)) (k + 1) k = moved A i k := by
  refine arr_ext (by rw [swp_size, moved_size, moved_size]) fun j hj => ?_
  rw [swp_size, moved_size] at hj
  rw [swp_get (by rw [moved_size]; omega) (by rw [moved_size]; omega) (by omega), moved_get hj, moved_get (by omega), moved_get (by omega), moved_get hj]
  by_cases h1 : j = k
  · subst h1
    simp
  · rw [if_neg h1, if_neg h1]
    by_cases h2 : j = k + 1
    · subst h2
      rw [if_pos rfl, if_pos (by omega), if_neg (by omega), if_pos hk]
      rfl
    · rw [if_neg h2, if_neg h2]
      by_cases h3 : j < k
      · rw [if_pos (by omega), if_pos h3]
      · rw [if_neg (by omega), if_neg h3]

def posA (lt : Int → Int → Bool) (A : Array Int) (i : Nat) : Nat → Nat
  | 0 => 0
  | k + 1 => if lt A[i]! A[k]! = true then posA lt A i k else k + 1
theorem posA_le (lt : Int → Int → Bool) (A : Array Int) (i : Nat) : ∀ k, posA lt A i k ≤ k
  | 0 => Nat.le_refl _
  | k + 1 => by
    unfold posA
    split
    · exact Nat.le_succ_of_le (posA_le lt A i k)
    · exact Nat.le_refl _
theorem inner_moved (lt : Int → Int → Bool) {A : Array Int} {i : Nat} (hi : i < A.size) : ∀ k, k ≤ i → insInner lt 0 k (moved A i k) = moved A i (posA lt A i k)
  | 0, _ => rfl
  | k + 1, hk => by
    have e1 : (moved A i (k + 1))[k + 1]! = A[i]! := by rw [moved_get (by omega), if_neg (by omega), if_pos rfl]
    have e2 : (moved A i (k + 1))[k]! = A[k]! := by rw [moved_get (by omega), if_pos (by omega)]
    cases h : lt A[i]! A[k]! with
    | true =>
      rw [insInner_go lt 0 (k + 1) _ (by omega) (by rw [e1, Nat.add_sub_cancel, e2]; exact h), Nat.add_sub_cancel, moved_swp hi hk, inner_moved lt hi k (by omega), posA, if_pos h]
    | false =>
      rw [insInner_stop lt 0 (k + 1) _ (.inr (by rw [e1, Nat.add_sub_cancel, e2]; exact h)), posA, if_neg (by rw [h]; exact Bool.false_ne_true)]
def bestTo (lt : Int → Int → Bool) (n : Nat) : Nat → Array Int
  | 0 => upTo n
  | i + 1 => moved (bestTo lt n i) i (posA lt (bestTo lt n i) i i)
theorem bestTo_size (lt : Int → Int → Bool) (n : Nat) : ∀ i, (bestTo lt n i).size = n
  | 0 => upTo_size n
  | i + 1 => by rw [bestTo, moved_size, bestTo_size lt n i]
theorem bestTo_inner (lt : Int → Int → Bool) {n i : Nat} (hi : i < n) : insInner lt 0 i (bestTo lt n i) = bestTo lt n (i + 1) := by
  have h := inner_moved lt (A := bestTo lt n i) (i := i) (by rw [bestTo_size]; exact hi) i (Nat.le_refl _)
  rw [moved_self] at h
  exact h
theorem bestTo_outer (lt : Int → Int → Bool) (n : Nat) : ∀ m i, n - i = m → i ≤ n → insOuter lt 0 n i (bestTo lt n i) = bestTo lt n n
  | 0, i, hm, hi => by
    obtain rfl : i = n := by omega
    exact insOuter_stop _ _ _ _ _ (by omega)
  | m + 1, i, hm, hi => by
    rw [insOuter_go _ _ _ _ _ (by omega), bestTo_inner lt (by omega)]
    exact bestTo_outer lt n m (i + 1) (by omega) (by omega)
theorem best_sort (lt : Int → Int → Bool) (n : Nat) : insertionSort lt (upTo n) 0 n = bestTo lt n n := by
  unfold insertionSort
  rcases Nat.eq_zero_or_pos n with h | h
  · subst h
    exact insOuter_stop _ _ _ _ _ (by omega)
  · have e : bestTo lt n 1 = upTo n := by
      rw [bestTo, bestTo, posA]
      exact moved_self
    have := bestTo_outer lt n (n - 1) 1 rfl h
    rwa [e] at this
theorem bestTo_rest (lt : Int → Int → Bool) (n : Nat) : ∀ i j, i ≤ j → j < n → (bestTo lt n i)[j]! = (j : Int)
  | 0, j, _, hj => upTo_get hj
  | i + 1, j, hij, hj => by
    have hp := posA_le lt (bestTo lt n i) i i
    rw [bestTo, moved_get (by rw [bestTo_size]; exact hj), if_neg (by omega), if_neg (by omega), if_neg (by omega)]
    exact bestTo_rest lt n i j (by omega) hj
theorem bestTo_range (lt : Int → Int → Bool) (n : Nat) : ∀ i, i ≤ n → ∀ j, j < n → 0 ≤ (bestTo lt n i)[j]! ∧ (bestTo lt n i)[j]! < n
  | 0, _, j, hj => by rw [show bestTo lt n 0 = upTo n from rfl, upTo_get hj]; omega
  | i + 1, hi, j, hj => by
    rw [bestTo, moved_get (by rw [bestTo_size]; exact hj)]
    have ih := bestTo_range lt n i (by omega)
    split
    · exact ih j hj
    · split
      · exact ih i (by omega)
      · split
        · exact ih (j - 1) (by omega)
        · exact ih j hj

/-- What the model has behind i insertions. -/
def bestL (lt : Int → Int → Bool) (n i : Nat) : List Int := (List.range i).map fun j => (bestTo lt n i)[j]!
theorem bestL_length (lt : Int → Int → Bool) (n i : Nat) : (bestL lt n i).length = i := by simp [bestL]
theorem bestL_get {lt : Int → Int → Bool} {n i j : Nat} (hj : j < i) : (bestL lt n i)[j]? = some (bestTo lt n i)[j]! := by simp [bestL, hj]
theorem bestL_all (lt : Int → Int → Bool) (n : Nat) : bestL lt n n = (bestTo lt n n).toList := by
  rw [bestL]
  refine List.ext_getElem (by simp [bestTo_size]) fun j h1 h2 => ?_
  have : j < (bestTo lt n n).size := by simpa using h2
  simp [this]
theorem bestL_succ {lt : Int → Int → Bool} {n i p : Nat} (hi : i < n) (hp : p = posA lt (bestTo lt n i) i i) : bestL lt n (i + 1) = (bestL lt n i).take p ++ [(i : Int)] ++ (bestL lt n i).drop p := by
  have hle := posA_le lt (bestTo lt n i) i i
  rw [← hp] at hle
  refine List.ext_getElem? fun j => ?_
  have hlt : ((bestL lt n i).take p).length = p := by rw [List.length_take, bestL_length]; omega
  by_cases hj : j < i + 1
  · rw [bestL_get hj, bestTo, ← hp, moved_get (by rw [bestTo_size]; omega), bestTo_rest lt n i i (Nat.le_refl _) hi]
    by_cases h1 : j < p
    · rw [if_pos h1, List.append_assoc, List.getElem?_append_left (by omega), List.getElem?_take_of_lt h1, bestL_get (by omega)]
    · rw [if_neg h1]
      by_cases h2 : j = p
      · rw [if_pos h2, List.append_assoc, List.getElem?_append_right (by omega), hlt, h2]
        simp
      · rw [if_neg h2, if_pos (by omega), List.getElem?_append_right (by rw [List.length_append, hlt]; simp; omega), List.length_append, hlt, List.getElem?_drop]
        simp only [List.length_cons, List.length_nil, Nat.zero_add]
        rw [show p + (j - (p + 1)) = j - 1 by omega, bestL_get (by omega)]
  · have e1 : (bestL lt n (i + 1))[j]? = none := List.getElem?_eq_none (by rw [bestL_length]; omega)
    rw [e1]
    refine (List.getElem?_eq_none ?_).symm
    rw [List.length_append, List.length_append, hlt, List.length_drop, bestL_length]
    simp
    omega
end Go.Proofs.YtbhamkmiagdimaaGreatDoor
