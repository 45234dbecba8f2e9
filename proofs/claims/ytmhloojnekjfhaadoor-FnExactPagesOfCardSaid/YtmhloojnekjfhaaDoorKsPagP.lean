
/- Plain: the pages that differ, in the order in which they come first, and the index. -/
import Derived.Test.YtmhloojnekjfhaaDoorKsRowK
namespace Go.Proofs.YtmhloojnekjfhaaDoor
open Go.RowKit

/-- Where a text first stands in a list; its length if nowhere. -/
def placeOf : List ByteArray → ByteArray → Nat
  | [], _ => 0
  | q :: l, p => if q = p then 0 else placeOf l p + 1
theorem placeOf_le (p : ByteArray) : ∀ l : List ByteArray, placeOf l p ≤ l.length
  | [] => Nat.le_refl _
  | q :: l => by
    unfold placeOf
    split
    · exact Nat.zero_le _
    · have := placeOf_le p l
      simp only [List.length_cons]
      omega
theorem placeOf_not (p : ByteArray) : ∀ (l : List ByteArray) (j : Nat), j < placeOf l p → l[j]! ≠ p
  | [], j, h => absurd h (Nat.not_lt_zero _)
  | q :: l, j, h => by
    unfold placeOf at h
    split at h
    case isTrue => exact absurd h (Nat.not_lt_zero _)
    case isFalse hq =>
      match j with
      | 0 => simpa using hq
      | j + 1 => simpa using placeOf_not p l j (by omega)
theorem placeOf_at (p : ByteArray) : ∀ l : List ByteArray, placeOf l p < l.length → l[placeOf l p]! = p
  | [], h => absurd h (Nat.not_lt_zero _)
  | q :: l, h => by
    by_cases hq : q = p
    · rw [placeOf, if_pos hq]; simpa using hq
    · rw [placeOf, if_neg hq] at h ⊢
      have := placeOf_at p l (by simp only [List.length_cons] at h; omega)
      simpa using this
theorem placeOf_is {p : ByteArray} {l : List ByteArray} {k : Nat} (h1 : k ≤ l.length) (h2 : ∀ j, j < k → l[j]! ≠ p) (h3 : k < l.length → l[k]! = p) : placeOf l p = k := by
  have a1 := placeOf_le p l
  rcases Nat.lt_trichotomy (placeOf l p) k with h | h | h
  · exact absurd (placeOf_at p l (by omega)) (h2 _ h)
  · exact h
  · exact absurd (h3 (by omega)) (placeOf_not p l k h)
/-- One more page. -/
def addP (l : List ByteArray) (p : ByteArray) : List ByteArray := if placeOf l p < l.length then l else l ++ [p]
theorem addP_old {l : List ByteArray} {p : ByteArray} (h : placeOf l p < l.length) : addP l p = l := by rw [addP, if_pos h]
theorem addP_new {l : List ByteArray} {p : ByteArray} (h : placeOf l p = l.length) : addP l p = l ++ [p] := by rw [addP, if_neg (by omega)]
/-- The pages that differ, of the first pages; the index of these. -/
def pagesTo (d : Array CaseD) (sz : Nat) : Nat → List ByteArray
  | 0 => []
  | j + 1 => addP (pagesTo d sz j) (tabS d (sz * j) sz)
def indexTo (d : Array CaseD) (sz : Nat) : Nat → List Int
  | 0 => []
  | j + 1 => indexTo d sz j ++ [(placeOf (pagesTo d sz j) (tabS d (sz * j) sz) : Int)]
theorem addP_length (l : List ByteArray) (p : ByteArray) : (addP l p).length ≤ l.length + 1 := by
  unfold addP
  split
  · omega
  · simp
theorem pagesTo_length (d : Array CaseD) (sz : Nat) : ∀ j, (pagesTo d sz j).length ≤ j
  | 0 => Nat.le_refl _
  | j + 1 => by
    have h1 := pagesTo_length d sz j
    have h2 := addP_length (pagesTo d sz j) (tabS d (sz * j) sz)
    rw [pagesTo]
    omega
theorem indexTo_length (d : Array CaseD) (sz : Nat) : ∀ j, (indexTo d sz j).length = j
  | 0 => rfl
  | j + 1 => by rw [indexTo, List.length_append, indexTo_length d sz j]; rfl
theorem pagesTo_size (d : Array CaseD) (sz : Nat) : ∀ j p, p ∈ pagesTo d sz j → p.size = sz
  | 0, p, h => by cases h
  | j + 1, p, h => by
    rw [pagesTo, addP] at h
    split at h
    · exact pagesTo_size d sz j p h
    · rcases List.mem_append.1 h with h | h
      · exact pagesTo_size d sz j p h
      · rw [List.mem_singleton.1 h, tabS_size]
end Go.Proofs.YtmhloojnekjfhaaDoor
