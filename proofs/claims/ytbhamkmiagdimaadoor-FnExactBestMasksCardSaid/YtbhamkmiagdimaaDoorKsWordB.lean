
/- Plain: the insertion sort of any row, as insertions one by one; what a model's text of it is. No walk. -/
import Derived.Test.YtbhamkmiagdimaaDoorKsWordS
import Derived.Test.YtbhamkmiagdimaaDoorKsBestP
namespace Go.Proofs.YtbhamkmiagdimaaDoor
open Go.RowKit Go.Shelf Go.Lib Go.Sort

def insTo (lt : Int → Int → Bool) (A : Array Int) : Nat → Array Int
  | 0 => A
  | i + 1 => moved (insTo lt A i) i (posA lt (insTo lt A i) i i)
theorem insTo_size (lt : Int → Int → Bool) (A : Array Int) : ∀ i, (insTo lt A i).size = A.size
  | 0 => rfl
  | i + 1 => by rw [insTo, moved_size, insTo_size lt A i]
theorem insTo_inner (lt : Int → Int → Bool) {A : Array Int} {i : Nat} (hi : i < A.size) : insInner lt 0 i (insTo lt A i) = insTo lt A (i + 1) := by
  have h := inner_moved lt (A := insTo lt A i) (i := i) (by rw [insTo_size]; exact hi) i (Nat.le_refl _)
  rw [moved_self] at h
  exact h
theorem insTo_outer (lt : Int → Int → Bool) (A : Array Int) : ∀ m i, A.size - i = m → i ≤ A.size → insOuter lt 0 A.size i (insTo lt A i) = insTo lt A A.size
  | 0, i, hm, hi => by
    obtain rfl : i = A.size := by omega
    exact insOuter_stop _ _ _ _ _ (by omega)
  | m + 1, i, hm, hi => by
    rw [insOuter_go _ _ _ _ _ (by omega), insTo_inner lt (by omega)]
    exact insTo_outer lt A m (i + 1) (by omega) (by omega)
theorem ins_sort (lt : Int → Int → Bool) (A : Array Int) : insertionSort lt A 0 A.size = insTo lt A A.size := by
  unfold insertionSort
  rcases Nat.eq_zero_or_pos A.size with h | h
  · rw [h]
    exact insOuter_stop _ _ _ _ _ (by omega)
  · have e : insTo lt A 1 = A := by
      rw [insTo, insTo, posA]
      exact moved_self
    have := insTo_outer lt A (A.size - 1) 1 rfl h
    rwa [e] at this
theorem insTo_rest (lt : Int → Int → Bool) (A : Array Int) : ∀ i j, i ≤ j → j < A.size → (insTo lt A i)[j]! = A[j]!
  | 0, _, _, _ => rfl
  | i + 1, j, hij, hj => by
    have hp := posA_le lt (insTo lt A i) i i
    rw [insTo, moved_get (by rw [insTo_size]; exact hj), if_neg (by omega), if_neg (by omega), if_neg (by omega)]
    exact insTo_rest lt A i j (by omega) hj
theorem insTo_all (lt : Int → Int → Bool) (A : Array Int) (Ok : Int → Prop) (hO : ∀ j, j < A.size → Ok A[j]!) : ∀ i, i ≤ A.size → ∀ j, j < A.size → Ok (insTo lt A i)[j]!
  | 0, _, j, hj => hO j hj
  | i + 1, hi, j, hj => by
    have ih := insTo_all lt A Ok hO i (by omega)
    rw [insTo, moved_get (by rw [insTo_size]; exact hj)]
    split
    · exact ih j hj
    · split
      · exact ih i (by omega)
      · split
        · exact ih (j - 1) (by omega)
        · exact ih j hj

/-- The first i elements behind i insertions. -/
def outL (lt : Int → Int → Bool) (A : Array Int) (i : Nat) : List Int := (insTo lt A i).toList.take i
theorem outL_length (lt : Int → Int → Bool) (A : Array Int) {i : Nat} (hi : i ≤ A.size) : (outL lt A i).length = i := by
  rw [outL, List.length_take, Array.length_toList, insTo_size]
  omega
theorem outL_get (lt : Int → Int → Bool) (A : Array Int) {i j : Nat} (hi : i ≤ A.size) (hj : j < i) : (outL lt A i)[j]'(by rw [outL_length lt A hi]; exact hj) = (insTo lt A i)[j]! := by
  have h : j < (insTo lt A i).size := by rw [insTo_size]; omega
  simp [outL, h]
theorem outL_succ (lt : Int → Int → Bool) (A : Array Int) {i : Nat} (hi : i < A.size) {k : Nat} (hk : k = posA lt (insTo lt A i) i i) : outL lt A (i + 1) = (outL lt A i).take k ++ [A[i]!] ++ (outL lt A i).drop k := by
  have hp := posA_le lt (insTo lt A i) i i
  rw [← hk] at hp
  have hl := outL_length lt A (i := i) (by omega)
  have hl2 := outL_length lt A (i := i + 1) (by omega)
  apply List.ext_getElem
  · simp only [List.length_append, List.length_take, List.length_drop, List.length_singleton, hl, hl2]
    omega
  · intro j h1 h2
    rw [hl2] at h1
    rw [outL_get lt A (by omega) h1, insTo, ← hk, moved_get (by rw [insTo_size]; omega)]
    by_cases c1 : j < k
    · rw [if_pos c1, List.getElem_append_left (by simp [hl]; omega), List.getElem_append_left (by simp [hl]; omega), List.getElem_take, outL_get lt A (by omega) (by omega)]
    · rw [if_neg c1]
      by_cases c2 : j = k
      · subst c2
        rw [if_pos rfl, insTo_rest lt A i i (Nat.le_refl _) hi, List.getElem_append_left (by simp [hl]; omega), List.getElem_append_right (by simp [hl]; omega)]
        simp [hl]
      · rw [if_neg c2, if_pos (by omega), List.getElem_append_right (by simp [hl]; omega), List.getElem_drop, ← outL_get lt A (i := i) (by omega) (show j - 1 < i by omega)]
        congr 1
        simp [hl]
        omega

/-! texts of lists -/
theorem strOf_append (a b : List Int) : strOf (a ++ b) = strOf a ++ strOf b := by
  apply ByteArray.ext
  rw [ByteArray.data_append]
  apply Array.ext'
  rw [Array.toList_append, strOf_data, strOf_data, strOf_data, List.map_append]
theorem strOf_ext (l : List Int) (a b : Nat) : (strOf l).extract a b = strOf (l.extract a b) := by
  apply ByteArray.ext
  rw [ByteArray.data_extract]
  apply Array.ext'
  rw [Array.toList_extract, strOf_data, strOf_data, List.extract_eq_take_drop, List.extract_eq_take_drop, ← List.map_drop, ← List.map_take]
theorem strOf_take (l : List Int) (k : Nat) : (strOf l).extract 0 k = strOf (l.take k) := by
  rw [strOf_ext, List.extract_eq_take_drop]
  simp
theorem strOf_drop (l : List Int) (k : Nat) : (strOf l).extract k (strOf l).size = strOf (l.drop k) := by
  rw [strOf_ext, List.extract_eq_take_drop, strOf_size, List.take_of_length_le (by simp)]
theorem strOf_at (l : List Int) {i : Nat} (hi : i < l.length) : (strOf l).extract i (i + 1) = strOf [l[i]] := by
  rw [strOf_ext, List.extract_eq_take_drop, List.drop_eq_getElem_cons hi, Nat.add_sub_cancel_left]
  rfl
theorem strOf_tg {x : Int} (h0 : 0 ≤ x) (h1 : x ≤ 255) : tg0 (strOf [x]) = x := by
  have e : strOf [x] = ⟨#[UInt8.ofNat x.toNat]⟩ := rfl
  rw [e]
  have e2 : tg0 ⟨#[UInt8.ofNat x.toNat]⟩ = ((UInt8.ofNat x.toNat).toNat : Int) := rfl
  rw [e2, UInt8.toNat_ofNat']
  have a1 : x.toNat % 2 ^ 8 = x.toNat := Nat.mod_eq_of_lt (by omega)
  omega
theorem posA_stop {lt : Int → Int → Bool} {B : Array Int} {i k : Nat} (h : k = 0 ∨ lt B[i]! B[k - 1]! = false) : posA lt B i k = k := by
  cases k with
  | zero => rfl
  | succ k =>
    rcases h with h | h
    · cases h
    · rw [Nat.add_sub_cancel] at h
      rw [posA, if_neg (by rw [h]; exact Bool.false_ne_true)]
theorem posA_go {lt : Int → Int → Bool} {B : Array Int} {i k : Nat} (h0 : 0 < k) (h : lt B[i]! B[k - 1]! = true) : posA lt B i k = posA lt B i (k - 1) := by
  obtain ⟨q, rfl⟩ : ∃ q, k = q + 1 := ⟨k - 1, by omega⟩
  rw [Nat.add_sub_cancel] at h ⊢
  rw [posA, if_pos h]
end Go.Proofs.YtbhamkmiagdimaaDoor
