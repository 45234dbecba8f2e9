
/- The heaviest words first cost least, plain. No walk. -/
import Derived.Test.YtbhamkmiagdimaaGreatDoorKsWordE
import Derived.Test.YtbhamkmiagdimaaGreatDoorKsWordU
namespace Go.Proofs.YtbhamkmiagdimaaGreatDoor
open Go.RowKit Go.Shelf Go.Lib Go.Sort

theorem posA_all {lt : Int → Int → Bool} {B : Array Int} {i : Nat} : ∀ k j, posA lt B i k ≤ j → j < k → lt B[i]! B[j]! = true
  | 0, _, _, h => absurd h (Nat.not_lt_zero _)
  | k + 1, j, h1, h2 => by
    unfold posA at h1
    split at h1
    · next hl =>
      by_cases e : j = k
      · subst e; exact hl
      · exact posA_all k j h1 (by omega)
    · omega
theorem posA_end {lt : Int → Int → Bool} {B : Array Int} {i : Nat} : ∀ k, posA lt B i k = 0 ∨ lt B[i]! B[posA lt B i k - 1]! = false
  | 0 => .inl rfl
  | k + 1 => by
    unfold posA
    split
    · exact posA_end k
    · next hl =>
      right
      rw [Nat.add_sub_cancel]
      simpa using hl

/-- Heavier ahead of lighter; of the same weight, in the order of the alphabet. -/
def AheadW (W : Int → Int) (x y : Int) : Prop := W y < W x ∨ (W y = W x ∧ x < y)
theorem out_mem (lt : Int → Int → Bool) (A : Array Int) : ∀ i, i ≤ A.size → ∀ x, x ∈ outL lt A i → ∃ j, j < i ∧ A[j]! = x
  | 0, _, x, hx => by simp [outL] at hx
  | i + 1, hi, x, hx => by
    rw [outL_succ lt A (by omega) rfl] at hx
    have ih := out_mem lt A i (by omega)
    rcases List.mem_append.1 hx with h | h
    · rcases List.mem_append.1 h with h | h
      · obtain ⟨j, hj, e⟩ := ih x (List.mem_of_mem_take h)
        exact ⟨j, by omega, e⟩
      · rw [List.mem_singleton] at h
        exact ⟨i, by omega, h.symm⟩
    · obtain ⟨j, hj, e⟩ := ih x (List.mem_of_mem_drop h)
      exact ⟨j, by omega, e⟩
theorem out_perm (lt : Int → Int → Bool) (A : Array Int) : ∀ i, i ≤ A.size → (outL lt A i).Perm (A.toList.take i)
  | 0, _ => by simp [outL]
  | i + 1, hi => by
    have ih := out_perm lt A i (by omega)
    have hA : i < A.toList.length := by rw [Array.length_toList]; omega
    have e : A.toList[i] = A[i]! := by simp [show i < A.size by omega]
    rw [outL_succ lt A (by omega) rfl, List.take_succ_eq_append_getElem hA, e]
    have h1 : ((outL lt A i).take (posA lt (insTo lt A i) i i) ++ [A[i]!] ++ (outL lt A i).drop (posA lt (insTo lt A i) i i)).Perm (A[i]! :: outL lt A i) := by
      have := List.perm_middle (a := A[i]!) (l₁ := (outL lt A i).take (posA lt (insTo lt A i) i i)) (l₂ := (outL lt A i).drop (posA lt (insTo lt A i) i i))
      rw [List.take_append_drop] at this
      simpa using this
    refine h1.trans ((List.Perm.cons _ ih).trans ?_)
    exact (List.perm_append_singleton _ _).symm
theorem out_sorted (W : Int → Int) (lt : Int → Int → Bool) (hlt : ∀ x y, lt x y = decide (W y < W x)) (A : Array Int) (hA : ∀ i j, i < j → j < A.size → A[i]! < A[j]!) : ∀ i, i ≤ A.size → (outL lt A i).Pairwise (AheadW W)
  | 0, _ => by simp [outL]
  | i + 1, hi => by
    have ih := out_sorted W lt hlt A hA i (by omega)
    have hi' : i < A.size := by omega
    have hl := outL_length lt A (i := i) (by omega)
    have hrest := insTo_rest lt A i i (Nat.le_refl _) hi'
    have hk := posA_le lt (insTo lt A i) i i
    have hall := posA_all (lt := lt) (B := insTo lt A i) (i := i) i
    have hend := posA_end (lt := lt) (B := insTo lt A i) (i := i) i
    rw [outL_succ lt A hi' rfl]
    obtain ⟨k, hke⟩ : ∃ k, k = posA lt (insTo lt A i) i i := ⟨_, rfl⟩
    rw [← hke] at hk hall hend ⊢
    have hlast : ∀ y, y ∈ (outL lt A i).take k → AheadW W y A[i]! := by
      intro y hy
      have hless : y < A[i]! := by
        obtain ⟨j, hj, e⟩ := out_mem lt A i (by omega) y (List.mem_of_mem_take hy)
        rw [← e]
        exact hA j i hj hi'
      have hw : W A[i]! ≤ W y := by
        rcases hend with h0 | h0
        · rw [h0] at hy; simp at hy
        · have hk0 : 0 < k := by
            cases k with
            | zero => simp at hy
            | succ k => exact Nat.succ_pos _
          rw [hlt, hrest, decide_eq_false_iff_not] at h0
          have hle : W A[i]! ≤ W (insTo lt A i)[k - 1]! := by omega
          obtain ⟨q, hq, e⟩ := List.mem_iff_getElem.1 hy
          rw [List.length_take, hl] at hq
          rw [List.getElem_take, outL_get lt A (by omega) (by omega)] at e
          by_cases e2 : q = k - 1
          · subst e2; rw [← e]; exact hle
          · have hp := (List.pairwise_iff_getElem.1 ih) q (k - 1) (by omega) (by omega) (by omega)
            rw [outL_get lt A (by omega) (by omega), outL_get lt A (by omega) (by omega), e] at hp
            rcases hp with h | h <;> omega
      by_cases h : W A[i]! = W y
      · exact .inr ⟨h, hless⟩
      · exact .inl (by omega)
    have hnext : ∀ y, y ∈ (outL lt A i).drop k → AheadW W A[i]! y := by
      intro y hy
      obtain ⟨q, hq, e⟩ := List.mem_iff_getElem.1 hy
      rw [List.length_drop, hl] at hq
      rw [List.getElem_drop, outL_get lt A (by omega) (by omega)] at e
      have h := hall (k + q) (by omega) (by omega)
      rw [hlt, hrest, e, decide_eq_true_eq] at h
      exact .inl h
    have hp : ((outL lt A i).take k ++ (outL lt A i).drop k).Pairwise (AheadW W) := by rw [List.take_append_drop]; exact ih
    rw [List.pairwise_append] at hp
    rw [List.append_assoc, List.pairwise_append]
    refine ⟨hp.1, ?_, fun a ha b hb => ?_⟩
    · rw [List.singleton_append, List.pairwise_cons]
      exact ⟨hnext, hp.2.1⟩
    · rcases List.mem_append.1 hb with h | h
      · rw [List.mem_singleton] at h; subst h; exact hlast a ha
      · exact hp.2.2 a ha b h

/-! the cost of an order -/
def cstO (W : Int → Int) (o : Int) : List Int → Int
  | [] => 0
  | x :: l => W x * (o + 1) + cstO W (o + 1) l
def sumL (W : Int → Int) : List Int → Int
  | [] => 0
  | x :: l => W x + sumL W l
theorem cstO_shift (W : Int → Int) : ∀ (l : List Int) (o : Int), cstO W (o + 1) l = cstO W o l + sumL W l
  | [], _ => by simp [cstO, sumL]
  | x :: l, o => by
    simp only [cstO, sumL, cstO_shift W l (o + 1), Int.mul_add, Int.mul_one]
    omega
theorem cstO_append (W : Int → Int) : ∀ (l m : List Int) (o : Int), cstO W o (l ++ m) = cstO W o l + cstO W (o + l.length) m
  | [], m, o => by simp [cstO]
  | x :: l, m, o => by
    have ih := cstO_append W l m (o + 1)
    have e : o + 1 + (l.length : Int) = o + ((x :: l).length : Int) := by simp; omega
    rw [List.cons_append, cstO, cstO, ih, e]
    omega
theorem sumL_le (W : Int → Int) (u : Int) : ∀ (l : List Int), (∀ y ∈ l, W y ≤ u) → sumL W l ≤ u * l.length
  | [], _ => by simp [sumL]
  | x :: l, h => by
    have ih := sumL_le W u l fun y hy => h y (List.mem_cons_of_mem _ hy)
    have hx := h x (List.mem_cons_self ..)
    have e : ((x :: l).length : Int) = (l.length : Int) + 1 := by simp
    rw [sumL, e, Int.mul_add, Int.mul_one]
    omega
theorem cst_least (W : Int → Int) : ∀ (b l : List Int) (o : Int), l.Perm b → b.Pairwise (fun x y => W y ≤ W x) → cstO W o b ≤ cstO W o l
  | [], l, o, hp, _ => by rw [List.perm_nil.1 hp]; exact Int.le_refl _
  | x :: b, l, o, hp, hs => by
    rw [List.pairwise_cons] at hs
    obtain ⟨l1, l2, rfl⟩ := List.append_of_mem (hp.mem_iff.2 (List.mem_cons_self ..))
    have hp2 : (l1 ++ l2).Perm b := (List.perm_middle.symm.trans hp).cons_inv
    have ih := cst_least W b (l1 ++ l2) (o + 1) hp2 hs.2
    have hsum := sumL_le W (W x) l1 fun y hy => hs.1 y (hp2.mem_iff.1 (List.mem_append_left _ hy))
    rw [cstO_append, cstO_shift W l1 o] at ih
    rw [cstO_append, cstO, cstO]
    have e : o + 1 + (l1.length : Int) = o + (l1.length : Int) + 1 := by omega
    rw [e] at ih
    simp only [Int.mul_add, Int.mul_one]
    omega
theorem byA_take {s : ByteArray} {k : Nat} (hk : k < s.size) : (byA s).toList.take (k + 1) = (byA s).toList.take k ++ [(byteN s k : Int)] := by
  have hl : k < (byA s).toList.length := by rw [Array.length_toList, byA_size]; exact hk
  rw [List.take_succ_eq_append_getElem hl, get_list, byA_get hk]
theorem costW_cst (D : Array CaseD) (r : Int) (s : ByteArray) : ∀ k, k ≤ s.size → costW D r s k = r * s.size + cstO (wgtT D r) 0 ((byA s).toList.take k)
  | 0, _ => by simp [costW, cstO]
  | k + 1, hk => by
    have ih := costW_cst D r s k (by omega)
    have hl : ((byA s).toList.take k).length = k := by rw [List.length_take, Array.length_toList, byA_size]; omega
    rw [costW, ih, byA_take (by omega), cstO_append, hl]
    simp only [cstO]
    rw [Int.zero_add]
    omega
theorem costW_full (D : Array CaseD) (r : Int) (s : ByteArray) : costW D r s s.size = r * s.size + cstO (wgtT D r) 0 (byA s).toList := by
  rw [costW_cst D r s s.size (Nat.le_refl _), List.take_of_length_le (by rw [Array.length_toList, byA_size]; exact Nat.le_refl _)]

/-! the best order -/
def bestLs (D : Array CaseD) (r : Int) : List Int := outL (hvy D r) (letA D) (letA D).size
theorem letA_asc (D : Array CaseD) : ∀ i j, i < j → j < (letA D).size → (letA D)[i]! < (letA D)[j]! := fun i j hij hj => by
  have hj' : j < (lettersTo D 8).length := by rw [letA_size] at hj; exact hj
  have e : ∀ q, q < (lettersTo D 8).length → (letA D)[q]! = (lettersTo D 8)[q]! := fun q hq => by
    rw [getElem!_pos (letA D) q (by rw [letA_size]; exact hq), getElem!_pos (lettersTo D 8) q hq]
    simp [letA]
  rw [e i (by omega), e j hj', getElem!_pos (lettersTo D 8) i (by omega), getElem!_pos (lettersTo D 8) j hj']
  exact (List.pairwise_iff_getElem.1 (lettersTo_asc D)) i j (by omega) hj' hij
theorem bestLs_sorted (D : Array CaseD) (r : Int) : (bestLs D r).Pairwise (AheadW (wgtT D r)) := out_sorted (wgtT D r) (hvy D r) (fun _ _ => rfl) (letA D) (letA_asc D) _ (Nat.le_refl _)
theorem bestLs_perm (D : Array CaseD) (r : Int) : (bestLs D r).Perm (lettersTo D 8) := by
  have h := out_perm (hvy D r) (letA D) (letA D).size (Nat.le_refl _)
  have e : (letA D).toList.take (letA D).size = lettersTo D 8 := by
    rw [List.take_of_length_le (by rw [Array.length_toList]; exact Nat.le_refl _)]
    simp [letA]
  rw [e] at h
  exact h
theorem bestLs_range {D : Array CaseD} {r x : Int} (h : x ∈ bestLs D r) : 97 ≤ x ∧ x ≤ 104 := lettersTo_range D x ((bestLs_perm D r).mem_iff.1 h)
theorem bestLs_byA (D : Array CaseD) (r : Int) : byA (strOf (bestLs D r)) = (bestLs D r).toArray := byA_strOf fun x hx => by have := bestLs_range hx; omega
theorem bestLs_ord (D : Array CaseD) (r : Int) : OrdW D (strOf (bestLs D r)) := by
  rw [ordW_list, bestLs_byA]
  have hp := bestLs_perm D r
  refine ⟨by simpa using hp.length_eq, ?_, fun x hx => hp.mem_iff.1 (by simpa using hx)⟩
  have : (lettersTo D 8).Nodup := (lettersTo_asc D).imp fun h => by omega
  simpa using hp.nodup_iff.2 this
theorem bestMN_str {D : Array CaseD} {r : Int} (h : swB D r = true) : bestMN D r = strOf (bestLs D r) := by rw [bestMN, if_pos h, bestM_out]; rfl
/-- No order costs less than the best one. -/
theorem best_least {D : Array CaseD} {r : Int} (h : swB D r = true) (t : ByteArray) : 0 ≤ mcostN D r (strOf (bestLs D r)) ∧ (mcostN D r t < 0 ∨ mcostN D r (strOf (bestLs D r)) ≤ mcostN D r t) := by
  have hok := (swB_iff _ _).1 h
  have ho := bestLs_ord D r
  have hb : mcostB D r (strOf (bestLs D r)) = true := by rw [mcostB, h, (ordWB_iff _ _).2 ho]; rfl
  have hc := costW_le hok (strOf (bestLs D r)) (ordW_small ho) _ (Nat.le_refl _)
  refine ⟨by rw [mcostN, if_pos hb]; exact hc.1, ?_⟩
  cases ht : mcostB D r t with
  | false => left; rw [mcostN, if_neg (by rw [ht]; exact Bool.false_ne_true)]; omega
  | true =>
    right
    have htw : OrdW D t := by
      rw [mcostB, h, Bool.true_and] at ht
      exact (ordWB_iff _ _).1 ht
    rw [mcostN, if_pos hb, mcostN, if_pos ht, costW_full, costW_full, bestLs_byA]
    have hl := ordW_list.1 htw
    have hperm : (byA t).toList.Perm (bestLs D r) := by
      have h1 := (sort_perm (byA t)).2.1
      rw [ordW_sorted.1 htw] at h1
      exact h1.symm.trans (bestLs_perm D r).symm
    have hsz : (strOf (bestLs D r)).size = t.size := by rw [ho.1, htw.1]
    have hle := cst_least (wgtT D r) (bestLs D r) (byA t).toList 0 hperm ((bestLs_sorted D r).imp fun h => by rcases h with h | h <;> omega)
    rw [hsz]
    have e : (bestLs D r).toArray.toList = bestLs D r := by simp
    rw [e]
    omega
/-- Two neighbours of the best order. -/
theorem best_next {D : Array CaseD} {r : Int} {i : Nat} (hi : i + 1 < (bestLs D r).length) : AheadW (wgtT D r) (bestLs D r)[i] (bestLs D r)[i + 1] := (List.pairwise_iff_getElem.1 (bestLs_sorted D r)) i (i + 1) (by omega) hi (by omega)
end Go.Proofs.YtbhamkmiagdimaaGreatDoor
