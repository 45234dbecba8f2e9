
/- Plain lists: a sorted row compacted is the one ascending list of its elements. -/
import Derived.Test.YtbhamkmiagdimaaDoorKsBytes
namespace Go.Proofs.YtbhamkmiagdimaaDoor
open Go.RowKit Go.Shelf Go.Lib Go.Sort

theorem asc_ext : ∀ {l1 l2 : List Int}, l1.Pairwise (· < ·) → l2.Pairwise (· < ·) → (∀ x, x ∈ l1 ↔ x ∈ l2) → l1 = l2
  | [], [], _, _, _ => rfl
  | [], b :: l2, _, _, h => absurd ((h b).2 (by simp)) (by simp)
  | a :: l1, [], _, _, h => absurd ((h a).1 (by simp)) (by simp)
  | a :: l1, b :: l2, h1, h2, h => by
    rw [List.pairwise_cons] at h1 h2
    have hab : a = b := by
      have ha := (h a).1 (by simp)
      have hb := (h b).2 (by simp)
      simp only [List.mem_cons] at ha hb
      rcases ha with ha | ha
      · exact ha
      · rcases hb with hb | hb
        · exact hb.symm
        · have := h1.1 b hb
          have := h2.1 a ha
          omega
    subst hab
    have ht : ∀ x, x ∈ l1 ↔ x ∈ l2 := fun x => by
      have hx := h x
      simp only [List.mem_cons] at hx
      constructor
      · intro hm
        rcases hx.1 (.inr hm) with e | e
        · have := h1.1 x hm; omega
        · exact e
      · intro hm
        rcases hx.2 (.inr hm) with e | e
        · have := h2.1 x hm; omega
        · exact e
    rw [asc_ext h1.2 h2.2 ht]

theorem compact_asc {d : Array Int} (hs : ∀ i j, i < j → j < d.size → d[i]! ≤ d[j]!) : ∀ m, m ≤ d.size →
    (compactUpTo d m).Pairwise (· < ·) ∧ (∀ x ∈ compactUpTo d m, ∃ j, j < m ∧ d[j]! = x) ∧ (∀ j, j < m → d[j]! ∈ compactUpTo d m)
  | 0, _ => ⟨by simp [compactUpTo], by simp [compactUpTo], fun j hj => absurd hj (Nat.not_lt_zero j)⟩
  | m + 1, hm => by
    obtain ⟨h1, h2, h3⟩ := compact_asc hs m (by omega)
    rw [compactUpTo_succ]
    cases hk : keeps d m with
    | true =>
      rw [if_pos rfl]
      refine ⟨?_, ?_, ?_⟩
      · rw [List.pairwise_append]
        refine ⟨h1, by simp, fun x hx y hy => ?_⟩
        simp only [List.mem_singleton] at hy
        subst hy
        obtain ⟨j, hj, rfl⟩ := h2 x hx
        simp only [keeps, decide_eq_true_eq] at hk
        rcases hk with hk | hk
        · omega
        · have a := hs (m - 1) m (by omega) (by omega)
          rcases Nat.lt_or_ge j (m - 1) with hj' | hj'
          · have b := hs j (m - 1) hj' (by omega)
            omega
          · obtain rfl : j = m - 1 := by omega
            omega
      · intro x hx
        rcases List.mem_append.1 hx with hx | hx
        · obtain ⟨j, hj, e⟩ := h2 x hx
          exact ⟨j, by omega, e⟩
        · simp only [List.mem_singleton] at hx
          exact ⟨m, by omega, hx.symm⟩
      · intro j hj
        rcases Nat.lt_or_ge j m with hj' | hj'
        · exact List.mem_append_left _ (h3 j hj')
        · obtain rfl : j = m := by omega
          exact List.mem_append_right _ (by simp)
    | false =>
      simp only [Bool.false_eq_true, if_false, List.append_nil]
      refine ⟨h1, fun x hx => ?_, fun j hj => ?_⟩
      · obtain ⟨j, hj, e⟩ := h2 x hx
        exact ⟨j, by omega, e⟩
      · rcases Nat.lt_or_ge j m with hj' | hj'
        · exact h3 j hj'
        · obtain rfl : j = m := by omega
          simp only [keeps, decide_eq_false_iff_not, not_or, ne_eq, Decidable.not_not] at hk
          rw [hk.2]
          exact h3 (j - 1) (by omega)

/-- The row sorted and compacted: the one ascending list of its elements. -/
theorem sort_compact (d : Array Int) (l : List Int) (hl : l.Pairwise (· < ·)) (hm : ∀ x, x ∈ l ↔ ∃ j, j < d.size ∧ d[j]! = x) :
    compactUpTo (insertionSort ltZ d 0 d.size) d.size = l ∧ (insertionSort ltZ d 0 d.size).size = d.size := by
  obtain ⟨⟨h1, _, h2⟩, h3⟩ := insertionSort_holds swo_ltZ d 0 d.size (Nat.zero_le _) (Nat.le_refl _)
  generalize insertionSort ltZ d 0 d.size = s at h1 h2 h3 ⊢
  refine ⟨?_, h1⟩
  obtain ⟨a, b, c⟩ := compact_asc (d := s) (fun i j hi hj => by
    have := h3 i j (Nat.zero_le _) hi (by omega)
    simp only [ltZ, decide_eq_false_iff_not] at this
    omega) d.size (by omega)
  refine asc_ext a hl fun x => ?_
  rw [hm x]
  have hmem : ∀ y, y ∈ s.toList ↔ y ∈ d.toList := fun y => by
    have e1 : s.extract 0 d.size = s := by rw [← h1]; simp
    have e2 : d.extract 0 d.size = d := by simp
    rw [e1, e2] at h2
    exact h2.mem_iff
  have hidx : ∀ (q : Array Int) y, y ∈ q.toList ↔ ∃ j, j < q.size ∧ q[j]! = y := fun q y => by
    rw [List.mem_iff_getElem]
    constructor
    · rintro ⟨j, hj, e⟩
      have hj' : j < q.size := by simpa using hj
      exact ⟨j, hj', by simpa [hj'] using e⟩
    · rintro ⟨j, hj, e⟩
      exact ⟨j, by simpa using hj, by simpa [hj] using e⟩
  constructor
  · intro hx
    obtain ⟨j, hj, e⟩ := b x hx
    exact (hidx d x).1 ((hmem x).1 ((hidx s x).2 ⟨j, by omega, e⟩))
  · intro hx
    obtain ⟨j, hj, e⟩ := (hidx s x).1 ((hmem x).2 ((hidx d x).2 hx))
    rw [← e]
    exact c j (by omega)

/-- Bytes as a text. -/
def strOf (ns : List Int) : ByteArray := ns.foldl (fun r n => r.push (UInt8.ofNat n.toNat)) ByteArray.empty
theorem strOf_snoc (ns : List Int) (c : Int) : strOf (ns ++ [c]) = strOf ns ++ (⟨#[UInt8.ofNat c.toNat]⟩ : ByteArray) := by
  unfold strOf
  rw [List.foldl_append]
  simp only [List.foldl_cons, List.foldl_nil]
  generalize ns.foldl _ _ = r
  apply ByteArray.ext
  simp [ByteArray.data_append, ByteArray.data_push]
theorem push_size : ∀ (ns : List Int) (r : ByteArray), (ns.foldl (fun r n => r.push (UInt8.ofNat n.toNat)) r).size = r.size + ns.length
  | [], _ => rfl
  | n :: ns, r => by rw [List.foldl_cons, push_size ns, ByteArray.size_push, List.length_cons]; omega
theorem strOf_size (ns : List Int) : (strOf ns).size = ns.length := by
  rw [strOf, push_size]
  show 0 + ns.length = ns.length
  omega
end Go.Proofs.YtbhamkmiagdimaaDoor
