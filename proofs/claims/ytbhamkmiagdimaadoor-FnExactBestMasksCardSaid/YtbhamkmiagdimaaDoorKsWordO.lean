
/- Orders of a switch's targets, plain: what sorted gives its letters. No walk. -/
import Derived.Test.YtbhamkmiagdimaaDoorKsWordP
import Derived.Test.YtbhamkmiagdimaaDoorKsNumC
namespace Go.Proofs.YtbhamkmiagdimaaDoor
open Go.RowKit Go.Shelf Go.Lib Go.Sort

theorem nodup_sub : ∀ (l1 l2 : List Int), l1.Nodup → (∀ x ∈ l1, x ∈ l2) → l1.length ≤ l2.length
  | [], _, _, _ => Nat.zero_le _
  | a :: l1, l2, hn, hs => by
    rw [List.nodup_cons] at hn
    have ha : a ∈ l2 := hs a (List.mem_cons_self ..)
    have ih := nodup_sub l1 (l2.erase a) hn.2 fun x hx => (List.mem_erase_of_ne (fun e => hn.1 (by subst e; exact hx))).2 (hs x (List.mem_cons_of_mem _ hx))
    rw [List.length_erase_of_mem ha] at ih
    have : 0 < l2.length := List.length_pos_of_mem ha
    simp only [List.length_cons]
    omega
theorem nodup_onto {l1 l2 : List Int} (hn : l1.Nodup) (hs : ∀ x ∈ l1, x ∈ l2) (hl : l2.length ≤ l1.length) {x : Int} (hx : x ∈ l2) : x ∈ l1 := by
  by_cases h : x ∈ l1
  · exact h
  · exfalso
    have := nodup_sub l1 (l2.erase x) hn fun y hy => (List.mem_erase_of_ne (fun e => h (by subst e; exact hy))).2 (hs y hy)
    rw [List.length_erase_of_mem hx] at this
    have : 0 < l2.length := List.length_pos_of_mem hx
    omega

/-- A text's bytes as numbers. -/
def byA (s : ByteArray) : Array Int := s.data.map fun b => (b.toNat : Int)
theorem byA_size (s : ByteArray) : (byA s).size = s.size := by simp [byA]
theorem byA_get {s : ByteArray} {j : Nat} (h : j < s.size) : (byA s)[j]! = (byteN s j : Int) := by
  have h1 : j < (byA s).size := by rw [byA_size]; exact h
  have h2 : j < s.data.size := h
  rw [getElem!_pos (byA s) j h1]
  simp only [byA, Array.getElem_map, byteN]
  rw [getElem!_pos s.data j h2]
theorem byteN_lt (s : ByteArray) (j : Nat) : byteN s j < 256 := (s.data[j]!).toNat_lt
theorem byteN_get {s : ByteArray} {j : Nat} (h : j < s.size) : (s[j].toNat : Int) = (byteN s j : Int) := by
  have h2 : j < s.data.size := h
  rw [byteN, getElem!_pos s.data j h2]
  rfl
theorem strOf_byA (s : ByteArray) : strOf (byA s).toList = s := by
  apply ByteArray.ext
  apply Array.ext'
  rw [strOf_data]
  simp [byA, Function.comp_def]
theorem strOf_inj {l1 l2 : List Int} (h1 : ∀ x ∈ l1, 0 ≤ x ∧ x ≤ 255) (h2 : ∀ x ∈ l2, 0 ≤ x ∧ x ≤ 255) (h : strOf l1 = strOf l2) : l1 = l2 := by
  have e : l1.map (fun n => UInt8.ofNat n.toNat) = l2.map (fun n => UInt8.ofNat n.toNat) := by rw [← strOf_data, ← strOf_data, h]
  clear h
  induction l1 generalizing l2 with
  | nil => cases l2 with
    | nil => rfl
    | cons b l2 => simp at e
  | cons a l1 ih => cases l2 with
    | nil => simp at e
    | cons b l2 =>
      simp only [List.map_cons, List.cons.injEq] at e
      have ha := h1 a (List.mem_cons_self ..)
      have hb := h2 b (List.mem_cons_self ..)
      rw [ofNat_inj ha.1 ha.2 hb.1 hb.2 e.1, ih (fun x hx => h1 x (List.mem_cons_of_mem _ hx)) (fun x hx => h2 x (List.mem_cons_of_mem _ hx)) e.2]

/-- A text is an order of the words of a switch. -/
def OrdW (d : Array CaseD) (s : ByteArray) : Prop := s.size = (lettersTo d 8).length ∧ ∀ j, j < s.size → ((byteN s j : Int) ∈ lettersTo d 8 ∧ ∀ i, i < j → byteN s i ≠ byteN s j)
noncomputable def ordWB (d : Array CaseD) (s : ByteArray) : Bool := @decide (OrdW d s) (Classical.propDecidable _)
theorem ordWB_iff (d : Array CaseD) (s : ByteArray) : ordWB d s = true ↔ OrdW d s := @decide_eq_true_iff _ (Classical.propDecidable _)
theorem lettersTo_asc (d : Array CaseD) : (lettersTo d 8).Pairwise (· < ·) := by
  have := lettersZ_asc d false
  simpa [lettersZ] using this
theorem lettersTo_range (d : Array CaseD) (x : Int) (h : x ∈ lettersTo d 8) : 97 ≤ x ∧ x ≤ 104 := by
  obtain ⟨q, h1, h2, _⟩ := (lettersTo_mem d 8 x).1 h
  omega
theorem ordW_list {d : Array CaseD} {s : ByteArray} : OrdW d s ↔ (byA s).size = (lettersTo d 8).length ∧ (byA s).toList.Nodup ∧ ∀ x ∈ (byA s).toList, x ∈ lettersTo d 8 := by
  rw [nodup_idx, byA_size]
  constructor
  · rintro ⟨h1, h2⟩
    refine ⟨h1, fun j hj i hi => ?_, fun x hx => ?_⟩
    · rw [byA_get hj, byA_get (by omega)]
      have := (h2 j hj).2 i hi
      omega
    · obtain ⟨j, hj, e⟩ := (mem_idx _ x).1 hx
      rw [byA_size] at hj
      rw [← e, byA_get hj]
      exact (h2 j hj).1
  · rintro ⟨h1, h2, h3⟩
    refine ⟨h1, fun j hj => ⟨?_, fun i hi => ?_⟩⟩
    · have := h3 ((byA s)[j]!) ((mem_idx _ _).2 ⟨j, by rw [byA_size]; exact hj, rfl⟩)
      rwa [byA_get hj] at this
    · have := h2 j hj i hi
      rw [byA_get hj, byA_get (by omega)] at this
      omega
theorem ordW_sorted {d : Array CaseD} {s : ByteArray} : OrdW d s ↔ insertionSort ltZ (byA s) 0 (byA s).size = (lettersTo d 8).toArray := by
  rw [ordW_list]
  obtain ⟨h1, h2, h3⟩ := sort_perm (byA s)
  generalize insertionSort ltZ (byA s) 0 (byA s).size = q at h1 h2 h3 ⊢
  constructor
  · rintro ⟨a, b, c⟩
    have hq := (nodup_idx q).1 (h2.nodup_iff.2 b)
    have e : q.toList = lettersTo d 8 := by
      refine asc_ext ?_ (lettersTo_asc d) fun x => ⟨fun hx => c x (h2.mem_iff.1 hx), fun hx => h2.mem_iff.2 (nodup_onto b c (by rw [← a]; exact Nat.le_of_eq (by simp)) hx)⟩
      rw [List.pairwise_iff_getElem]
      intro i j hi hj hij
      rw [get_list, get_list]
      have hj' : j < q.size := by simpa using hj
      have u := h3 i j hij (by omega)
      have v := hq j hj' i hij
      omega
    rw [← e]
  · intro e
    subst e
    have hn : (lettersTo d 8).Nodup := (lettersTo_asc d).imp fun h => by omega
    refine ⟨by simpa using h1.symm, ?_, fun x hx => ?_⟩
    · exact h2.nodup_iff.1 (by simpa using hn)
    · have := h2.mem_iff.2 hx
      simpa using this
theorem byA_range (s : ByteArray) (x : Int) (h : x ∈ (byA s).toList) : 0 ≤ x ∧ x ≤ 255 := by
  obtain ⟨j, hj, e⟩ := (mem_idx _ x).1 h
  rw [byA_size] at hj
  rw [byA_get hj] at e
  have := byteN_lt s j
  omega
theorem ordW_text (d : Array CaseD) (s : ByteArray) : ((strOf (insertionSort ltZ (byA s) 0 (byA s).size).toList).toList == (strOf (lettersTo d 8)).toList) = ordWB d s := by
  rw [Bool.eq_iff_iff, ordWB_iff, ordW_sorted, beq_iff_eq]
  obtain ⟨h1, h2, h3⟩ := sort_perm (byA s)
  generalize insertionSort ltZ (byA s) 0 (byA s).size = q at h1 h2 h3 ⊢
  constructor
  · intro e
    have e2 : strOf q.toList = strOf (lettersTo d 8) := by
      apply ByteArray.ext
      apply Array.ext'
      rwa [ByteArray.toList_eq, ByteArray.toList_eq] at e
    have := strOf_inj (fun x hx => byA_range s x (h2.mem_iff.1 hx)) (fun x hx => by have := lettersTo_range d x hx; omega) e2
    rw [← this]
  · intro e
    rw [e]
theorem ordW_long {d : Array CaseD} {s : ByteArray} (h : 8 < s.size) : ordWB d s = false := by
  cases hb : ordWB d s with
  | false => rfl
  | true =>
    have := ((ordWB_iff d s).1 hb).1
    have := lettersTo_length d 8
    omega
/-- The order, byte by byte: each byte is a letter that is there. -/
theorem ordW_letter {d : Array CaseD} {s : ByteArray} (h : OrdW d s) {j : Nat} (hj : j < s.size) : 97 ≤ (byteN s j : Int) ∧ (byteN s j : Int) ≤ 104 := lettersTo_range d _ (h.2 j hj).1
end Go.Proofs.YtbhamkmiagdimaaDoor
