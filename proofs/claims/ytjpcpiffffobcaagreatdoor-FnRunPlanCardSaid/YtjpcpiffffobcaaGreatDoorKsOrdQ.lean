
/- Orders of the cases of a switch: what an order is; the model's l3Order. · slices.Sort on at most twelve integers. · Plain: an order of n numbers is what sorted is 0 to n-1. -/
import Derived.Test.YtjpcpiffffobcaaGreatDoorKsLeaf
import Derived.Test.YtjpcpiffffobcaaGreatDoorKsRowN
import Derived.Sort.LotA
import Derived.Sort.Row
import Derived.Sort.Grow
import Derived.IntWalk
import Derived.Laws.MakeOwn
import Derived.Shelf.SlicesE.Clone
import Derived.Test.YtjpcpiffffobcaaGreatDoorKsLtZ
import Derived.Test.YtjpcpiffffobcaaGreatDoorKsLay4
namespace Go.Proofs.YtjpcpiffffobcaaGreatDoor
open Go.RowKit Go.Shelf Go.Lib Go.Sort

def OrdTo (n : Nat) (o : Array Int) (k : Nat) : Prop := ∀ j, j < k → (0 ≤ o[j]! ∧ o[j]! < n) ∧ ∀ i, i < j → o[i]! ≠ o[j]!
def OrdOK (n : Nat) (o : Array Int) : Prop := o.size = n ∧ OrdTo n o o.size
open Classical in
noncomputable def ordB (n : Nat) (o : Array Int) : Bool := decide (OrdOK n o)
theorem ordB_iff (n : Nat) (o : Array Int) : ordB n o = true ↔ OrdOK n o := @decide_eq_true_iff _ (Classical.propDecidable _)
theorem ordB_not (n : Nat) (o : Array Int) : ordB n o = false ↔ ¬ OrdOK n o := @decide_eq_false_iff_not _ (Classical.propDecidable _)
theorem OrdTo.succ {n : Nat} {o : Array Int} {k : Nat} (h : OrdTo n o k) (h1 : 0 ≤ o[k]! ∧ o[k]! < n) (h2 : ∀ i, i < k → o[i]! ≠ o[k]!) : OrdTo n o (k + 1) := fun j hj => by
  rcases Nat.lt_or_ge j k with h3 | h3
  · exact h j h3
  · obtain rfl : j = k := by omega
    exact ⟨h1, h2⟩

end Go.Proofs.YtjpcpiffffobcaaGreatDoor

namespace Go.Proofs.YtjpcpiffffobcaaGreatDoor
open Go.RowKit Go.Shelf Go.Lib Go.Sort


theorem holds_setN {w : World} {g : Nat} {d : Array Int} (h : Holds encN w g 0 d) (i : Nat) (x : Int) (hi : i < d.size) : Holds encN (w.setCell ⟨g, i, none⟩ (.int .i64 x)) g 0 (d.setIfInBounds i x) := by
  have e := putRow_set encN w g 0 d i x hi
  rw [putRow_self encN w g 0 d h, Nat.zero_add] at e
  show Holds encN (w.setCell ⟨g, i, none⟩ (encN x)) g 0 _
  rw [e]
  exact holds_putRow encN w g 0 d _ h (by simp)
theorem grown_setN {a w : World} {g : Nat} (h : a.grownBy w (some g)) (i : Nat) (u : Value) : a.grownBy (w.setCell ⟨g, i, none⟩ u) (some g) :=
  ⟨h.os, h.tape, h.output, by simpa [World.setCell] using h.size, fun k hk hne => (Below.heap_setCell w _ u k (fun e => hne (by rw [e]))).trans (h.block k hk hne)⟩
theorem grown_drewN {a w : World} {r : Option Nat} (h : a.grownBy w r) (n : Nat) : a.grownBy (w.drewN n) r := ⟨h.os, h.tape, h.output, h.size, h.block⟩
theorem grown_drew1N {a w : World} {r : Option Nat} (h : a.grownBy w r) : a.grownBy w.drew r := ⟨h.os, h.tape, h.output, h.size, h.block⟩
theorem grown_reflN (w : World) (r : Option Nat) : w.grownBy w r := ⟨rfl, rfl, rfl, Nat.le_refl _, fun _ _ _ => rfl⟩

/-- Behind the sort: the row holds what the insertion sort makes of it; nothing else has turned. -/
def SortedRowN (d : Array Int) (g : Nat) (w w' : World) : Prop := Holds encN w' g 0 (insertionSort ltZ d 0 d.size) ∧ w.grownBy w' (some g)

end Go.Proofs.YtjpcpiffffobcaaGreatDoor

namespace Go.Proofs.YtjpcpiffffobcaaGreatDoor
open Go.RowKit Go.Shelf Go.Lib Go.Sort

def upTo (n : Nat) : Array Int := ((List.range n).map fun (i : Nat) => (i : Int)).toArray
theorem upTo_size (n : Nat) : (upTo n).size = n := by simp [upTo]
theorem upTo_get {n j : Nat} (h : j < n) : (upTo n)[j]! = (j : Int) := by simp [upTo, h]
theorem get_list (q : Array Int) (j : Nat) (hj : j < q.toList.length) : q.toList[j] = q[j]! := by
  have hj' : j < q.size := by simpa using hj
  simp [hj']
theorem mem_idx (q : Array Int) (y : Int) : y ∈ q.toList ↔ ∃ j, j < q.size ∧ q[j]! = y := by
  rw [List.mem_iff_getElem]
  constructor
  · rintro ⟨j, hj, e⟩
    exact ⟨j, by simpa using hj, by rw [← e, get_list]⟩
  · rintro ⟨j, hj, e⟩
    exact ⟨j, by simpa using hj, by rw [get_list, e]⟩
theorem nodup_idx (q : Array Int) : q.toList.Nodup ↔ ∀ j, j < q.size → ∀ i, i < j → q[i]! ≠ q[j]! := by
  rw [List.Nodup, List.pairwise_iff_getElem]
  constructor
  · intro h j hj i hi
    have := h i j (by simp; omega) (by simpa using hj) hi
    rwa [get_list, get_list] at this
  · intro h i j hi hj hij
    rw [get_list, get_list]
    exact h j (by simpa using hj) i hij

theorem sort_perm (o : Array Int) : (insertionSort ltZ o 0 o.size).size = o.size ∧ (insertionSort ltZ o 0 o.size).toList.Perm o.toList ∧ ∀ i j, i < j → j < o.size → (insertionSort ltZ o 0 o.size)[i]! ≤ (insertionSort ltZ o 0 o.size)[j]! := by
  obtain ⟨⟨h1, _, h2⟩, h3⟩ := insertionSort_holds swo_ltZ o 0 o.size (Nat.zero_le _) (Nat.le_refl _)
  generalize insertionSort ltZ o 0 o.size = s at h1 h2 h3 ⊢
  have e1 : s.extract 0 o.size = s := by rw [← h1]; simp
  have e2 : o.extract 0 o.size = o := by simp
  rw [e1, e2] at h2
  refine ⟨h1, h2, fun i j hij hj => ?_⟩
  have := h3 i j (Nat.zero_le _) hij hj
  simp only [ltZ, decide_eq_false_iff_not] at this
  omega

theorem asc_upTo {s : Array Int} {n : Nat} (hn : s.size = n) (ha : ∀ i j, i < j → j < n → s[i]! < s[j]!) (hb : ∀ j, j < n → 0 ≤ s[j]! ∧ s[j]! < n) : s = upTo n := by
  have lo : ∀ j, j < n → (j : Int) ≤ s[j]! := fun j => by
    induction j with
    | zero => intro hj; exact (hb 0 hj).1
    | succ j ih =>
      intro hj
      have h1 := ih (by omega)
      have h2 := ha j (j + 1) (by omega) hj
      omega
  have hi : ∀ k j, j + k + 1 = n → s[j]! ≤ (j : Int) := fun k => by
    induction k with
    | zero =>
      intro j hj
      have := (hb j (by omega)).2
      omega
    | succ k ih =>
      intro j hj
      have h1 := ih (j + 1) (by omega)
      have h2 := ha j (j + 1) (by omega) (by omega)
      omega
  refine Array.ext (by rw [upTo_size, hn]) fun j h1 h2 => ?_
  have hj : j < n := by omega
  have e1 : s[j] = s[j]! := by simp [h1]
  have e2 : (upTo n)[j] = (upTo n)[j]! := by simp [h2]
  rw [e1, e2, upTo_get hj]
  have := lo j hj
  have := hi (n - 1 - j) j (by omega)
  omega

theorem ord_sorted {n : Nat} {o : Array Int} (h : OrdOK n o) : insertionSort ltZ o 0 o.size = upTo n := by
  obtain ⟨h1, h2, h3⟩ := sort_perm o
  generalize insertionSort ltZ o 0 o.size = s at h1 h2 h3 ⊢
  have hn := h.1
  have hno : o.toList.Nodup := (nodup_idx o).2 fun j hj => (h.2 j hj).2
  have hns := (nodup_idx s).1 (h2.nodup_iff.2 hno)
  refine asc_upTo (by omega) (fun i j hij hj => ?_) fun j hj => ?_
  · have a := h3 i j hij (by omega)
    have b := hns j (by omega) i hij
    omega
  · obtain ⟨t, ht, e⟩ := (mem_idx o _).1 (h2.mem_iff.1 ((mem_idx s _).2 ⟨j, by omega, rfl⟩))
    rw [← e]
    exact (h.2 t ht).1
theorem sorted_ord {n : Nat} {o : Array Int} (hn : o.size = n) (h : insertionSort ltZ o 0 o.size = upTo n) : OrdOK n o := by
  obtain ⟨h1, h2, h3⟩ := sort_perm o
  rw [h] at h1 h2 h3
  have hno : (upTo n).toList.Nodup := (nodup_idx _).2 fun j hj i hi => by
    rw [upTo_size] at hj
    rw [upTo_get hj, upTo_get (by omega)]
    omega
  have hns := (nodup_idx o).1 (h2.nodup_iff.1 hno)
  refine ⟨hn, fun j hj => ⟨?_, hns j hj⟩⟩
  obtain ⟨t, ht, e⟩ := (mem_idx _ _).1 (h2.mem_iff.2 ((mem_idx o _).2 ⟨j, hj, rfl⟩))
  rw [upTo_size] at ht
  rw [← e, upTo_get ht]
  omega
theorem ordB_sorted {n : Nat} {o : Array Int} (hn : o.size = n) : ordB n o = decide (insertionSort ltZ o 0 o.size = upTo n) := by
  rw [Bool.eq_iff_iff, ordB_iff, decide_eq_true_iff]
  exact ⟨ord_sorted, sorted_ord hn⟩
theorem ord_perm {n : Nat} {o : Array Int} (h : OrdOK n o) : o.toList.Perm (upTo n).toList := by
  have := (sort_perm o).2.1
  rw [ord_sorted h] at this
  exact this.symm
theorem ord_onto {n : Nat} {o : Array Int} (h : OrdOK n o) {i : Nat} (hi : i < n) : ∃ j, j < n ∧ o[j]! = (i : Int) := by
  obtain ⟨j, hj, e⟩ := (mem_idx o (i : Int)).1 ((ord_perm h).mem_iff.2 ((mem_idx _ _).2 ⟨i, by rw [upTo_size]; exact hi, upTo_get hi⟩))
  exact ⟨j, by have := h.1; omega, e⟩
end Go.Proofs.YtjpcpiffffobcaaGreatDoor
