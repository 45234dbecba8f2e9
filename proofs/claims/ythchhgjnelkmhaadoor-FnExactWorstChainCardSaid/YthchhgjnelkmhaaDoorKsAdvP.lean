/- Plain: the next order, as advance makes it. -/
import Derived.Test.YthchhgjnelkmhaaDoorKsWorstQ
import Derived.Test.YthchhgjnelkmhaaDoorKsBoxN
namespace Go.Proofs.YthchhgjnelkmhaaDoor
open Go.RowKit Go.Shelf Go.Lib Go.Sort

def revFrom (A : Array Int) (t : Nat) : Array Int := Array.ofFn (n := A.size) fun j => if j.1 ≤ t then A[j.1]! else A[A.size - (j.1 - t)]!
theorem revFrom_size (A : Array Int) (t : Nat) : (revFrom A t).size = A.size := by simp [revFrom]
theorem revFrom_get {A : Array Int} {t j : Nat} (hj : j < A.size) : (revFrom A t)[j]! = if j ≤ t then A[j]! else A[A.size - (j - t)]! := by
  have h : j < (revFrom A t).size := by rw [revFrom_size]; exact hj
  rw [getElem!_pos (revFrom A t) j h]
  simp only [revFrom, Array.getElem_ofFn]
structure NextOf (n : Nat) (c r : Array Int) : Prop where
  ord : OrdOK n r
  next : ∃ t, t < n ∧ (∀ j, j < t → r[j]! = c[j]!) ∧ (∀ i j, t < i → i < j → j < n → c[j]! < c[i]!) ∧ c[t]! < r[t]! ∧ (∀ m, t < m → m < n → c[t]! < c[m]! → r[t]! ≤ c[m]!) ∧ (∀ i j, t < i → i < j → j < n → r[i]! < r[j]!)
theorem NextOf.lex {n : Nat} {c r p : Array Int} (h : NextOf n c r) (hc : OrdOK n c) (hp : OrdOK n p) (hl : lexLt n c p) : r = p ∨ lexLt n r p := by
  obtain ⟨t, ht, h1, h2, h3, h4, h5⟩ := h.next
  exact succ_lex hc h.ord hp ht h1 h2 h3 h4 h5 hl
theorem NextOf.lt {n : Nat} {c r : Array Int} (h : NextOf n c r) : lexLt n c r := by
  obtain ⟨t, ht, h1, _, h3, _, _⟩ := h.next
  exact ⟨t, ht, fun j hj => (h1 j hj).symm, h3⟩
theorem next_of {n t q : Nat} {c : Array Int} (hc : OrdOK n c) (htq : t < q) (hq : q < n) (hd : ∀ i j, t < i → i < j → j < n → c[j]! < c[i]!) (hlt : c[t]! < c[q]!) (haf : ∀ m, q < m → m < n → c[m]! < c[t]!) :
    NextOf n c (revFrom (swp c t q) t) := by
  have hs := ord_swp hc (by omega : t < n) hq (by omega)
  have hcz := hc.1
  have hg := fun j => swp_get (d := c) (p := t) (q := q) (by omega) (by omega) (by omega) j
  have gt : (swp c t q)[t]! = c[q]! := by rw [hg t, if_neg (by omega), if_pos rfl]
  have gq : (swp c t q)[q]! = c[t]! := by rw [hg q, if_pos rfl]
  have go : ∀ j, j ≠ t → j ≠ q → (swp c t q)[j]! = c[j]! := fun j h1 h2 => by rw [hg j, if_neg h2, if_neg h1]
  have hz := hs.1
  generalize swp c t q = s at hs gt gq go hz ⊢
  have hr : ∀ j, j < n → (revFrom s t)[j]! = if j ≤ t then s[j]! else s[n - (j - t)]! := fun j hj => by rw [revFrom_get (by omega), hz]
  have r0 : ∀ j, j ≤ t → (revFrom s t)[j]! = s[j]! := fun j hj => by rw [hr j (by omega), if_pos hj]
  have r1 : ∀ j, t < j → j < n → (revFrom s t)[j]! = s[n - (j - t)]! := fun j h1 h2 => by rw [hr j h2, if_neg (by omega)]
  have hdesc : ∀ a b, t < a → a < b → b < n → s[b]! < s[a]! := fun a b h1 h2 h3 => by
    by_cases ha : a = q
    · subst ha
      rw [gq, go b (by omega) (by omega)]
      exact haf b h2 h3
    · rw [go a (by omega) ha]
      by_cases hb : b = q
      · subst hb
        rw [gq]
        have := hd a b h1 h2 h3
        omega
      · rw [go b (by omega) hb]
        exact hd a b h1 h2 h3
  refine ⟨⟨by rw [revFrom_size]; exact hz, ?_⟩, t, by omega, fun j hj => ?_, hd, ?_, fun m h1 h2 h3 => ?_, fun i j h1 h2 h3 => ?_⟩
  · rw [revFrom_size, hz]
    intro j hj
    have hrange : ∀ x, x < n → 0 ≤ s[x]! ∧ s[x]! < n := fun x hx => (hs.2 x (by omega)).1
    refine ⟨?_, fun i hi e => ?_⟩
    · rw [hr j hj]
      split
      · exact hrange j hj
      · exact hrange _ (by omega)
    · rw [hr j hj, hr i (by omega)] at e
      by_cases h1 : j ≤ t
      · rw [if_pos h1, if_pos (by omega)] at e
        have := ord_inj hs (by omega) hj e
        omega
      · rw [if_neg h1] at e
        by_cases h2 : i ≤ t
        · rw [if_pos h2] at e
          have := ord_inj hs (by omega) (by omega) e
          omega
        · rw [if_neg h2] at e
          have := ord_inj hs (by omega) (by omega) e
          omega
  · rw [r0 j (by omega), go j (by omega) (by omega)]
  · rw [r0 t (Nat.le_refl t), gt]
    exact hlt
  · rw [r0 t (Nat.le_refl t), gt]
    rcases Nat.lt_trichotomy m q with h | h | h
    · exact Int.le_of_lt (hd m q h1 h hq)
    · subst h; exact Int.le_refl _
    · have := haf m h h2
      omega
  · rw [r1 i h1 (by omega), r1 j (by omega) h3]
    exact hdesc _ _ (by omega) (by omega) (by omega)

/-- What lies behind t, and the box once it stands the other way round. -/
def suf (A : Array Int) (t : Nat) : Array Int := Array.ofFn (n := A.size - (t + 1)) fun i => A[t + 1 + i.1]!
theorem suf_size (A : Array Int) (t : Nat) : (suf A t).size = A.size - (t + 1) := by simp [suf]
theorem suf_get {A : Array Int} {t i : Nat} (hi : i < A.size - (t + 1)) : (suf A t)[i]! = A[t + 1 + i]! := by
  have h : i < (suf A t).size := by rw [suf_size]; exact hi
  rw [getElem!_pos (suf A t) i h]
  simp only [suf, Array.getElem_ofFn]
theorem BoxN.suf {w : World} {g : Nat} {A : Array Int} (h : BoxN w g A) (t : Nat) : Holds encN w g (t + 1) (suf A t) := fun j hj => by
  rw [suf_size] at hj
  have := h.holds (t + 1 + j) (by omega)
  rw [Nat.zero_add] at this
  rw [suf_get hj]
  exact this
theorem BoxN.reversed {w : World} {g : Nat} {A : Array Int} (h : BoxN w g A) {t : Nat} (ht : t + 1 ≤ A.size) (m : Nat) : BoxN (putRow encN (Sort.ahead w m) g (t + 1) (Go.Proofs.YthchhgjnelkmhaaDoor.suf A t).reverse) g (revFrom A t) := by
  have hh : w.heap[g]? = some (.cells (A.map encN) 3 (0, 0)) := h
  unfold BoxN
  have e : (putRow encN (Sort.ahead w m) g (t + 1) (Go.Proofs.YthchhgjnelkmhaaDoor.suf A t).reverse).heap[g]? = some (.cells (putCells encN (t + 1) (Go.Proofs.YthchhgjnelkmhaaDoor.suf A t).reverse (A.map encN)) 3 (0, 0)) := by
    simp [putRow, mapBlock, Sort.ahead, Array.getElem?_modify, hh, onCells]
  rw [e]
  congr 2
  refine Array.ext (by simp [putCells, revFrom_size]) fun j h1 h2 => ?_
  have hj : j < A.size := by simpa [revFrom_size] using h2
  have e2 : ((revFrom A t).map encN)[j] = encN (revFrom A t)[j]! := by simp [revFrom_size, hj]
  rw [e2, revFrom_get hj]
  simp only [putCells, Array.getElem_mapIdx, Array.size_reverse, suf_size]
  by_cases hjt : j ≤ t
  · rw [if_neg (by omega), if_pos hjt]
    simp [hj]
  · rw [if_pos (by omega), if_neg hjt]
    have hlen : j - (t + 1) < (Go.Proofs.YthchhgjnelkmhaaDoor.suf A t).reverse.size := by rw [Array.size_reverse, suf_size]; omega
    rw [getElem!_pos (Go.Proofs.YthchhgjnelkmhaaDoor.suf A t).reverse (j - (t + 1)) hlen, Array.getElem_reverse]
    have hl2 : (Go.Proofs.YthchhgjnelkmhaaDoor.suf A t).size - 1 - (j - (t + 1)) < (Go.Proofs.YthchhgjnelkmhaaDoor.suf A t).size := by rw [suf_size]; omega
    rw [← getElem!_pos (Go.Proofs.YthchhgjnelkmhaaDoor.suf A t) _ hl2, suf_get (by rw [suf_size]; omega), suf_size]
    congr 2
    omega
theorem grown_reversed {w : World} {g m off : Nat} (d : Array Int) : w.grownBy (putRow encN (Sort.ahead w m) g off d) (some g) := by
  refine ⟨rfl, rfl, rfl, by simp, fun k hk hne => ?_⟩
  have : g ≠ k := fun e => hne (by rw [e])
  simp [putRow, mapBlock, Sort.ahead, Array.getElem?_modify, this]
end Go.Proofs.YthchhgjnelkmhaaDoor
