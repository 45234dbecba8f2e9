/- Plain: orders by their first indices that differ; the next order; what two neighbours that change places cost. -/
import Derived.Test.YthchhgjnelkmhaaDoorKsCostP
import Derived.Test.YthchhgjnelkmhaaDoorKsBestC
namespace Go.Proofs.YthchhgjnelkmhaaDoor
open Go.RowKit Go.Shelf Go.Lib Go.Sort

def lexLt (n : Nat) (a b : Array Int) : Prop := ∃ k, k < n ∧ (∀ j, j < k → a[j]! = b[j]!) ∧ a[k]! < b[k]!
theorem first_diff {n : Nat} {a b : Array Int} (ha : a.size = n) (hb : b.size = n) : a = b ∨ ∃ k, k < n ∧ (∀ j, j < k → a[j]! = b[j]!) ∧ a[k]! ≠ b[k]! := by
  have h : ∀ m, m ≤ n → (∀ j, j < m → a[j]! = b[j]!) ∨ ∃ k, k < n ∧ (∀ j, j < k → a[j]! = b[j]!) ∧ a[k]! ≠ b[k]! := by
    intro m
    induction m with
    | zero => exact fun _ => .inl fun j hj => absurd hj (Nat.not_lt_zero j)
    | succ m ih =>
      intro hm
      rcases ih (by omega) with h | h
      · by_cases e : a[m]! = b[m]!
        · refine .inl fun j hj => ?_
          rcases Nat.lt_or_ge j m with h1 | h1
          · exact h j h1
          · obtain rfl : j = m := by omega
            exact e
        · exact .inr ⟨m, by omega, h, e⟩
      · exact .inr h
  rcases h n (Nat.le_refl n) with h | h
  · exact .inl (arr_ext (ha.trans hb.symm) fun j hj => h j (by omega))
  · exact .inr h
theorem lexLt_asymm {n : Nat} {a b : Array Int} (h : lexLt n a b) (h2 : lexLt n b a) : False := by
  obtain ⟨k, _, he, hk⟩ := h
  obtain ⟨m, _, he2, hm⟩ := h2
  rcases Nat.lt_trichotomy k m with h3 | h3 | h3
  · have := he2 k h3; omega
  · subst h3; omega
  · have := he m h3; omega
theorem lexLt_irrefl {n : Nat} {a : Array Int} (h : lexLt n a a) : False := lexLt_asymm h h
theorem ord_inj {n : Nat} {o : Array Int} (h : OrdOK n o) {i j : Nat} (hi : i < n) (hj : j < n) (e : o[i]! = o[j]!) : i = j := by
  have hs := h.1
  rcases Nat.lt_trichotomy i j with h3 | h3 | h3
  · exact absurd e ((h.2 j (by omega)).2 i h3)
  · exact h3
  · exact absurd e.symm ((h.2 i (by omega)).2 j h3)
theorem tail_idx {n k m : Nat} {c p : Array Int} (hc : OrdOK n c) (hp : OrdOK n p) (he : ∀ j, j < k → p[j]! = c[j]!) (hkm : k ≤ m) (hm : m < n) : ∃ q, k ≤ q ∧ q < n ∧ c[q]! = p[m]! := by
  obtain ⟨t, ht, htn⟩ := hp.idx (j := m) (by rw [hp.1]; exact hm)
  obtain ⟨q, hq, hqt⟩ := ord_onto hc htn
  refine ⟨q, ?_, hq, by rw [hqt, ht]⟩
  rcases Nat.lt_or_ge q k with h | h
  · have := ord_inj hp hq hm (by rw [he q h, hqt, ht])
    omega
  · exact h
/-- An order that ascends from k on is the first of those that begin as it does up to k. -/
theorem asc_least {n k : Nat} {r p : Array Int} (hr : OrdOK n r) (hp : OrdOK n p) (he : ∀ j, j < k → p[j]! = r[j]!) (ha : ∀ i j, k ≤ i → i < j → j < n → r[i]! < r[j]!) : r = p ∨ lexLt n r p := by
  rcases first_diff hr.1 hp.1 with h | ⟨m, hm, h1, h2⟩
  · exact .inl h
  · refine .inr ⟨m, hm, h1, ?_⟩
    rcases Nat.lt_or_ge m k with h3 | h3
    · exact absurd (he m h3).symm h2
    · obtain ⟨q, hq, hqn, e⟩ := tail_idx hr hp (fun j hj => (h1 j hj).symm) (Nat.le_refl m) hm
      rcases Nat.lt_or_ge m q with h4 | h4
      · rw [← e]; exact ha m q h3 h4 hqn
      · obtain rfl : q = m := by omega
        exact absurd e h2
/-- One that descends from k on is the last of them. -/
theorem desc_last {n k : Nat} {c p : Array Int} (hc : OrdOK n c) (hp : OrdOK n p) (he : ∀ j, j < k → p[j]! = c[j]!) (hd : ∀ i j, k ≤ i → i < j → j < n → c[j]! < c[i]!) : p = c ∨ lexLt n p c := by
  rcases first_diff hp.1 hc.1 with h | ⟨m, hm, h1, h2⟩
  · exact .inl h
  · refine .inr ⟨m, hm, h1, ?_⟩
    rcases Nat.lt_or_ge m k with h3 | h3
    · exact absurd (he m h3) h2
    · obtain ⟨q, hq, hqn, e⟩ := tail_idx hc hp h1 (Nat.le_refl m) hm
      rcases Nat.lt_or_ge m q with h4 | h4
      · rw [← e]; exact hd m q h3 h4 hqn
      · obtain rfl : q = m := by omega
        exact absurd e.symm h2
/-- The next order: no order stands between. -/
theorem succ_lex {n t : Nat} {c r p : Array Int} (hc : OrdOK n c) (hr : OrdOK n r) (hp : OrdOK n p) (ht : t < n) (he : ∀ j, j < t → r[j]! = c[j]!) (hd : ∀ i j, t < i → i < j → j < n → c[j]! < c[i]!)
    (hgt : c[t]! < r[t]!) (hmin : ∀ m, t < m → m < n → c[t]! < c[m]! → r[t]! ≤ c[m]!) (ha : ∀ i j, t < i → i < j → j < n → r[i]! < r[j]!) (h : lexLt n c p) : r = p ∨ lexLt n r p := by
  obtain ⟨k, hk, h1, h2⟩ := h
  rcases Nat.lt_trichotomy k t with h3 | h3 | h3
  · exact .inr ⟨k, hk, fun j hj => (he j (by omega)).trans (h1 j hj), by rw [he k h3]; exact h2⟩
  · subst h3
    obtain ⟨q, hq, hqn, e⟩ := tail_idx hc hp (fun j hj => (h1 j hj).symm) (Nat.le_refl k) hk
    have hqk : k < q := by
      rcases Nat.lt_or_ge k q with h4 | h4
      · exact h4
      · obtain rfl : q = k := by omega
        rw [e] at h2
        exact absurd h2 (Int.lt_irrefl _)
    have hle := hmin q hqk hqn (by rw [e]; exact h2)
    rw [e] at hle
    rcases Int.lt_or_eq_of_le hle with h4 | h4
    · exact .inr ⟨k, hk, fun j hj => (he j hj).trans (h1 j hj), h4⟩
    · refine asc_least (k := k + 1) hr hp (fun j hj => ?_) (fun i j hi hij hj => ha i j (by omega) hij hj)
      rcases Nat.lt_or_ge j k with h5 | h5
      · exact ((he j h5).trans (h1 j h5)).symm
      · obtain rfl : j = k := by omega
        exact h4.symm
  · obtain ⟨q, hq, hqn, e⟩ := tail_idx hc hp (fun j hj => (h1 j hj).symm) (Nat.le_refl k) hk
    rcases Nat.lt_or_ge k q with h4 | h4
    · have := hd k q h3 h4 hqn
      omega
    · obtain rfl : q = k := by omega
      rw [e] at h2
      exact absurd h2 (Int.lt_irrefl _)

/-- Two neighbours that change places. -/
theorem rsum_below {d : Array CaseD} {a b : Array Int} : ∀ k, (∀ j, j < k → a[j]! = b[j]!) → rsum d a k = rsum d b k
  | 0, _ => rfl
  | k + 1, h => by
    simp only [rsum, caseAt]
    rw [rsum_below k fun j hj => h j (by omega), h k (by omega)]
theorem rsum_swp {d : Array CaseD} {a b : Array Int} {k : Nat} (h : ∀ j, j ≠ k → j ≠ k + 1 → a[j]! = b[j]!) (h1 : a[k]! = b[k + 1]!) (h2 : a[k + 1]! = b[k]!) : ∀ m, k + 2 ≤ m → rsum d a m = rsum d b m := by
  intro m
  induction m with
  | zero => intro hm; omega
  | succ m ih =>
    intro hm
    rcases Nat.lt_or_ge (k + 1) m with h3 | h3
    · simp only [rsum, caseAt]
      rw [ih (by omega), h m (by omega) (by omega)]
    · obtain rfl : m = k + 1 := by omega
      simp only [rsum, caseAt]
      rw [rsum_below k fun j hj => h j (by omega) (by omega), h1, h2]
      omega
theorem sumF_congr {f g : Nat → Int} : ∀ k, (∀ j, j < k → f j = g j) → sumF f k = sumF g k
  | 0, _ => rfl
  | k + 1, h => by simp only [sumF]; rw [sumF_congr k fun j hj => h j (by omega), h k (by omega)]
theorem cost_swp {d : Array CaseD} {rest : Int} {a b : Array Int} {k n : Nat} (ha : a.size = n) (hb : b.size = n) (hk : k + 1 < n) (h : ∀ j, j ≠ k → j ≠ k + 1 → a[j]! = b[j]!) (h1 : a[k]! = b[k + 1]!) (h2 : a[k + 1]! = b[k]!) :
    costN d rest a - costN d rest b = (caseAt d b k).weight * tcost (caseAt d b (k + 1)) - (caseAt d b (k + 1)).weight * tcost (caseAt d b k) := by
  have hb0 := rsum_below (d := d) (a := a) (b := b) k fun j hj => h j (by omega) (by omega)
  have hx : ∀ m, k + 2 ≤ m → sumF (placeC d a) m - sumF (placeC d b) m = (caseAt d b k).weight * tcost (caseAt d b (k + 1)) - (caseAt d b (k + 1)).weight * tcost (caseAt d b k) := by
    intro m
    induction m with
    | zero => intro hm; omega
    | succ m ih =>
      intro hm
      rcases Nat.lt_or_ge (k + 1) m with h3 | h3
      · have hi := ih (by omega)
        have e : placeC d a m = placeC d b m := by
          simp only [placeC, caseAt]
          rw [rsum_swp h h1 h2 (m + 1) (by omega), h m (by omega) (by omega)]
        simp only [sumF]
        rw [e]
        omega
      · obtain rfl : m = k + 1 := by omega
        have e0 : sumF (placeC d a) k = sumF (placeC d b) k := sumF_congr k fun j hj => by
          simp only [placeC, caseAt]
          rw [rsum_below (j + 1) fun q hq => h q (by omega) (by omega), h j (by omega) (by omega)]
        have c1 : caseAt d a k = caseAt d b (k + 1) := by simp only [caseAt]; rw [h1]
        have c2 : caseAt d a (k + 1) = caseAt d b k := by simp only [caseAt]; rw [h2]
        simp only [sumF, placeC, rsum, e0, hb0, c1, c2, Int.mul_add]
        omega
  have hy := hx n (by omega)
  unfold costN
  rw [ha, hb, rsum_swp h h1 h2 n (by omega)]
  omega
end Go.Proofs.YthchhgjnelkmhaaDoor
