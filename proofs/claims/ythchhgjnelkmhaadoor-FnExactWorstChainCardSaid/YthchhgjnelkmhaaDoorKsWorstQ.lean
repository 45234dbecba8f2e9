/- Plain: the first of the orders with the greatest cost is the stable sort by weights for each unit of cost. -/
import Derived.Test.YthchhgjnelkmhaaDoorKsWorstP
namespace Go.Proofs.YthchhgjnelkmhaaDoor
open Go.RowKit Go.Shelf Go.Lib Go.Sort

/-- Weights for each unit of cost, by multiplying; alike: the index. -/
def ahead (d : Array CaseD) (i j : Int) : Prop :=
  d[i.toNat]!.weight * tcost d[j.toNat]! < d[j.toNat]!.weight * tcost d[i.toNat]! ∨ (d[i.toNat]!.weight * tcost d[j.toNat]! = d[j.toNat]!.weight * tcost d[i.toNat]! ∧ i < j)
theorem ahead_asymm {d : Array CaseD} {i j : Int} (h : ahead d i j) (h2 : ahead d j i) : False := by
  unfold ahead at h h2
  omega
theorem ahead_trans {d : Array CaseD} {i j k : Int} (h : ahead d i j) (h2 : ahead d j k) : ahead d i k := by
  unfold ahead at *
  have bi := tcost_bounds d[i.toNat]!
  have bj := tcost_bounds d[j.toNat]!
  have bk := tcost_bounds d[k.toNat]!
  generalize d[i.toNat]!.weight = wi at *
  generalize d[j.toNat]!.weight = wj at *
  generalize d[k.toNat]!.weight = wk at *
  generalize tcost d[i.toNat]! = ti at *
  generalize tcost d[j.toNat]! = tj at *
  generalize tcost d[k.toNat]! = tk at *
  have ei : ti = 1 ∨ ti = 2 := by omega
  have ej : tj = 1 ∨ tj = 2 := by omega
  have ek : tk = 1 ∨ tk = 2 := by omega
  rcases ei with rfl | rfl <;> rcases ej with rfl | rfl <;> rcases ek with rfl | rfl <;> omega

theorem ord_swp {n : Nat} {o : Array Int} (h : OrdOK n o) {p q : Nat} (hp : p < n) (hq : q < n) (hne : p ≠ q) : OrdOK n (swp o p q) := by
  have hs := h.1
  refine ⟨by rw [swp_size, hs], ?_⟩
  rw [swp_size, hs]
  have hr : ∀ j, j < n → 0 ≤ o[j]! ∧ o[j]! < n := fun j hj => (h.2 j (by omega)).1
  intro j hj
  refine ⟨?_, fun i hi e => ?_⟩
  · rw [swp_get (by omega) (by omega) hne]
    split
    · exact hr p hp
    · split
      · exact hr q hq
      · exact hr j hj
  · rw [swp_get (by omega) (by omega) hne, swp_get (by omega) (by omega) hne] at e
    by_cases i1 : i = q
    · by_cases j1 : j = q
      · omega
      · rw [if_pos i1, if_neg j1] at e
        by_cases j2 : j = p
        · rw [if_pos j2] at e
          exact hne (ord_inj h hp hq e)
        · rw [if_neg j2] at e
          exact j2 (ord_inj h hp hj e).symm
    · rw [if_neg i1] at e
      by_cases i2 : i = p
      · rw [if_pos i2] at e
        by_cases j1 : j = q
        · rw [if_pos j1] at e
          exact hne (ord_inj h hq hp e).symm
        · rw [if_neg j1] at e
          by_cases j2 : j = p
          · omega
          · rw [if_neg j2] at e
            exact j1 (ord_inj h hq hj e).symm
      · rw [if_neg i2] at e
        by_cases j1 : j = q
        · rw [if_pos j1] at e
          exact i2 (ord_inj h (by omega) hp e)
        · rw [if_neg j1] at e
          by_cases j2 : j = p
          · rw [if_pos j2] at e
            exact i1 (ord_inj h (by omega) hq e)
          · rw [if_neg j2] at e
            have := ord_inj h (by omega) hj e
            omega

/-- Greatest cost, and the first of those. -/
def WorstOf (d : Array CaseD) (rest : Int) (s : Array Int) : Prop := ∀ p, OrdOK d.size p → costN d rest p < costN d rest s ∨ (costN d rest p = costN d rest s ∧ (s = p ∨ lexLt d.size s p))
theorem worst_ahead {d : Array CaseD} {rest : Int} {s : Array Int} (hs : OrdOK d.size s) (hw : WorstOf d rest s) {k : Nat} (hk : k + 1 < d.size) : ahead d s[k]! s[k + 1]! := by
  have hz := hs.1
  have hg := fun j => swp_get (d := s) (p := k + 1) (q := k) (by omega) (by omega) (by omega) j
  have hz2 : (swp s (k + 1) k).size = d.size := by rw [swp_size, hz]
  have h0 : ∀ j, j ≠ k → j ≠ k + 1 → (swp s (k + 1) k)[j]! = s[j]! := fun j h1 h2 => by rw [hg j, if_neg h1, if_neg h2]
  have h1 : (swp s (k + 1) k)[k]! = s[k + 1]! := by rw [hg k, if_pos rfl]
  have h2 : (swp s (k + 1) k)[k + 1]! = s[k]! := by rw [hg (k + 1), if_neg (by omega), if_pos rfl]
  have hc := cost_swp (d := d) (rest := rest) hz2 hz hk h0 h1 h2
  have hne : s[k]! ≠ s[k + 1]! := fun e => by
    have := ord_inj hs (by omega) hk e
    omega
  have ho := hw _ (ord_swp hs hk (by omega : k < d.size) (by omega))
  unfold ahead
  simp only [caseAt] at hc
  generalize d[(s[k]!).toNat]!.weight * tcost d[(s[k + 1]!).toNat]! = A at hc ⊢
  generalize d[(s[k + 1]!).toNat]!.weight * tcost d[(s[k]!).toNat]! = B at hc ⊢
  generalize costN d rest (swp s (k + 1) k) = C at hc ho
  generalize costN d rest s = D at hc ho
  rcases ho with h | ⟨h, h3⟩
  · left
    omega
  · right
    refine ⟨by omega, ?_⟩
    rcases h3 with h3 | h3
    · exact absurd ((congrArg (fun x : Array Int => x[k]!) h3).trans h1) hne
    · rcases Int.lt_trichotomy s[k]! s[k + 1]! with h4 | h4 | h4
      · exact h4
      · exact absurd h4 hne
      · exact absurd ⟨k, by omega, fun j hj => h0 j (by omega) (by omega), by rw [h1]; exact h4⟩ (fun hl => lexLt_asymm h3 hl)
theorem ahead_all {d : Array CaseD} {s : Array Int} {n : Nat} (h : ∀ k, k + 1 < n → ahead d s[k]! s[k + 1]!) : ∀ j i, i < j → j < n → ahead d s[i]! s[j]! := by
  intro j
  induction j with
  | zero => intro i hi; exact absurd hi (Nat.not_lt_zero i)
  | succ j ih =>
    intro i hi hj
    rcases Nat.lt_or_ge i j with h1 | h1
    · exact ahead_trans (ih i h1 (by omega)) (h j hj)
    · obtain rfl : i = j := by omega
      exact h i hj
theorem ahead_one {d : Array CaseD} {n : Nat} {a b : Array Int} (ha : OrdOK n a) (hb : OrdOK n b) (h1 : ∀ j i, i < j → j < n → ahead d a[i]! a[j]!) (h2 : ∀ j i, i < j → j < n → ahead d b[i]! b[j]!) : a = b := by
  rcases first_diff ha.1 hb.1 with h | ⟨k, hk, he, hne⟩
  · exact h
  · obtain ⟨q, hq, hqn, e⟩ := tail_idx ha hb (fun j hj => (he j hj).symm) (Nat.le_refl k) hk
    obtain ⟨q', hq', hqn', e'⟩ := tail_idx hb ha he (Nat.le_refl k) hk
    have x1 : k < q := by
      rcases Nat.lt_or_ge k q with h4 | h4
      · exact h4
      · obtain rfl : q = k := by omega
        exact absurd e hne
    have x2 : k < q' := by
      rcases Nat.lt_or_ge k q' with h4 | h4
      · exact h4
      · obtain rfl : q' = k := by omega
        exact absurd e'.symm hne
    have y1 := h1 q k x1 hqn
    have y2 := h2 q' k x2 hqn'
    rw [e] at y1
    rw [e'] at y2
    exact (ahead_asymm y1 y2).elim

/-- The sort of the model. -/
def slow (d : Array CaseD) (x y : Int) : Bool := decide (d[x.toNat]!.weight * tcost d[y.toNat]! < d[y.toNat]!.weight * tcost d[x.toNat]!)
theorem posA_above {lt : Int → Int → Bool} {A : Array Int} {i : Nat} : ∀ k q, posA lt A i k ≤ q → q < k → lt A[i]! A[q]! = true
  | 0, q, _, h => absurd h (Nat.not_lt_zero q)
  | k + 1, q, h1, h2 => by
    unfold posA at h1
    split at h1
    case isTrue h =>
      rcases Nat.lt_or_ge q k with h3 | h3
      · exact posA_above k q h1 h3
      · obtain rfl : q = k := by omega
        exact h
    case isFalse h => omega
theorem posA_below {lt : Int → Int → Bool} {A : Array Int} {i : Nat} : ∀ k, 0 < posA lt A i k → lt A[i]! A[posA lt A i k - 1]! = false
  | 0, h => absurd h (Nat.lt_irrefl 0)
  | k + 1, h => by
    unfold posA at h ⊢
    split at h
    case isTrue h1 => rw [if_pos h1]; exact posA_below k h
    case isFalse h1 => rw [if_neg h1, Nat.add_sub_cancel]; simpa using h1
theorem bestTo_small (lt : Int → Int → Bool) (n : Nat) : ∀ i, i ≤ n → ∀ j, j < i → (bestTo lt n i)[j]! < (i : Int)
  | 0, _, j, hj => absurd hj (Nat.not_lt_zero j)
  | i + 1, hi, j, hj => by
    have ih := bestTo_small lt n i (by omega)
    have hr := bestTo_rest lt n i i (Nat.le_refl i) (by omega)
    rw [bestTo, moved_get (by rw [bestTo_size]; omega)]
    have hp := posA_le lt (bestTo lt n i) i i
    split
    · have := ih j (by omega); omega
    · split
      · rw [hr]; omega
      · split
        · have := ih (j - 1) (by omega); omega
        · omega
theorem bestTo_ahead {d : Array CaseD} {n : Nat} : ∀ i, i ≤ n → ∀ b a, a < b → b < i → ahead d (bestTo (slow d) n i)[a]! (bestTo (slow d) n i)[b]!
  | 0, _, b, _, _, hb => absurd hb (Nat.not_lt_zero b)
  | i + 1, hi, b, a, hab, hb => by
    have ih := bestTo_ahead (d := d) i (by omega : i ≤ n)
    have hr := bestTo_rest (slow d) n i i (Nat.le_refl i) (by omega)
    have hsm := bestTo_small (slow d) n i (by omega)
    have hp := posA_le (slow d) (bestTo (slow d) n i) i i
    have hab' := posA_above (lt := slow d) (A := bestTo (slow d) n i) (i := i) i
    have hbe := posA_below (lt := slow d) (A := bestTo (slow d) n i) (i := i) i
    have hsz := bestTo_size (slow d) n i
    rw [bestTo, moved_get (by rw [hsz]; omega), moved_get (by rw [hsz]; omega)]
    generalize posA (slow d) (bestTo (slow d) n i) i i = p at hp hab' hbe ⊢
    generalize bestTo (slow d) n i = A at *
    rw [hr] at hab' hbe ⊢
    have hlow : ∀ a, a < p → ahead d A[a]! (i : Int) := fun a ha => by
      have h1 := hbe (by omega)
      have h2 : ahead d A[p - 1]! (i : Int) := by
        have h3 := hsm (p - 1) (by omega)
        simp only [slow, decide_eq_false_iff_not] at h1
        unfold ahead
        omega
      rcases Nat.lt_or_ge a (p - 1) with h4 | h4
      · exact ahead_trans (ih (p - 1) a h4 (by omega)) h2
      · obtain rfl : a = p - 1 := by omega
        exact h2
    have hhigh : ∀ q, p ≤ q → q < i → ahead d (i : Int) A[q]! := fun q h1 h2 => by
      have h3 := hab' q h1 h2
      simp only [slow, decide_eq_true_eq] at h3
      exact .inl h3
    rcases Nat.lt_trichotomy b p with h1 | h1 | h1
    · rw [if_pos (by omega), if_pos h1]
      exact ih b a hab (by omega)
    · rw [if_pos (by omega), if_neg (by omega), if_pos h1]
      exact hlow a (by omega)
    · rw [if_neg (by omega : ¬ b < p), if_neg (by omega : ¬ b = p), if_pos (by omega : b ≤ i)]
      rcases Nat.lt_trichotomy a p with h2 | h2 | h2
      · rw [if_pos h2]
        exact ih (b - 1) a (by omega) (by omega)
      · rw [if_neg (by omega), if_pos h2]
        exact hhigh (b - 1) (by omega) (by omega)
      · rw [if_neg (by omega), if_neg (by omega), if_pos (by omega)]
        exact ih (b - 1) (a - 1) (by omega) (by omega)
theorem moved_ord {n i : Nat} {A : Array Int} (h : OrdOK n A) (hi : i < n) : ∀ m, m ≤ i → OrdOK n (moved A i (i - m))
  | 0, _ => by
    rw [Nat.sub_zero, moved_self]
    exact h
  | m + 1, hm => by
    have ih := moved_ord h hi m (by omega)
    have e := moved_swp (A := A) (i := i) (k := i - (m + 1)) (by rw [h.1]; exact hi) (by omega)
    rw [show i - (m + 1) + 1 = i - m by omega] at e
    rw [← e]
    exact ord_swp ih (by omega) (by omega) (by omega)
theorem upTo_ord (n : Nat) : OrdOK n (upTo n) := by
  refine ⟨upTo_size n, fun j hj => ?_⟩
  rw [upTo_size] at hj
  refine ⟨by rw [upTo_get hj]; omega, fun i hi => ?_⟩
  rw [upTo_get hj, upTo_get (by omega)]
  omega
theorem bestTo_ord (lt : Int → Int → Bool) (n : Nat) : ∀ i, i ≤ n → OrdOK n (bestTo lt n i)
  | 0, _ => upTo_ord n
  | i + 1, hi => by
    have hp := posA_le lt (bestTo lt n i) i i
    have h := moved_ord (bestTo_ord lt n i (by omega)) (by omega : i < n) (i - posA lt (bestTo lt n i) i i) (by omega)
    rw [show i - (i - posA lt (bestTo lt n i) i i) = posA lt (bestTo lt n i) i i by omega] at h
    exact h
/-- The first of the orders with the greatest cost: the model's. -/
theorem worst_is {d : Array CaseD} {rest : Int} {s : Array Int} (hs : OrdOK d.size s) (hw : WorstOf d rest s) : s = bestTo (slow d) d.size d.size :=
  ahead_one hs (bestTo_ord _ _ _ (Nat.le_refl _)) (ahead_all fun _ hk => worst_ahead hs hw hk) (bestTo_ahead d.size (Nat.le_refl _))
end Go.Proofs.YthchhgjnelkmhaaDoor
