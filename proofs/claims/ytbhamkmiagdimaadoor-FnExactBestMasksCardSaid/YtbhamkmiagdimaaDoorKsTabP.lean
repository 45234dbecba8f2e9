
/- The row of all keys' targets, plain: what filling it segment by segment makes of it; tables; how many keys of a range have a case. No walk. -/
import Derived.Test.YtbhamkmiagdimaaDoorKsSegP
import Derived.Test.YtbhamkmiagdimaaDoorKsKeyP
import Derived.Test.YtbhamkmiagdimaaDoorKsRowP
namespace Go.Proofs.YtbhamkmiagdimaaDoor
open Go.RowKit Go.Shelf Go.Lib Go.Sort

/-- A row behind one segment. -/
def fillR (f : Nat → Int) (c : CaseD) : Nat → Int := fun i => if c.low ≤ (i : Int) ∧ (i : Int) ≤ c.high then tg0 c.target else f i
def fillL (l : List CaseD) : Nat → Int := l.foldl fillR (fun _ => 0)
theorem fillL_snoc (l : List CaseD) (c : CaseD) : fillL (l ++ [c]) = fillR (fillL l) c := by simp [fillL]
theorem fillL_hit (i : Nat) (z : Int) : ∀ (l : List CaseD) (f : Nat → Int), (∀ c ∈ l, (c.low ≤ (i : Int) ∧ (i : Int) ≤ c.high) → tg0 c.target = z) → (f i = z ∨ ∃ c ∈ l, c.low ≤ (i : Int) ∧ (i : Int) ≤ c.high) → l.foldl fillR f i = z
  | [], f, _, h2 => by
    rcases h2 with h | ⟨c, hc, _⟩
    · exact h
    · cases hc
  | c :: l, f, h1, h2 => by
    refine fillL_hit i z l (fillR f c) (fun x hx => h1 x (List.mem_cons_of_mem _ hx)) ?_
    by_cases hc : c.low ≤ (i : Int) ∧ (i : Int) ≤ c.high
    · exact .inl (by rw [fillR, if_pos hc]; exact h1 c (List.mem_cons_self ..) hc)
    · rcases h2 with h | ⟨x, hx, hh⟩
      · exact .inl (by rw [fillR, if_neg hc]; exact h)
      · rcases List.mem_cons.1 hx with e | e
        · subst e; exact absurd hh hc
        · exact .inr ⟨x, e, hh⟩
theorem cont_has (i : Int) : ∀ (l : List CaseD) (a : Int), contL a l → a ≤ i → i < endL a l → ∃ c ∈ l, c.low ≤ i ∧ i ≤ c.high
  | [], a, _, h1, h2 => by simp only [endL] at h2; omega
  | c :: l, a, h0, h1, h2 => by
    by_cases h : i ≤ c.high
    · exact ⟨c, List.mem_cons_self .., by have := h0.1; omega, h⟩
    · obtain ⟨x, hx, hh⟩ := cont_has i l (c.high + 1) h0.2.2 (by omega) h2
      exact ⟨x, List.mem_cons_of_mem _ hx, hh⟩
theorem fill_go {d : Array CaseD} {rest : Int} (h : SwOK d rest) {i : Nat} (hi : i < 32) : fillL (segs d rest) i = goB d i := by
  refine fillL_hit i _ _ _ (fun c hc hh => ?_) (.inr ?_)
  · rw [goB, segs_target h c hc (by simpa [hasB] using hh)]
  · have := segs_cont h
    exact cont_has (i : Int) _ 0 this.1 (by omega) (by rw [this.2]; omega)

/-- The table of n keys from low on. -/
def tabL (d : Array CaseD) (lo n : Nat) : List UInt8 := (List.range n).map fun i => UInt8.ofNat (goB d (lo + i)).toNat
def tabS (d : Array CaseD) (lo n : Nat) : ByteArray := ⟨(tabL d lo n).toArray⟩
theorem tabS_zero (d : Array CaseD) (lo : Nat) : tabS d lo 0 = ⟨#[]⟩ := rfl
theorem tabS_succ {d : Array CaseD} {rest : Int} (h : SwOK d rest) (lo n : Nat) : tabS d lo (n + 1) = tabS d lo n ++ goesN d ((lo + n : Nat) : Int) := by
  rw [goesN_byte h]
  apply ByteArray.ext
  rw [ByteArray.data_append]
  simp [tabS, tabL, List.range_succ]
theorem tabS_size (d : Array CaseD) (lo n : Nat) : (tabS d lo n).size = n := by
  show (tabL d lo n).toArray.size = n
  simp [tabL]

def rangeB (lo hi : Int) : Bool := keyB lo && keyB hi && decide (lo ≤ hi)
theorem rangeB_iff (lo hi : Int) : rangeB lo hi = true ↔ 0 ≤ lo ∧ lo ≤ hi ∧ hi ≤ 31 := by
  simp only [rangeB, keyB, Bool.and_eq_true, decide_eq_true_eq]
  omega
noncomputable def tabB (d : Array CaseD) (rest lo hi : Int) : Bool := swB d rest && rangeB lo hi
noncomputable def tabN (d : Array CaseD) (rest lo hi : Int) : ByteArray := if tabB d rest lo hi = true then tabS d lo.toNat (hi - lo + 1).toNat else ⟨#[]⟩

/-! how many keys of a range have a case -/
theorem cntK_add (p : Nat → Bool) (a : Nat) : ∀ n, cntK p (a + n) = cntK p a + cntK (fun i => p (a + i)) n
  | 0 => by simp [cntK]
  | n + 1 => by
    have ih := cntK_add p a n
    have e : a + (n + 1) = (a + n) + 1 := by omega
    rw [e]
    simp only [cntK]
    rw [ih]
    omega
theorem tgt_cov {d : Array CaseD} {rest : Int} (h : SwOK d rest) (i : Nat) : tgtB (goB d i) = covB d i := by
  unfold covB
  rcases atN_cases d (i : Int) with ⟨k, h1, h2, _, _⟩ | ⟨h1, _⟩
  · rw [goB_hit h2, h2]
    have hl : 97 ≤ tgJ d k ∧ tgJ d k ≤ 104 := caseB_letter (h.case k h1)
    generalize tgJ d k = z at hl ⊢
    have e1 : tgtB z = true := by simp only [tgtB, decide_eq_true_eq]; exact hl
    have e2 : decide (0 ≤ (k : Int)) = true := by simp
    rw [e1, e2]
  · rw [goB_miss h1, h1]
    rfl
/-- Of n keys from lo on, how many of a hundred have a case. -/
def densZ (d : Array CaseD) (lo n : Nat) : Int := 100 * cntK (fun i => covB d (lo + i)) n / n
theorem cntK_diff (d : Array CaseD) (lo n : Nat) : cntK (covB d) (lo + n) - cntK (covB d) lo = cntK (fun i => covB d (lo + i)) n := by
  have := cntK_add (covB d) lo n
  omega
noncomputable def densN (d : Array CaseD) (rest lo hi : Int) : Int := if tabB d rest lo hi = true then densZ d lo.toNat (hi - lo + 1).toNat else -1
theorem densZ_bound (d : Array CaseD) (lo n : Nat) : 0 ≤ densZ d lo n ∧ densZ d lo n ≤ 100 := by
  have h := cntK_le (fun i => covB d (lo + i)) n
  unfold densZ
  by_cases hn : n = 0
  · subst hn; simp
  · constructor
    · exact Int.ediv_nonneg (by omega) (by omega)
    · have hp : (0 : Int) < (n : Int) := by omega
      have := Int.ediv_le_ediv hp (show 100 * cntK (fun i => covB d (lo + i)) n ≤ 100 * (n : Int) by omega)
      rw [Int.mul_ediv_cancel _ (by omega)] at this
      exact this
end Go.Proofs.YtbhamkmiagdimaaDoor
