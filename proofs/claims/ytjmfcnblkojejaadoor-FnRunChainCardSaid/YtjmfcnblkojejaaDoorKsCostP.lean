
/- Plain: what an order costs, by its places and by its cases. -/
import Derived.Test.YtjmfcnblkojejaaDoorKsReachD
namespace Go.Proofs.YtjmfcnblkojejaaDoor
open Go.RowKit Go.Shelf Go.Lib Go.Sort

def sumL (l : List Int) : Int := l.foldr (· + ·) 0
theorem sumL_append (a b : List Int) : sumL (a ++ b) = sumL a + sumL b := by
  induction a with
  | nil => simp [sumL]
  | cons x a ih => simp only [sumL, List.cons_append, List.foldr_cons] at ih ⊢; omega
theorem sumL_perm {a b : List Int} (h : a.Perm b) : sumL a = sumL b := by
  induction h with
  | nil => rfl
  | cons x _ ih => simp only [sumL, List.foldr_cons] at ih ⊢; omega
  | swap x y l => simp only [sumL, List.foldr_cons]; omega
  | trans _ _ h1 h2 => exact h1.trans h2
def sumF (f : Nat → Int) : Nat → Int
  | 0 => 0
  | k + 1 => sumF f k + f k
theorem sumF_list (f : Nat → Int) : ∀ k, sumL ((List.range k).map f) = sumF f k
  | 0 => rfl
  | k + 1 => by
    rw [List.range_succ, List.map_append, sumL_append, sumF_list f k]
    simp [sumL, sumF]
theorem sumF_le {f : Nat → Int} {n : Nat} {c : Int} (hc : 0 ≤ c) (h : ∀ j, j < n → 0 ≤ f j ∧ f j ≤ c) : ∀ k, k ≤ n → 0 ≤ sumF f k ∧ sumF f k ≤ c * (k : Int)
  | 0, _ => by simp [sumF]
  | k + 1, hk => by
    have h1 := sumF_le hc h k (by omega)
    have h2 := h k (by omega)
    simp only [sumF, Int.natCast_add, Int.natCast_one, Int.mul_add, Int.mul_one]
    omega
theorem range_toList (o : Array Int) : o.toList = (List.range o.size).map fun j => o[j]! := by
  refine List.ext_getElem (by simp) fun j h1 h2 => ?_
  have : j < o.size := by simpa using h1
  simp [this]
/-- What the case at the j-th place of the order costs; what the i-th case costs. -/
def placeC (d : Array CaseD) (o : Array Int) (j : Nat) : Int := (caseAt d o j).weight * rsum d o (j + 1)
def caseC (d : Array CaseD) (o : Array Int) (i : Nat) : Int := d[i]!.weight * (reachA d o)[i]!
theorem cost_cases {d : Array CaseD} {o : Array Int} (h : OrdOK d.size o) : sumF (caseC d o) d.size = sumF (placeC d o) o.size := by
  have hp := (ord_perm h).map fun i : Int => d[i.toNat]!.weight * (reachA d o)[i.toNat]!
  have hs := sumL_perm hp
  have e1 : (upTo d.size).toList.map (fun i : Int => d[i.toNat]!.weight * (reachA d o)[i.toNat]!) = (List.range d.size).map (caseC d o) := by
    simp only [upTo, List.map_map]
    rfl
  have e2 : o.toList.map (fun i : Int => d[i.toNat]!.weight * (reachA d o)[i.toNat]!) = (List.range o.size).map (placeC d o) := by
    rw [range_toList, List.map_map]
    refine List.map_congr_left fun j hj => ?_
    have hj' : j < o.size := List.mem_range.1 hj
    simp only [Function.comp, placeC, caseAt]
    rw [reachA_get h hj']
  rw [e1, e2, sumF_list, sumF_list] at hs
  exact hs.symm
/-- The whole cost. -/
def costN (d : Array CaseD) (rest : Int) (o : Array Int) : Int := sumF (placeC d o) o.size + rest * rsum d o o.size
theorem mul_le16 {a b : Int} (h1 : 0 ≤ a) (h2 : a ≤ 99) (h3 : 0 ≤ b) (h4 : b ≤ 16) : 0 ≤ a * b ∧ a * b ≤ 1584 := by
  refine ⟨Int.mul_nonneg h1 h3, ?_⟩
  have : a * b ≤ 99 * 16 := Int.mul_le_mul h2 h4 h3 (by omega)
  omega
theorem placeC_le {d : Array CaseD} {rest : Int} {o : Array Int} (hok : SwOK d rest) (h : OrdOK d.size o) : ∀ j, j < o.size → 0 ≤ placeC d o j ∧ placeC d o j ≤ 1584 := fun j hj => by
  obtain ⟨t, ht, htn⟩ := h.idx hj
  have hc := caseB_weight (hok.case t htn)
  have hr := rsum_bounds d o (j + 1)
  have h8 : o.size ≤ 8 := by rw [h.1]; exact hok.size
  have e : (caseAt d o j).weight = d[t]!.weight := by rw [caseAt, ht, Int.toNat_natCast]
  unfold placeC
  rw [e]
  exact mul_le16 hc.1 hc.2 (by omega) (by omega)
theorem rest_wgt {d : Array CaseD} {rest : Int} (h : SwOK d rest) : 0 ≤ rest ∧ rest ≤ 99 := by have := h.rest; simp [wgtB] at this; exact this
theorem rest_le {d : Array CaseD} {rest : Int} {o : Array Int} (hok : SwOK d rest) (h : OrdOK d.size o) : 0 ≤ rest * rsum d o o.size ∧ rest * rsum d o o.size ≤ 1584 := by
  have hr := rsum_bounds d o o.size
  have h8 : o.size ≤ 8 := by rw [h.1]; exact hok.size
  have hw := rest_wgt hok
  exact mul_le16 hw.1 hw.2 (by omega) (by omega)
theorem costN_le {d : Array CaseD} {rest : Int} {o : Array Int} (hok : SwOK d rest) (h : OrdOK d.size o) : 0 ≤ costN d rest o ∧ costN d rest o ≤ 14256 := by
  have h1 := sumF_le (by omega) (placeC_le hok h) o.size (Nat.le_refl _)
  have h2 := rest_le hok h
  have h8 : o.size ≤ 8 := by rw [h.1]; exact hok.size
  unfold costN
  omega

/-! by what an iterator hands over -/
def sumR (d : Array CaseD) (l : List (Int × Int)) : Int := sumL (l.map fun p => d[p.1.toNat]!.weight * p.2)
def lastR (l : List (Int × Int)) : Int := (l.getLast?.map (·.2)).getD 0
theorem sumR_snoc (d : Array CaseD) (l : List (Int × Int)) (p : Int × Int) : sumR d (l ++ [p]) = sumR d l + d[p.1.toNat]!.weight * p.2 := by
  unfold sumR
  rw [List.map_append, sumL_append]
  simp [sumL]
theorem lastR_snoc (l : List (Int × Int)) (p : Int × Int) : lastR (l ++ [p]) = p.2 := by simp [lastR]
theorem sumR_reach (d : Array CaseD) (o : Array Int) (k : Nat) : sumR d (reachL d o k) = sumF (placeC d o) k := by
  unfold sumR reachL
  rw [List.map_map, ← sumF_list]
  rfl
theorem lastR_reach (d : Array CaseD) (o : Array Int) : ∀ k, lastR (reachL d o k) = rsum d o k
  | 0 => rfl
  | k + 1 => by rw [reachL_succ, lastR_snoc]
theorem sumR_le {d : Array CaseD} {rest : Int} (hok : SwOK d rest) (l : List (ReD d.size)) : 0 ≤ sumR d (valR l) ∧ sumR d (valR l) ≤ 1584 * (l.length : Int) := by
  induction l with
  | nil => simp [sumR, valR, sumL]
  | cons x l ih =>
    have e : sumR d (valR (x :: l)) = d[x.1.1.toNat]!.weight * x.1.2 + sumR d (valR l) := rfl
    rw [e, List.length_cons]
    obtain ⟨⟨i, r⟩, ⟨h1, h2⟩, h3, h4⟩ := x
    simp only at h1 h2 h3 h4 ⊢
    have hw := caseB_weight (hok.case i.toNat (by omega))
    have := mul_le16 hw.1 hw.2 h3 h4
    omega
end Go.Proofs.YtjmfcnblkojejaaDoor
