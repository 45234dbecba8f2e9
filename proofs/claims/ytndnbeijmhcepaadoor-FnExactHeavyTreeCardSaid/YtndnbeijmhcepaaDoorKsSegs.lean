
/- The segments of a switch: the list, plain; how many gaps there are, and that all keys have a case just where there is none. No walk. -/
import Derived.Test.YtndnbeijmhcepaaDoorKsGoes
namespace Go.Proofs.YtndnbeijmhcepaaDoor
open Go.RowKit Go.Shelf Go.Lib Go.Sort

def gapC (rest a b : Int) : CaseD := ⟨a, b, zS, rest⟩
/-- The first key behind the first k cases. -/
def nextTo (d : Array CaseD) : Nat → Int
  | 0 => 0
  | k + 1 => d[k]!.high + 1
/-- The segments up to the end of the first k cases. -/
def segTo (d : Array CaseD) (rest : Int) : Nat → List CaseD
  | 0 => []
  | k + 1 => segTo d rest k ++ (if nextTo d k < d[k]!.low then [gapC rest (nextTo d k) (d[k]!.low - 1)] else []) ++ [d[k]!]
def segs (d : Array CaseD) (rest : Int) : List CaseD :=
  segTo d rest d.size ++ (if nextTo d d.size ≤ 31 then [gapC rest (nextTo d d.size) 31] else [])

/-- What every segment of a valid switch is. -/
def okB (c : CaseD) : Bool := decide (0 ≤ c.low ∧ c.low ≤ c.high ∧ c.high ≤ 31 ∧ 0 ≤ c.weight ∧ c.weight ≤ 99 ∧ c.target.size = 1)
theorem okB_iff (c : CaseD) : okB c = true ↔ (0 ≤ c.low ∧ c.low ≤ c.high ∧ c.high ≤ 31 ∧ 0 ≤ c.weight ∧ c.weight ≤ 99 ∧ c.target.size = 1) := by simp [okB]
theorem okB_of_case {c : CaseD} (h : caseB c = true) : okB c = true := by
  have h1 := caseB_low h
  have h2 := caseB_high h
  have h3 := caseB_le h
  have h4 := caseB_weight h
  have h5 : c.target.size = 1 := by simp [caseB, oneB] at h; exact h.1.1.1.1.1
  rw [okB_iff]
  omega
theorem nextTo_bounds {d : Array CaseD} {rest : Int} (h : SwOK d rest) : ∀ k, k ≤ d.size → 0 ≤ nextTo d k ∧ nextTo d k ≤ 32
  | 0, _ => by simp [nextTo]
  | k + 1, hk => by
    have := caseB_high (h.case k (by omega))
    simp only [nextTo]
    omega
theorem nextTo_le {d : Array CaseD} {rest : Int} (h : SwOK d rest) : ∀ k, k < d.size → nextTo d k ≤ d[k]!.low
  | 0, hk => by have := caseB_low (h.case 0 hk); simp only [nextTo]; omega
  | k + 1, hk => by have := h.next k hk; simp only [nextTo]; omega
theorem rest_bounds {d : Array CaseD} {rest : Int} (h : SwOK d rest) : 0 ≤ rest ∧ rest ≤ 99 := by have := h.rest; simpa [wgtB] using this
theorem gap_ok {rest a b : Int} (h0 : 0 ≤ a) (h1 : a ≤ b) (h2 : b ≤ 31) (h3 : 0 ≤ rest) (h4 : rest ≤ 99) : okB (gapC rest a b) = true := by
  rw [okB_iff]; exact ⟨h0, h1, h2, h3, h4, rfl⟩
theorem segTo_ok {d : Array CaseD} {rest : Int} (h : SwOK d rest) : ∀ k, k ≤ d.size → ∀ c ∈ segTo d rest k, okB c = true
  | 0, _, c, hc => by simp [segTo] at hc
  | k + 1, hk, c, hc => by
    have hr := rest_bounds h
    have hn := nextTo_bounds h k (by omega)
    have hl := caseB_low (h.case k (by omega))
    simp only [segTo, List.mem_append, List.mem_singleton] at hc
    rcases hc with (hc | hc) | hc
    · exact segTo_ok h k (by omega) c hc
    · split at hc
      · simp only [List.mem_singleton] at hc
        subst hc
        exact gap_ok hn.1 (by omega) (by omega) hr.1 hr.2
      · simp at hc
    · subst hc
      exact okB_of_case (h.case k (by omega))
theorem segs_ok {d : Array CaseD} {rest : Int} (h : SwOK d rest) : ∀ c ∈ segs d rest, okB c = true := fun c hc => by
  have hr := rest_bounds h
  have hn := nextTo_bounds h d.size (Nat.le_refl _)
  simp only [segs, List.mem_append] at hc
  rcases hc with hc | hc
  · exact segTo_ok h d.size (Nat.le_refl _) c hc
  · split at hc
    · simp only [List.mem_singleton] at hc
      subst hc
      exact gap_ok hn.1 (by omega) (by omega) hr.1 hr.2
    · simp at hc
theorem segTo_length (d : Array CaseD) (rest : Int) : ∀ k, k ≤ (segTo d rest k).length ∧ (segTo d rest k).length ≤ 2 * k
  | 0 => by simp [segTo]
  | k + 1 => by
    have := segTo_length d rest k
    simp only [segTo, List.length_append, List.length_singleton]
    split <;> simp <;> omega
theorem segs_length {d : Array CaseD} {rest : Int} (h : SwOK d rest) : (segs d rest).length ≤ 17 := by
  have := segTo_length d rest d.size
  have := h.size
  simp only [segs, List.length_append]
  split <;> simp <;> omega

/-! how many gaps -/
def gapsTo (d : Array CaseD) (rest : Int) (k : Nat) : Nat := ((segTo d rest k).filter fun c => c.target.toList == zS.toList).length
def gapsN (d : Array CaseD) (rest : Int) : Nat := ((segs d rest).filter fun c => c.target.toList == zS.toList).length
theorem zS_list : zS.toList = [122] := by rw [ByteArray.toList_eq]; rfl
theorem case_not_z {c : CaseD} (h : caseB c = true) : (c.target.toList == zS.toList) = false := by
  have h5 : c.target.size = 1 := by simp [caseB, oneB] at h; exact h.1.1.1.1.1
  have h6 : tgtB (tg0 c.target) = true := by simp [caseB, oneB] at h; exact h.1.1.1.1.2
  obtain ⟨lo, hi, t, wt⟩ := c
  obtain ⟨⟨l⟩⟩ := t
  simp only at h5 h6
  match l, h5 with
  | [x], _ =>
    have hx : (tg0 ⟨⟨[x]⟩⟩) = (x.toNat : Int) := rfl
    rw [hx] at h6
    simp only [tgtB, decide_eq_true_eq] at h6
    rw [zS_list, ByteArray.toList_eq]
    show ([x] == [122]) = false
    have : x ≠ 122 := fun e => by rw [e] at h6; simp at h6
    simp [this]
theorem gap_z (rest a b : Int) : ((gapC rest a b).target.toList == zS.toList) = true := by simp [gapC]
theorem gapsTo_succ {d : Array CaseD} {rest : Int} (h : SwOK d rest) {k : Nat} (hk : k < d.size) : gapsTo d rest (k + 1) = gapsTo d rest k + (if nextTo d k < d[k]!.low then 1 else 0) := by
  have hz := case_not_z (h.case k hk)
  unfold gapsTo
  simp only [segTo, List.filter_append, List.length_append]
  have e1 : ([d[k]!].filter fun c => c.target.toList == zS.toList).length = 0 := by simp [hz]
  rw [e1]
  split
  · have e2 : ([gapC rest (nextTo d k) (d[k]!.low - 1)].filter fun c => c.target.toList == zS.toList).length = 1 := by simp [gap_z]
    rw [e2]
  · simp
theorem gapsN_eq {d : Array CaseD} {rest : Int} (_h : SwOK d rest) : gapsN d rest = gapsTo d rest d.size + (if nextTo d d.size ≤ 31 then 1 else 0) := by
  unfold gapsN gapsTo segs
  simp only [List.filter_append, List.length_append]
  split
  · have e2 : ([gapC rest (nextTo d d.size) 31].filter fun c => c.target.toList == zS.toList).length = 1 := by simp [gap_z]
    rw [e2]
  · simp
theorem gaps_length {d : Array CaseD} {rest : Int} (h : SwOK d rest) : ∀ k, k ≤ d.size → (segTo d rest k).length = gapsTo d rest k + k
  | 0, _ => by simp [segTo, gapsTo]
  | k + 1, hk => by
    have ih := gaps_length h k (by omega)
    rw [gapsTo_succ h (by omega)]
    simp only [segTo, List.length_append, List.length_singleton]
    split <;> simp <;> omega
/-- The model counts the gaps as what is left when the cases are taken away. -/
theorem gapsN_length {d : Array CaseD} {rest : Int} (h : SwOK d rest) : (segs d rest).length = gapsN d rest + d.size := by
  have e := gaps_length h d.size (Nat.le_refl _)
  rw [gapsN_eq h]
  simp only [segs, List.length_append]
  split <;> simp <;> omega
theorem gapsN_le {d : Array CaseD} {rest : Int} (h : SwOK d rest) : gapsN d rest ≤ 17 := by
  have := segs_length h
  have := gapsN_length h
  omega

/-! all keys have a case just where there is no gap -/
theorem keys_next {d : Array CaseD} {rest : Int} (h : SwOK d rest) : ∀ k, k ≤ d.size → sumTo (keyW d) k ≤ nextTo d k ∧ (gapsTo d rest k = 0 ↔ sumTo (keyW d) k = nextTo d k)
  | 0, _ => by simp [sumTo, nextTo, gapsTo, segTo]
  | k + 1, hk => by
    obtain ⟨ih1, ih2⟩ := keys_next h k (by omega)
    have hle := nextTo_le h k (by omega)
    rw [gapsTo_succ h (by omega), show nextTo d (k + 1) = d[k]!.high + 1 from rfl, show sumTo (keyW d) (k + 1) = sumTo (keyW d) k + keyW d k from rfl, show keyW d k = d[k]!.high - d[k]!.low + 1 from rfl]
    by_cases hc : nextTo d k < d[k]!.low
    · rw [if_pos hc]
      constructor <;> omega
    · rw [if_neg hc]
      constructor <;> omega
theorem keys_all {d : Array CaseD} {rest : Int} (h : SwOK d rest) : gapsN d rest = 0 ↔ sumTo (keyW d) d.size = 32 := by
  obtain ⟨h1, h2⟩ := keys_next h d.size (Nat.le_refl _)
  have hb := nextTo_bounds h d.size (Nat.le_refl _)
  rw [gapsN_eq h]
  split <;> omega
end Go.Proofs.YtndnbeijmhcepaaDoor
