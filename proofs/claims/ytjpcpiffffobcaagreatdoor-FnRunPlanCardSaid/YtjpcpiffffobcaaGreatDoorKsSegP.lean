
/- The segments of a switch: the list, plain; how many gaps there are, and that all keys have a case just where there is none. No walk. · Neighbours put together, plain: what the program's mergeNeighbours and the model's MergeCases make of a list; that segments lie one behind the other; the target of each key of a segment. No walk. -/
import Derived.Test.YtjpcpiffffobcaaGreatDoorKsGo
namespace Go.Proofs.YtjpcpiffffobcaaGreatDoor
open Go.RowKit Go.Shelf Go.Lib Go.Sort

def gapC (rest a b : Int) : CaseD := ⟨a, b, zS, rest⟩
/-- The first key behind the first k cases. -/
def nextTo (d : Array CaseD) : Nat → Int
  | 0 => 0
  | k + 1 => d[k]!.high + 1
/-- The segments up to the end of the first k cases. -/
def segTo (d : Array CaseD) (rest : Int) : Nat → List CaseD
  | 0 => []
  | k + 1 => segTo d rest k ++ (if nextTo d k < d[k]!.low then [gapC rest (nextTo d k) (d[k]!.low - 1)] else []) ++ [d[k]!]
def segs (d : Array CaseD) (rest : Int) : List CaseD :=
  segTo d rest d.size ++ (if nextTo d d.size ≤ 31 then [gapC rest (nextTo d d.size) 31] else [])

/-- What every segment of a valid switch is. -/
def okB (c : CaseD) : Bool := decide (0 ≤ c.low ∧ c.low ≤ c.high ∧ c.high ≤ 31 ∧ 0 ≤ c.weight ∧ c.weight ≤ 99 ∧ c.target.size = 1)
theorem okB_iff (c : CaseD) : okB c = true ↔ (0 ≤ c.low ∧ c.low ≤ c.high ∧ c.high ≤ 31 ∧ 0 ≤ c.weight ∧ c.weight ≤ 99 ∧ c.target.size = 1) := by simp [okB]
theorem okB_of_case {c : CaseD} (h : caseB c = true) : okB c = true := by
  have h1 := caseB_low h
  have h2 := caseB_high h
  have h3 := caseB_le h
  have h4 := caseB_weight h
  have h5 : c.target.size = 1 := by simp [caseB, oneB] at h; exact h.1.1.1.1.1
  rw [okB_iff]
  omega
theorem nextTo_bounds {d : Array CaseD} {rest : Int} (h : SwOK d rest) : ∀ k, k ≤ d.size → 0 ≤ nextTo d k ∧ nextTo d k ≤ 32
  | 0, _ => by simp [nextTo]
  | k + 1, hk => by
    have := caseB_high (h.case k (by omega))
    simp only [nextTo]
    omega
theorem nextTo_le {d : Array CaseD} {rest : Int} (h : SwOK d rest) : ∀ k, k < d.size → nextTo d k ≤ d[k]!.low
  | 0, hk => by have := caseB_low (h.case 0 hk); simp only [nextTo]; omega
  | k + 1, hk => by have := h.next k hk; simp only [nextTo]; omega
theorem rest_bounds {d : Array CaseD} {rest : Int} (h : SwOK d rest) : 0 ≤ rest ∧ rest ≤ 99 := by have := h.rest; simpa [wgtB] using this
theorem gap_ok {rest a b : Int} (h0 : 0 ≤ a) (h1 : a ≤ b) (h2 : b ≤ 31) (h3 : 0 ≤ rest) (h4 : rest ≤ 99) : okB (gapC rest a b) = true := by
  rw [okB_iff]; exact ⟨h0, h1, h2, h3, h4, rfl⟩
theorem segTo_ok {d : Array CaseD} {rest : Int} (h : SwOK d rest) : ∀ k, k ≤ d.size → ∀ c ∈ segTo d rest k, okB c = true
  | 0, _, c, hc => by simp [segTo] at hc
  | k + 1, hk, c, hc => by
    have hr := rest_bounds h
    have hn := nextTo_bounds h k (by omega)
    have hl := caseB_low (h.case k (by omega))
    simp only [segTo, List.mem_append, List.mem_singleton] at hc
    rcases hc with (hc | hc) | hc
    · exact segTo_ok h k (by omega) c hc
    · split at hc
      · simp only [List.mem_singleton] at hc
        subst hc
        exact gap_ok hn.1 (by omega) (by omega) hr.1 hr.2
      · simp at hc
    · subst hc
      exact okB_of_case (h.case k (by omega))
theorem segs_ok {d : Array CaseD} {rest : Int} (h : SwOK d rest) : ∀ c ∈ segs d rest, okB c = true := fun c hc => by
  have hr := rest_bounds h
  have hn := nextTo_bounds h d.size (Nat.le_refl _)
  simp only [segs, List.mem_append] at hc
  rcases hc with hc | hc
  · exact segTo_ok h d.size (Nat.le_refl _) c hc
  · split at hc
    · simp only [List.mem_singleton] at hc
      subst hc
      exact gap_ok hn.1 (by omega) (by omega) hr.1 hr.2
    · simp at hc
theorem segTo_length (d : Array CaseD) (rest : Int) : ∀ k, k ≤ (segTo d rest k).length ∧ (segTo d rest k).length ≤ 2 * k
  | 0 => by simp [segTo]
  | k + 1 => by
    have := segTo_length d rest k
    simp only [segTo, List.length_append, List.length_singleton]
    split <;> simp <;> omega
theorem segs_length {d : Array CaseD} {rest : Int} (h : SwOK d rest) : (segs d rest).length ≤ 17 := by
  have := segTo_length d rest d.size
  have := h.size
  simp only [segs, List.length_append]
  split <;> simp <;> omega

/-! how many gaps -/
def gapsTo (d : Array CaseD) (rest : Int) (k : Nat) : Nat := ((segTo d rest k).filter fun c => c.target.toList == zS.toList).length
def gapsN (d : Array CaseD) (rest : Int) : Nat := ((segs d rest).filter fun c => c.target.toList == zS.toList).length
theorem zS_list : zS.toList = [122] := by rw [ByteArray.toList_eq]; rfl
theorem case_not_z {c : CaseD} (h : caseB c = true) : (c.target.toList == zS.toList) = false := by
  have h5 : c.target.size = 1 := by simp [caseB, oneB] at h; exact h.1.1.1.1.1
  have h6 : tgtB (tg0 c.target) = true := by simp [caseB, oneB] at h; exact h.1.1.1.1.2
  obtain ⟨lo, hi, t, wt⟩ := c
  obtain ⟨⟨l⟩⟩ := t
  simp only at h5 h6
  match l, h5 with
  | [x], _ =>
    have hx : (tg0 ⟨⟨[x]⟩⟩) = (x.toNat : Int) := rfl
    rw [hx] at h6
    simp only [tgtB, decide_eq_true_eq] at h6
    rw [zS_list, ByteArray.toList_eq]
    show ([x] == [122]) = false
    have : x ≠ 122 := fun e => by rw [e] at h6; simp at h6
    simp [this]
theorem gap_z (rest a b : Int) : ((gapC rest a b).target.toList == zS.toList) = true := by simp [gapC]
theorem gapsTo_succ {d : Array CaseD} {rest : Int} (h : SwOK d rest) {k : Nat} (hk : k < d.size) : gapsTo d rest (k + 1) = gapsTo d rest k + (if nextTo d k < d[k]!.low then 1 else 0) := by
  have hz := case_not_z (h.case k hk)
  unfold gapsTo
  simp only [segTo, List.filter_append, List.length_append]
  have e1 : ([d[k]!].filter fun c => c.target.toList == zS.toList).length = 0 := by simp [hz]
  rw [e1]
  split
  · have e2 : ([gapC rest (nextTo d k) (d[k]!.low - 1)].filter fun c => c.target.toList == zS.toList).length = 1 := by simp [gap_z]
    rw [e2]
  · simp
theorem gapsN_eq {d : Array CaseD} {rest : Int} (_h : SwOK d rest) : gapsN d rest = gapsTo d rest d.size + (if nextTo d d.size ≤ 31 then 1 else 0) := by
  unfold gapsN gapsTo segs
  simp only [List.filter_append, List.length_append]
  split
  · have e2 : ([gapC rest (nextTo d d.size) 31].filter fun c => c.target.toList == zS.toList).length = 1 := by simp [gap_z]
    rw [e2]
  · simp
theorem gaps_length {d : Array CaseD} {rest : Int} (h : SwOK d rest) : ∀ k, k ≤ d.size → (segTo d rest k).length = gapsTo d rest k + k
  | 0, _ => by simp [segTo, gapsTo]
  | k + 1, hk => by
    have ih := gaps_length h k (by omega)
    rw [gapsTo_succ h (by omega)]
    simp only [segTo, List.length_append, List.length_singleton]
    split <;> simp <;> omega
/-- The model counts the gaps as what is left when the cases are taken away. -/
theorem gapsN_length {d : Array CaseD} {rest : Int} (h : SwOK d rest) : (segs d rest).length = gapsN d rest + d.size := by
  have e := gaps_length h d.size (Nat.le_refl _)
  rw [gapsN_eq h]
  simp only [segs, List.length_append]
  split <;> simp <;> omega
theorem gapsN_le {d : Array CaseD} {rest : Int} (h : SwOK d rest) : gapsN d rest ≤ 17 := by
  have := segs_length h
  have := gapsN_length h
  omega

/-! all keys have a case just where there is no gap -/
theorem keys_next {d : Array CaseD} {rest : Int} (h : SwOK d rest) : ∀ k, k ≤ d.size → sumTo (keyW d) k ≤ nextTo d k ∧ (gapsTo d rest k = 0 ↔ sumTo (keyW d) k = nextTo d k)
  | 0, _ => by simp [sumTo, nextTo, gapsTo, segTo]
  | k + 1, hk => by
    obtain ⟨ih1, ih2⟩ := keys_next h k (by omega)
    have hle := nextTo_le h k (by omega)
    rw [gapsTo_succ h (by omega), show nextTo d (k + 1) = d[k]!.high + 1 from rfl, show sumTo (keyW d) (k + 1) = sumTo (keyW d) k + keyW d k from rfl, show keyW d k = d[k]!.high - d[k]!.low + 1 from rfl]
    by_cases hc : nextTo d k < d[k]!.low
    · rw [if_pos hc]
      constructor <;> omega
    · rw [if_neg hc]
      constructor <;> omega
theorem keys_all {d : Array CaseD} {rest : Int} (h : SwOK d rest) : gapsN d rest = 0 ↔ sumTo (keyW d) d.size = 32 := by
  obtain ⟨h1, h2⟩ := keys_next h d.size (Nat.le_refl _)
  have hb := nextTo_bounds h d.size (Nat.le_refl _)
  rw [gapsN_eq h]
  split <;> omega
end Go.Proofs.YtjpcpiffffobcaaGreatDoor

namespace Go.Proofs.YtjpcpiffffobcaaGreatDoor
open Go.RowKit Go.Shelf Go.Lib Go.Sort

def adjB (l x : CaseD) : Bool := (x.low == l.high + 1) && (x.target.toList == l.target.toList)
def oneC (l x : CaseD) : CaseD := ⟨l.low, x.high, l.target, l.weight + x.weight⟩
/-- joinCases puts two together: neighbours with one target whose weight is at most 99. -/
def jC (l x : CaseD) : Bool := adjB l x && wgtB (l.weight + x.weight)
def mstep (j : CaseD → CaseD → Bool) (a : Array CaseD) (x : CaseD) : Array CaseD :=
  if 0 < a.size ∧ j a[a.size - 1]! x = true then a.setIfInBounds (a.size - 1) (oneC a[a.size - 1]! x) else a.push x
def mergeA (j : CaseD → CaseD → Bool) (l : List CaseD) : Array CaseD := l.foldl (mstep j) #[]
theorem mergeA_snoc (j : CaseD → CaseD → Bool) (l : List CaseD) (x : CaseD) : mergeA j (l ++ [x]) = mstep j (mergeA j l) x := by simp [mergeA]
theorem mstep_join {j : CaseD → CaseD → Bool} {a : Array CaseD} {x : CaseD} {n : Nat} (hs : a.size = n + 1) (h : j a[n]! x = true) : mstep j a x = a.setIfInBounds n (oneC a[n]! x) := by
  have e : a.size - 1 = n := by omega
  unfold mstep
  rw [e, if_pos ⟨by omega, h⟩]
theorem mstep_push {j : CaseD → CaseD → Bool} {a : Array CaseD} {x : CaseD} {n : Nat} (hs : a.size = n + 1) (h : j a[n]! x = false) : mstep j a x = a.push x := by
  have e : a.size - 1 = n := by omega
  unfold mstep
  rw [e, if_neg (by rw [h]; simp)]
theorem mstep_first (j : CaseD → CaseD → Bool) {a : Array CaseD} (x : CaseD) (hs : a.size = 0) : mstep j a x = a.push x := by
  unfold mstep
  rw [if_neg (by omega)]

/-- What every case of what is merged is. -/
def Bnd (n : Nat) (c : CaseD) : Prop := 0 ≤ c.low ∧ c.low ≤ 31 ∧ 0 ≤ c.high ∧ c.high ≤ 31 ∧ 0 ≤ c.weight ∧ c.weight ≤ 99 * (n : Int) ∧ c.target.size = 1
def BndA (n : Nat) (a : Array CaseD) : Prop := a.size ≤ n ∧ ∀ i, i < a.size → Bnd n a[i]!
theorem Bnd.mono {n m : Nat} {c : CaseD} (h : Bnd n c) (hm : n ≤ m) : Bnd m c := by
  obtain ⟨h1, h2, h3, h4, h5, h6, h7⟩ := h
  exact ⟨h1, h2, h3, h4, h5, by omega, h7⟩
theorem bnd_ok {n : Nat} {c : CaseD} (h : okB c = true) : Bnd (n + 1) c := by
  rw [okB_iff] at h
  obtain ⟨h1, h2, h3, h4, h5, h6⟩ := h
  exact ⟨h1, by omega, by omega, h3, h4, by omega, h6⟩
theorem bnd_one {n : Nat} {l x : CaseD} (hl : Bnd n l) (h : okB x = true) : Bnd (n + 1) (oneC l x) := by
  rw [okB_iff] at h
  obtain ⟨h1, h2, h3, h4, h5, h6⟩ := h
  obtain ⟨g1, g2, g3, g4, g5, g6, g7⟩ := hl
  exact ⟨g1, g2, by show 0 ≤ x.high; omega, h3, by show 0 ≤ l.weight + x.weight; omega, by show l.weight + x.weight ≤ _; omega, g7⟩
theorem bndA_push {n : Nat} {a : Array CaseD} {x : CaseD} (h : BndA n a) (hx : okB x = true) : BndA (n + 1) (a.push x) := by
  refine ⟨by simp; have := h.1; omega, fun i hi => ?_⟩
  by_cases e : i = a.size
  · subst e
    simp only [Array.size_push] at hi
    have : (a.push x)[a.size]! = x := by simp
    rw [this]
    exact bnd_ok hx
  · have hi' : i < a.size := by simp at hi; omega
    have : (a.push x)[i]! = a[i]! := by simp [Array.getElem_push, hi', Nat.lt_succ_of_lt hi']
    rw [this]
    exact (h.2 i hi').mono (Nat.le_succ n)
theorem bndA_set {n m : Nat} {a : Array CaseD} {x : CaseD} (h : BndA n a) (hm : m < a.size) (hx : okB x = true) : BndA (n + 1) (a.setIfInBounds m (oneC a[m]! x)) := by
  refine ⟨by simp; have := h.1; omega, fun i hi => ?_⟩
  have hi' : i < a.size := by simpa using hi
  by_cases e : i = m
  · subst e
    rw [getElem!_set_same _ _ _ hm]
    exact bnd_one (h.2 i hm) hx
  · rw [getElem!_set_other _ _ _ _ e]
    exact (h.2 i hi').mono (Nat.le_succ n)
theorem bndA_step {n : Nat} {j : CaseD → CaseD → Bool} {a : Array CaseD} {x : CaseD} (h : BndA n a) (hx : okB x = true) : BndA (n + 1) (mstep j a x) := by
  unfold mstep
  split
  · rename_i hc
    exact bndA_set h (by omega) hx
  · exact bndA_push h hx
theorem bndA_fold {j : CaseD → CaseD → Bool} : ∀ (l : List CaseD) (n : Nat) (a : Array CaseD), BndA n a → (∀ c ∈ l, okB c = true) → BndA (n + l.length) (l.foldl (mstep j) a)
  | [], n, a, h, _ => h
  | x :: l, n, a, h, hl => by
    have := bndA_fold (j := j) l (n + 1) (mstep j a x) (bndA_step h (hl x (by simp))) (fun c hc => hl c (by simp [hc]))
    simp only [List.foldl_cons, List.length_cons]
    rwa [show n + (l.length + 1) = n + 1 + l.length by omega]
theorem mergeA_bnd {j : CaseD → CaseD → Bool} {l : List CaseD} (hl : ∀ c ∈ l, okB c = true) : BndA l.length (mergeA j l) := by
  have := bndA_fold (j := j) l 0 #[] ⟨by simp, fun i hi => absurd hi (Nat.not_lt_zero i)⟩ hl
  rwa [Nat.zero_add] at this

/-! segments lie one behind the other -/
def contL : Int → List CaseD → Prop
  | _, [] => True
  | a, c :: l => c.low = a ∧ c.low ≤ c.high ∧ contL (c.high + 1) l
def endL : Int → List CaseD → Int
  | a, [] => a
  | _, c :: l => endL (c.high + 1) l
theorem endL_append : ∀ (l m : List CaseD) (a : Int), endL a (l ++ m) = endL (endL a l) m
  | [], _, _ => rfl
  | c :: l, m, _ => endL_append l m (c.high + 1)
theorem contL_append : ∀ (l m : List CaseD) (a : Int), contL a (l ++ m) ↔ contL a l ∧ contL (endL a l) m
  | [], _, _ => by simp [contL, endL]
  | c :: l, m, _ => by simp only [List.cons_append, contL, endL, contL_append l m (c.high + 1), and_assoc]
theorem segTo_cont {d : Array CaseD} {rest : Int} (h : SwOK d rest) : ∀ k, k ≤ d.size → contL 0 (segTo d rest k) ∧ endL 0 (segTo d rest k) = nextTo d k
  | 0, _ => ⟨trivial, rfl⟩
  | k + 1, hk => by
    obtain ⟨h1, h2⟩ := segTo_cont h k (by omega)
    have hle := nextTo_le h k (by omega)
    have hc := caseB_le (h.case k (by omega))
    simp only [segTo, contL_append, endL_append, h1, h2, true_and]
    split
    · simp only [contL, endL, gapC]
      refine ⟨⟨⟨trivial, by omega, trivial⟩, by omega, hc, trivial⟩, rfl⟩
    · simp only [contL, endL]
      exact ⟨⟨trivial, by omega, hc, trivial⟩, rfl⟩
theorem segs_cont {d : Array CaseD} {rest : Int} (h : SwOK d rest) : contL 0 (segs d rest) ∧ endL 0 (segs d rest) = 32 := by
  obtain ⟨h1, h2⟩ := segTo_cont h d.size (Nat.le_refl _)
  have hb := nextTo_bounds h d.size (Nat.le_refl _)
  simp only [segs, contL_append, endL_append, h1, h2, true_and]
  split
  · simp only [contL, endL, gapC]
    exact ⟨⟨trivial, by omega, trivial⟩, rfl⟩
  · simp only [contL, endL, true_and]
    omega

/-! the target of a key of a segment -/
theorem atN_in {d : Array CaseD} {rest key : Int} (h : SwOK d rest) {k : Nat} (hk : k < d.size) (hh : hasB d[k]! key = true) : atN d key = k :=
  atN_hit hk hh fun j hj => by
    have h1 := h.before hj hk
    simp only [hasB, decide_eq_true_eq] at hh
    simp only [hasB, decide_eq_false_iff_not]
    omega
theorem atN_gap {d : Array CaseD} {rest key : Int} (h : SwOK d rest) {k : Nat} (hk : k ≤ d.size) (h0 : nextTo d k ≤ key) (h1 : ∀ (_ : k < d.size), key < d[k]!.low) : atN d key = -1 :=
  atN_miss fun j hj => by
    simp only [hasB, decide_eq_false_iff_not]
    by_cases hjk : j < k
    · obtain ⟨q, rfl⟩ : ∃ q, k = q + 1 := ⟨k - 1, by omega⟩
      simp only [nextTo] at h0
      by_cases e : j = q
      · subst e; omega
      · have h2 := h.before (show j < q by omega) (by omega)
        have h3 := caseB_le (h.case q (by omega))
        omega
    · have h2 := h1 (by omega)
      by_cases e : j = k
      · subst e; omega
      · have h3 := h.before (show k < j by omega) hj
        have h4 := caseB_le (h.case k (by omega))
        omega
theorem segTo_target {d : Array CaseD} {rest key : Int} (h : SwOK d rest) : ∀ k, k ≤ d.size → ∀ c ∈ segTo d rest k, hasB c key = true → goesN d key = c.target
  | 0, _, c, hc, _ => by simp [segTo] at hc
  | k + 1, hk, c, hc, hh => by
    simp only [segTo, List.mem_append, List.mem_singleton] at hc
    rcases hc with (hc | hc) | hc
    · exact segTo_target h k (by omega) c hc hh
    · split at hc
      · simp only [List.mem_singleton] at hc
        subst hc
        have hh := of_decide_eq_true hh
        exact goesN_miss (atN_gap h (show k ≤ d.size by omega) hh.1 (fun _ => by have : key ≤ d[k]!.low - 1 := hh.2; omega))
      · simp at hc
    · subst hc
      exact goesN_hit (atN_in h (by omega) hh)
theorem segs_target {d : Array CaseD} {rest key : Int} (h : SwOK d rest) : ∀ c ∈ segs d rest, hasB c key = true → goesN d key = c.target := fun c hc hh => by
  simp only [segs, List.mem_append] at hc
  rcases hc with hc | hc
  · exact segTo_target h d.size (Nat.le_refl _) c hc hh
  · split at hc
    · simp only [List.mem_singleton] at hc
      subst hc
      have hh := of_decide_eq_true hh
      exact goesN_miss (atN_gap h (Nat.le_refl _) hh.1 (fun hlt => absurd hlt (Nat.lt_irrefl _)))
    · simp at hc
end Go.Proofs.YtjpcpiffffobcaaGreatDoor
