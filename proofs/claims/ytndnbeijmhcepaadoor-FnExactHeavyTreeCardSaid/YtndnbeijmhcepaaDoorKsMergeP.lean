
/- Neighbours put together, plain: what the program's mergeNeighbours and the model's MergeCases make of a list; that segments lie one behind the other; the target of each key of a segment. No walk. -/
import Derived.Test.YtndnbeijmhcepaaDoorKsSegs
namespace Go.Proofs.YtndnbeijmhcepaaDoor
open Go.RowKit Go.Shelf Go.Lib Go.Sort

def adjB (l x : CaseD) : Bool := (x.low == l.high + 1) && (x.target.toList == l.target.toList)
def oneC (l x : CaseD) : CaseD := ⟨l.low, x.high, l.target, l.weight + x.weight⟩
/-- joinCases puts two together: neighbours with one target whose weight is at most 99. -/
def jC (l x : CaseD) : Bool := adjB l x && wgtB (l.weight + x.weight)
def mstep (j : CaseD → CaseD → Bool) (a : Array CaseD) (x : CaseD) : Array CaseD :=
  if 0 < a.size ∧ j a[a.size - 1]! x = true then a.setIfInBounds (a.size - 1) (oneC a[a.size - 1]! x) else a.push x
def mergeA (j : CaseD → CaseD → Bool) (l : List CaseD) : Array CaseD := l.foldl (mstep j) #[]
theorem mergeA_snoc (j : CaseD → CaseD → Bool) (l : List CaseD) (x : CaseD) : mergeA j (l ++ [x]) = mstep j (mergeA j l) x := by simp [mergeA]
theorem mstep_join {j : CaseD → CaseD → Bool} {a : Array CaseD} {x : CaseD} {n : Nat} (hs : a.size = n + 1) (h : j a[n]! x = true) : mstep j a x = a.setIfInBounds n (oneC a[n]! x) := by
  have e : a.size - 1 = n := by omega
  unfold mstep
  rw [e, if_pos ⟨by omega, h⟩]
theorem mstep_push {j : CaseD → CaseD → Bool} {a : Array CaseD} {x : CaseD} {n : Nat} (hs : a.size = n + 1) (h : j a[n]! x = false) : mstep j a x = a.push x := by
  have e : a.size - 1 = n := by omega
  unfold mstep
  rw [e, if_neg (by rw [h]; simp)]
theorem mstep_first (j : CaseD → CaseD → Bool) {a : Array CaseD} (x : CaseD) (hs : a.size = 0) : mstep j a x = a.push x := by
  unfold mstep
  rw [if_neg (by omega)]

/-- What every case of what is merged is. -/
def Bnd (n : Nat) (c : CaseD) : Prop := 0 ≤ c.low ∧ c.low ≤ 31 ∧ 0 ≤ c.high ∧ c.high ≤ 31 ∧ 0 ≤ c.weight ∧ c.weight ≤ 99 * (n : Int) ∧ c.target.size = 1
def BndA (n : Nat) (a : Array CaseD) : Prop := a.size ≤ n ∧ ∀ i, i < a.size → Bnd n a[i]!
theorem Bnd.mono {n m : Nat} {c : CaseD} (h : Bnd n c) (hm : n ≤ m) : Bnd m c := by
  obtain ⟨h1, h2, h3, h4, h5, h6, h7⟩ := h
  exact ⟨h1, h2, h3, h4, h5, by omega, h7⟩
theorem bnd_ok {n : Nat} {c : CaseD} (h : okB c = true) : Bnd (n + 1) c := by
  rw [okB_iff] at h
  obtain ⟨h1, h2, h3, h4, h5, h6⟩ := h
  exact ⟨h1, by omega, by omega, h3, h4, by omega, h6⟩
theorem bnd_one {n : Nat} {l x : CaseD} (hl : Bnd n l) (h : okB x = true) : Bnd (n + 1) (oneC l x) := by
  rw [okB_iff] at h
  obtain ⟨h1, h2, h3, h4, h5, h6⟩ := h
  obtain ⟨g1, g2, g3, g4, g5, g6, g7⟩ := hl
  exact ⟨g1, g2, by show 0 ≤ x.high; omega, h3, by show 0 ≤ l.weight + x.weight; omega, by show l.weight + x.weight ≤ _; omega, g7⟩
theorem bndA_push {n : Nat} {a : Array CaseD} {x : CaseD} (h : BndA n a) (hx : okB x = true) : BndA (n + 1) (a.push x) := by
  refine ⟨by simp; have := h.1; omega, fun i hi => ?_⟩
  by_cases e : i = a.size
  · subst e
    simp only [Array.size_push] at hi
    have : (a.push x)[a.size]! = x := by simp
    rw [this]
    exact bnd_ok hx
  · have hi' : i < a.size := by simp at hi; omega
    have : (a.push x)[i]! = a[i]! := by simp [Array.getElem_push, hi', Nat.lt_succ_of_lt hi']
    rw [this]
    exact (h.2 i hi').mono (Nat.le_succ n)
theorem bndA_set {n m : Nat} {a : Array CaseD} {x : CaseD} (h : BndA n a) (hm : m < a.size) (hx : okB x = true) : BndA (n + 1) (a.setIfInBounds m (oneC a[m]! x)) := by
  refine ⟨by simp; have := h.1; omega, fun i hi => ?_⟩
  have hi' : i < a.size := by simpa using hi
  by_cases e : i = m
  · subst e
    rw [getElem!_set_same _ _ _ hm]
    exact bnd_one (h.2 i hm) hx
  · rw [getElem!_set_other _ _ _ _ e]
    exact (h.2 i hi').mono (Nat.le_succ n)
theorem bndA_step {n : Nat} {j : CaseD → CaseD → Bool} {a : Array CaseD} {x : CaseD} (h : BndA n a) (hx : okB x = true) : BndA (n + 1) (mstep j a x) := by
  unfold mstep
  split
  · rename_i hc
    exact bndA_set h (by omega) hx
  · exact bndA_push h hx
theorem bndA_fold {j : CaseD → CaseD → Bool} : ∀ (l : List CaseD) (n : Nat) (a : Array CaseD), BndA n a → (∀ c ∈ l, okB c = true) → BndA (n + l.length) (l.foldl (mstep j) a)
  | [], n, a, h, _ => h
  | x :: l, n, a, h, hl => by
    have := bndA_fold (j := j) l (n + 1) (mstep j a x) (bndA_step h (hl x (by simp))) (fun c hc => hl c (by simp [hc]))
    simp only [List.foldl_cons, List.length_cons]
    rwa [show n + (l.length + 1) = n + 1 + l.length by omega]
theorem mergeA_bnd {j : CaseD → CaseD → Bool} {l : List CaseD} (hl : ∀ c ∈ l, okB c = true) : BndA l.length (mergeA j l) := by
  have := bndA_fold (j := j) l 0 #[] ⟨by simp, fun i hi => absurd hi (Nat.not_lt_zero i)⟩ hl
  rwa [Nat.zero_add] at this

/-! segments lie one behind the other -/
def contL : Int → List CaseD → Prop
  | _, [] => True
  | a, c :: l => c.low = a ∧ c.low ≤ c.high ∧ contL (c.high + 1) l
def endL : Int → List CaseD → Int
  | a, [] => a
  | _, c :: l => endL (c.high + 1) l
theorem endL_append : ∀ (l m : List CaseD) (a : Int), endL a (l ++ m) = endL (endL a l) m
  | [], _, _ => rfl
  | c :: l, m, _ => endL_append l m (c.high + 1)
theorem contL_append : ∀ (l m : List CaseD) (a : Int), contL a (l ++ m) ↔ contL a l ∧ contL (endL a l) m
  | [], _, _ => by simp [contL, endL]
  | c :: l, m, _ => by simp only [List.cons_append, contL, endL, contL_append l m (c.high + 1), and_assoc]
theorem segTo_cont {d : Array CaseD} {rest : Int} (h : SwOK d rest) : ∀ k, k ≤ d.size → contL 0 (segTo d rest k) ∧ endL 0 (segTo d rest k) = nextTo d k
  | 0, _ => ⟨trivial, rfl⟩
  | k + 1, hk => by
    obtain ⟨h1, h2⟩ := segTo_cont h k (by omega)
    have hle := nextTo_le h k (by omega)
    have hc := caseB_le (h.case k (by omega))
    simp only [segTo, contL_append, endL_append, h1, h2, true_and]
    split
    · simp only [contL, endL, gapC]
      refine ⟨⟨⟨trivial, by omega, trivial⟩, by omega, hc, trivial⟩, rfl⟩
    · simp only [contL, endL]
      exact ⟨⟨trivial, by omega, hc, trivial⟩, rfl⟩
theorem segs_cont {d : Array CaseD} {rest : Int} (h : SwOK d rest) : contL 0 (segs d rest) ∧ endL 0 (segs d rest) = 32 := by
  obtain ⟨h1, h2⟩ := segTo_cont h d.size (Nat.le_refl _)
  have hb := nextTo_bounds h d.size (Nat.le_refl _)
  simp only [segs, contL_append, endL_append, h1, h2, true_and]
  split
  · simp only [contL, endL, gapC]
    exact ⟨⟨trivial, by omega, trivial⟩, rfl⟩
  · simp only [contL, endL, true_and]
    omega

/-! the target of a key of a segment -/
theorem atN_in {d : Array CaseD} {rest key : Int} (h : SwOK d rest) {k : Nat} (hk : k < d.size) (hh : hasB d[k]! key = true) : atN d key = k :=
  atN_hit hk hh fun j hj => by
    have h1 := h.before hj hk
    simp only [hasB, decide_eq_true_eq] at hh
    simp only [hasB, decide_eq_false_iff_not]
    omega
theorem atN_gap {d : Array CaseD} {rest key : Int} (h : SwOK d rest) {k : Nat} (hk : k ≤ d.size) (h0 : nextTo d k ≤ key) (h1 : ∀ (_ : k < d.size), key < d[k]!.low) : atN d key = -1 :=
  atN_miss fun j hj => by
    simp only [hasB, decide_eq_false_iff_not]
    by_cases hjk : j < k
    · obtain ⟨q, rfl⟩ : ∃ q, k = q + 1 := ⟨k - 1, by omega⟩
      simp only [nextTo] at h0
      by_cases e : j = q
      · subst e; omega
      · have h2 := h.before (show j < q by omega) (by omega)
        have h3 := caseB_le (h.case q (by omega))
        omega
    · have h2 := h1 (by omega)
      by_cases e : j = k
      · subst e; omega
      · have h3 := h.before (show k < j by omega) hj
        have h4 := caseB_le (h.case k (by omega))
        omega
theorem segTo_target {d : Array CaseD} {rest key : Int} (h : SwOK d rest) : ∀ k, k ≤ d.size → ∀ c ∈ segTo d rest k, hasB c key = true → goesN d key = c.target
  | 0, _, c, hc, _ => by simp [segTo] at hc
  | k + 1, hk, c, hc, hh => by
    simp only [segTo, List.mem_append, List.mem_singleton] at hc
    rcases hc with (hc | hc) | hc
    · exact segTo_target h k (by omega) c hc hh
    · split at hc
      · simp only [List.mem_singleton] at hc
        subst hc
        have hh := of_decide_eq_true hh
        exact goesN_miss (atN_gap h (show k ≤ d.size by omega) hh.1 (fun _ => by have : key ≤ d[k]!.low - 1 := hh.2; omega))
      · simp at hc
    · subst hc
      exact goesN_hit (atN_in h (by omega) hh)
theorem segs_target {d : Array CaseD} {rest key : Int} (h : SwOK d rest) : ∀ c ∈ segs d rest, hasB c key = true → goesN d key = c.target := fun c hc hh => by
  simp only [segs, List.mem_append] at hc
  rcases hc with hc | hc
  · exact segTo_target h d.size (Nat.le_refl _) c hc hh
  · split at hc
    · simp only [List.mem_singleton] at hc
      subst hc
      have hh := of_decide_eq_true hh
      exact goesN_miss (atN_gap h (Nat.le_refl _) hh.1 (fun hlt => absurd hlt (Nat.lt_irrefl _)))
    · simp at hc
end Go.Proofs.YtndnbeijmhcepaaDoor
