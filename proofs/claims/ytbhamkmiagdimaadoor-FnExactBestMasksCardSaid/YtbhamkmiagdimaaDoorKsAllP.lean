
/- The targets of all keys, met in order; how many keys have a case. -/
import Derived.Test.YtbhamkmiagdimaaDoorKsTargets
import Derived.Test.YtbhamkmiagdimaaDoorKsGo
namespace Go.Proofs.YtbhamkmiagdimaaDoor
open Go.RowKit Go.Shelf Go.Lib Go.Sort

def seenL (d : Array CaseD) : Nat → List Int
  | 0 => []
  | n + 1 => if (seenL d n).contains (goB d n) = true then seenL d n else seenL d n ++ [goB d n]
theorem seenL_mem (d : Array CaseD) (x : Int) : ∀ n, x ∈ seenL d n ↔ ∃ i, i < n ∧ goB d i = x
  | 0 => by simp [seenL]
  | n + 1 => by
    have ih := seenL_mem d x n
    rw [seenL]
    split
    · next hc =>
      rw [ih]
      constructor
      · rintro ⟨i, h1, h2⟩; exact ⟨i, by omega, h2⟩
      · rintro ⟨i, h1, h2⟩
        by_cases e : i = n
        · subst e
          rw [← ih, ← h2]
          simpa using hc
        · exact ⟨i, by omega, h2⟩
    · rw [List.mem_append, ih, List.mem_singleton]
      constructor
      · rintro (⟨i, h1, h2⟩ | h)
        · exact ⟨i, by omega, h2⟩
        · exact ⟨n, by omega, h.symm⟩
      · rintro ⟨i, h1, h2⟩
        by_cases e : i = n
        · subst e; exact .inr h2.symm
        · exact .inl ⟨i, by omega, h2⟩
theorem seenL_nodup (d : Array CaseD) : ∀ n, (seenL d n).Nodup
  | 0 => List.nodup_nil
  | n + 1 => by
    rw [seenL]
    split
    · exact seenL_nodup d n
    · next hc =>
      rw [List.nodup_append]
      refine ⟨seenL_nodup d n, by simp, ?_⟩
      intro a ha b hb e
      rw [List.mem_singleton] at hb
      subst e hb
      exact hc (by simpa using ha)
theorem seenL_length (d : Array CaseD) : ∀ n, (seenL d n).length ≤ n
  | 0 => Nat.le_refl _
  | n + 1 => by
    have := seenL_length d n
    rw [seenL]
    split
    · omega
    · simp; omega
theorem all_mem {d : Array CaseD} {rest : Int} (h : SwOK d rest) (x : Int) : x ∈ lettersZ d (decide (keysN d rest < 32)) ↔ ∃ i, i < 32 ∧ goB d i = x := by
  have hl : x ∈ lettersZ d (decide (keysN d rest < 32)) ↔ (∃ j, j < d.size ∧ tgJ d j = x) ∨ (keysN d rest < 32 ∧ x = 122) := by
    unfold lettersZ
    rw [List.mem_append, lettersTo_mem]
    constructor
    · rintro (⟨q, h1, h2, j, h3, h4⟩ | h1)
      · exact .inl ⟨j, h3, h4⟩
      · split at h1
        · next hk => exact .inr ⟨of_decide_eq_true hk, by simpa using h1⟩
        · cases h1
    · rintro (⟨j, h1, h2⟩ | ⟨h1, h2⟩)
      · have hl := caseB_letter (h.case j h1)
        have e : tg0 d[j]!.target = x := h2
        rw [e] at hl
        exact .inl ⟨(x - 97).toNat, by omega, by omega, j, h1, h2⟩
      · exact .inr (by rw [if_pos (decide_eq_true h1)]; simp [h2])
  rw [hl]
  constructor
  · rintro (⟨j, h1, h2⟩ | ⟨h1, h2⟩)
    · have hc := h.case j h1
      have h3 := caseB_le hc
      have h4 := caseB_low hc
      have h5 := caseB_high hc
      obtain ⟨i, hi⟩ : ∃ i : Nat, d[j]!.low = i := ⟨d[j]!.low.toNat, by omega⟩
      refine ⟨i, by omega, ?_⟩
      rw [← h2]
      refine goB_hit (atN_hit h1 (by simp only [hasB, decide_eq_true_eq]; omega) fun q hq => ?_)
      have := h.before hq h1
      simp only [hasB, decide_eq_false_iff_not]
      omega
    · rw [← cov_count h] at h1
      obtain ⟨i, h3, h4⟩ := cntK_ex (covB d) 32 h1
      refine ⟨i, h3, ?_⟩
      rw [h2]
      refine goB_miss ?_
      simp only [covB, decide_eq_false_iff_not] at h4
      rcases atN_cases d (i : Int) with ⟨k, _, h6, _, _⟩ | ⟨h5, _⟩
      · omega
      · exact h5
  · rintro ⟨i, h1, h2⟩
    rcases atN_cases d (i : Int) with ⟨k, h3, h4, _, _⟩ | ⟨h3, _⟩
    · exact .inl ⟨k, h3, by rw [← h2, goB_hit h4]⟩
    · refine .inr ⟨?_, by rw [← h2, goB_miss h3]⟩
      rw [← cov_count h]
      exact cntK_lt h1 (by simp [covB, h3])
theorem lettersZ_nodup (d : Array CaseD) (z : Bool) : (lettersZ d z).Nodup := (lettersZ_asc d z).imp fun h => by omega
theorem seen_len {d : Array CaseD} {rest : Int} (h : SwOK d rest) : (seenL d 32).length = (lettersZ d (decide (keysN d rest < 32))).length :=
  ((List.perm_ext_iff_of_nodup (seenL_nodup d 32) (lettersZ_nodup d _)).2 fun x => by rw [seenL_mem, all_mem h]).length_eq
end Go.Proofs.YtbhamkmiagdimaaDoor
