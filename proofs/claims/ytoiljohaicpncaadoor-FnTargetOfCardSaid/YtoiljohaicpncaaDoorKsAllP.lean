
/- The targets of all keys, met in order; how many keys have a case. -/
import Derived.Test.YtoiljohaicpncaaDoorKsTargets
import Derived.Test.YtoiljohaicpncaaDoorKsGo
namespace Go.Proofs.YtoiljohaicpncaaDoor
open Go.RowKit Go.Shelf Go.Lib Go.Sort

def cntK (p : Nat → Bool) : Nat → Int
  | 0 => 0
  | n + 1 => cntK p n + (if p n = true then 1 else 0)
theorem cntK_or (p q : Nat → Bool) (hd : ∀ i, ¬ (p i = true ∧ q i = true)) : ∀ n, cntK (fun i => p i || q i) n = cntK p n + cntK q n
  | 0 => rfl
  | n + 1 => by
    have ih := cntK_or p q hd n
    have := hd n
    simp only [cntK, ih]
    by_cases hp : p n = true <;> by_cases hq : q n = true
    · exact absurd ⟨hp, hq⟩ this
    all_goals
      simp only [hp, hq, Bool.or_true, Bool.or_false, Bool.true_or, if_true, Bool.false_or]
      try simp only [if_false, Bool.false_eq_true]
      try omega
theorem cntK_range (lo hi : Int) (h0 : 0 ≤ lo) (h1 : lo ≤ hi) : ∀ n : Nat, cntK (fun i => decide (lo ≤ (i : Int) ∧ (i : Int) ≤ hi)) n = (if (n : Int) ≤ lo then 0 else if (n : Int) ≤ hi + 1 then n - lo else hi + 1 - lo)
  | 0 => by simp [cntK, h0]
  | n + 1 => by
    simp only [cntK, cntK_range lo hi h0 h1 n, decide_eq_true_eq]
    repeat' split
    all_goals omega
theorem cntK_congr {p q : Nat → Bool} : ∀ {n : Nat}, (∀ i, i < n → p i = q i) → cntK p n = cntK q n
  | 0, _ => rfl
  | n + 1, h => by rw [cntK, cntK, cntK_congr (n := n) fun i hi => h i (by omega), h n (by omega)]
theorem cntK_le (p : Nat → Bool) : ∀ n, 0 ≤ cntK p n ∧ cntK p n ≤ n
  | 0 => by simp [cntK]
  | n + 1 => by have := cntK_le p n; simp only [cntK]; split <;> omega
theorem cntK_all (p : Nat → Bool) : ∀ n : Nat, cntK p n = n → ∀ i, i < n → p i = true
  | 0, _, i, hi => absurd hi (Nat.not_lt_zero i)
  | n + 1, h, i, hi => by
    have := cntK_le p n
    simp only [cntK] at h
    split at h
    · next hp =>
      by_cases e : i = n
      · rw [e]; exact hp
      · exact cntK_all p n (by omega) i (by omega)
    · omega
theorem cntK_ex (p : Nat → Bool) : ∀ n : Nat, cntK p n < n → ∃ i, i < n ∧ p i = false
  | 0, h => by simp [cntK] at h
  | n + 1, h => by
    cases hp : p n with
    | false => exact ⟨n, by omega, hp⟩
    | true =>
      simp only [cntK, hp, if_true] at h
      obtain ⟨i, h1, h2⟩ := cntK_ex p n (by omega)
      exact ⟨i, by omega, h2⟩
theorem cntK_none {p : Nat → Bool} (h : ∀ i, p i = false) : ∀ n, cntK p n = 0
  | 0 => rfl
  | n + 1 => by rw [cntK, cntK_none h n, h n]; rfl
theorem cntK_lt {p : Nat → Bool} {n i : Nat} (hi : i < n) (hp : p i = false) : cntK p n < n := by
  have h1 := (cntK_le p n).2
  by_cases h : cntK p n = n
  · rw [cntK_all p n h i hi] at hp; cases hp
  · omega

def covB (d : Array CaseD) (i : Nat) : Bool := decide (0 ≤ atN d (i : Int))
def anyB (d : Array CaseD) : Nat → Nat → Bool
  | 0, _ => false
  | m + 1, i => anyB d m i || hasB d[m]! (i : Int)
theorem anyB_iff (d : Array CaseD) (i : Nat) : ∀ m, anyB d m i = true ↔ ∃ j, j < m ∧ hasB d[j]! (i : Int) = true
  | 0 => by simp [anyB]
  | m + 1 => by
    rw [anyB, Bool.or_eq_true, anyB_iff d i m]
    constructor
    · rintro (⟨j, h1, h2⟩ | h)
      · exact ⟨j, by omega, h2⟩
      · exact ⟨m, by omega, h⟩
    · rintro ⟨j, h1, h2⟩
      by_cases e : j = m
      · subst e; exact .inr h2
      · exact .inl ⟨j, by omega, h2⟩
theorem cov_any (d : Array CaseD) (i : Nat) : covB d i = anyB d d.size i := by
  rw [Bool.eq_iff_iff, anyB_iff, covB, decide_eq_true_eq]
  rcases atN_cases d (i : Int) with ⟨k, h1, h2, h3, _⟩ | ⟨h1, h2⟩
  · exact ⟨fun _ => ⟨k, h1, h3⟩, fun _ => by omega⟩
  · refine ⟨fun h => by omega, ?_⟩
    rintro ⟨j, h3, h4⟩
    rw [h2 j h3] at h4
    cases h4
theorem any_count {d : Array CaseD} {rest : Int} (h : SwOK d rest) : ∀ m, m ≤ d.size → cntK (anyB d m) 32 = sumTo (keyW d) m
  | 0, _ => cntK_none (fun _ => rfl) 32
  | m + 1, hm => by
    have ih := any_count h m (by omega)
    have hc := h.case m (by omega)
    have h1 := caseB_le hc
    have hk : 0 ≤ d[m]!.low ∧ d[m]!.high ≤ 31 := by
      have := caseB_low hc
      have := caseB_high hc
      omega
    have e : cntK (anyB d (m + 1)) 32 = cntK (fun i => anyB d m i || hasB d[m]! (i : Int)) 32 := rfl
    rw [e, cntK_or _ _ ?_ 32, ih, sumTo]
    · have := cntK_range d[m]!.low d[m]!.high hk.1 h1 32
      unfold hasB keyW
      rw [this]
      have h32 : ((32 : Nat) : Int) = 32 := rfl
      rw [h32, if_neg (by omega), ]
      split <;> omega
    · rintro i ⟨ha, hb⟩
      obtain ⟨j, h2, h3⟩ := (anyB_iff d i m).1 ha
      have := h.before h2 (by omega)
      simp only [hasB, decide_eq_true_eq] at h3 hb
      omega
theorem cov_count {d : Array CaseD} {rest : Int} (h : SwOK d rest) : cntK (covB d) 32 = keysN d rest := by
  rw [keysN, if_pos ((swB_iff _ _).2 h), ← any_count h d.size (Nat.le_refl _)]
  exact cntK_congr fun i _ => cov_any d i

/-- The byte of a key's target. -/
def goB (d : Array CaseD) (i : Nat) : Int := tg0 (goesN d (i : Int))
theorem goB_hit {d : Array CaseD} {i k : Nat} (h : atN d (i : Int) = k) : goB d i = tgJ d k := by rw [goB, goesN_hit h]; rfl
theorem goB_miss {d : Array CaseD} {i : Nat} (h : atN d (i : Int) = -1) : goB d i = 122 := by rw [goB, goesN_miss h]; rfl
theorem tg0_one {s : ByteArray} (h : s.size = 1) : s = ⟨#[UInt8.ofNat (tg0 s).toNat]⟩ := by
  obtain ⟨b, rfl⟩ := one_byte h
  have : tg0 ⟨#[b]⟩ = (b.toNat : Int) := rfl
  rw [this]
  simp
theorem goesN_size {d : Array CaseD} {rest : Int} (h : SwOK d rest) (i : Int) : (goesN d i).size = 1 := by
  rcases atN_cases d i with ⟨k, h1, h2, _, _⟩ | ⟨h1, _⟩
  · rw [goesN_hit h2]; have := h.case k h1; simp [caseB, oneB] at this; exact this.1.1.1.1.1
  · rw [goesN_miss h1]; rfl
theorem goesN_byte {d : Array CaseD} {rest : Int} (h : SwOK d rest) (i : Nat) : goesN d (i : Int) = ⟨#[UInt8.ofNat (goB d i).toNat]⟩ := tg0_one (goesN_size h _)
theorem goB_range {d : Array CaseD} {rest : Int} (h : SwOK d rest) (i : Nat) : 97 ≤ goB d i ∧ goB d i ≤ 122 := by
  rcases atN_cases d (i : Int) with ⟨k, h1, h2, _, _⟩ | ⟨h1, _⟩
  · rw [goB_hit h2]; have := caseB_letter (h.case k h1); unfold tgJ; omega
  · rw [goB_miss h1]; omega
def seenL (d : Array CaseD) : Nat → List Int
  | 0 => []
  | n + 1 => if (seenL d n).contains (goB d n) = true then seenL d n else seenL d n ++ [goB d n]
theorem seenL_mem (d : Array CaseD) (x : Int) : ∀ n, x ∈ seenL d n ↔ ∃ i, i < n ∧ goB d i = x
  | 0 => by simp [seenL]
  | n + 1 => by
    have ih := seenL_mem d x n
    rw [seenL]
    split
    · next hc =>
      rw [ih]
      constructor
      · rintro ⟨i, h1, h2⟩; exact ⟨i, by omega, h2⟩
      · rintro ⟨i, h1, h2⟩
        by_cases e : i = n
        · subst e
          rw [← ih, ← h2]
          simpa using hc
        · exact ⟨i, by omega, h2⟩
    · rw [List.mem_append, ih, List.mem_singleton]
      constructor
      · rintro (⟨i, h1, h2⟩ | h)
        · exact ⟨i, by omega, h2⟩
        · exact ⟨n, by omega, h.symm⟩
      · rintro ⟨i, h1, h2⟩
        by_cases e : i = n
        · subst e; exact .inr h2.symm
        · exact .inl ⟨i, by omega, h2⟩
theorem seenL_nodup (d : Array CaseD) : ∀ n, (seenL d n).Nodup
  | 0 => List.nodup_nil
  | n + 1 => by
    rw [seenL]
    split
    · exact seenL_nodup d n
    · next hc =>
      rw [List.nodup_append]
      refine ⟨seenL_nodup d n, by simp, ?_⟩
      intro a ha b hb e
      rw [List.mem_singleton] at hb
      subst e hb
      exact hc (by simpa using ha)
theorem seenL_length (d : Array CaseD) : ∀ n, (seenL d n).length ≤ n
  | 0 => Nat.le_refl _
  | n + 1 => by
    have := seenL_length d n
    rw [seenL]
    split
    · omega
    · simp; omega
theorem all_mem {d : Array CaseD} {rest : Int} (h : SwOK d rest) (x : Int) : x ∈ lettersZ d (decide (keysN d rest < 32)) ↔ ∃ i, i < 32 ∧ goB d i = x := by
  have hl : x ∈ lettersZ d (decide (keysN d rest < 32)) ↔ (∃ j, j < d.size ∧ tgJ d j = x) ∨ (keysN d rest < 32 ∧ x = 122) := by
    unfold lettersZ
    rw [List.mem_append, lettersTo_mem]
    constructor
    · rintro (⟨q, h1, h2, j, h3, h4⟩ | h1)
      · exact .inl ⟨j, h3, h4⟩
      · split at h1
        · next hk => exact .inr ⟨of_decide_eq_true hk, by simpa using h1⟩
        · cases h1
    · rintro (⟨j, h1, h2⟩ | ⟨h1, h2⟩)
      · have hl := caseB_letter (h.case j h1)
        have e : tg0 d[j]!.target = x := h2
        rw [e] at hl
        exact .inl ⟨(x - 97).toNat, by omega, by omega, j, h1, h2⟩
      · exact .inr (by rw [if_pos (decide_eq_true h1)]; simp [h2])
  rw [hl]
  constructor
  · rintro (⟨j, h1, h2⟩ | ⟨h1, h2⟩)
    · have hc := h.case j h1
      have h3 := caseB_le hc
      have h4 := caseB_low hc
      have h5 := caseB_high hc
      obtain ⟨i, hi⟩ : ∃ i : Nat, d[j]!.low = i := ⟨d[j]!.low.toNat, by omega⟩
      refine ⟨i, by omega, ?_⟩
      rw [← h2]
      refine goB_hit (atN_hit h1 (by simp only [hasB, decide_eq_true_eq]; omega) fun q hq => ?_)
      have := h.before hq h1
      simp only [hasB, decide_eq_false_iff_not]
      omega
    · rw [← cov_count h] at h1
      obtain ⟨i, h3, h4⟩ := cntK_ex (covB d) 32 h1
      refine ⟨i, h3, ?_⟩
      rw [h2]
      refine goB_miss ?_
      simp only [covB, decide_eq_false_iff_not] at h4
      rcases atN_cases d (i : Int) with ⟨k, _, h6, _, _⟩ | ⟨h5, _⟩
      · omega
      · exact h5
  · rintro ⟨i, h1, h2⟩
    rcases atN_cases d (i : Int) with ⟨k, h3, h4, _, _⟩ | ⟨h3, _⟩
    · exact .inl ⟨k, h3, by rw [← h2, goB_hit h4]⟩
    · refine .inr ⟨?_, by rw [← h2, goB_miss h3]⟩
      rw [← cov_count h]
      exact cntK_lt h1 (by simp [covB, h3])
theorem lettersZ_nodup (d : Array CaseD) (z : Bool) : (lettersZ d z).Nodup := (lettersZ_asc d z).imp fun h => by omega
theorem seen_len {d : Array CaseD} {rest : Int} (h : SwOK d rest) : (seenL d 32).length = (lettersZ d (decide (keysN d rest < 32))).length :=
  ((List.perm_ext_iff_of_nodup (seenL_nodup d 32) (lettersZ_nodup d _)).2 fun x => by rw [seenL_mem, all_mem h]).length_eq
end Go.Proofs.YtoiljohaicpncaaDoor
