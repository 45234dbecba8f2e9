
/- How many keys have a case, counted key by key; the byte of each key's target. No walk. -/
import Derived.Test.YtjpcpiffffobcaaGreatDoorKsGo
import Derived.Lib.AppendStr
namespace Go.Proofs.YtjpcpiffffobcaaGreatDoor
open Go.RowKit Go.Shelf Go.Lib Go.Sort

def tgJ (d : Array CaseD) (j : Nat) : Int := tg0 d[j]!.target
theorem one_byte {s : ByteArray} (h : s.size = 1) : ∃ b : UInt8, s = ⟨#[b]⟩ := by
  obtain ⟨⟨l⟩⟩ := s
  match l, h with
  | [b], _ => exact ⟨b, rfl⟩
theorem strCells_one {s : ByteArray} (h : s.size = 1) : Lib.strCells s = [.int .u8 (tg0 s)] := by
  obtain ⟨b, rfl⟩ := one_byte h
  rfl
theorem caseB_letter {c : CaseD} (h : caseB c = true) : 97 ≤ tg0 c.target ∧ tg0 c.target ≤ 104 := by
  simp [caseB, oneB, tgtB] at h
  exact h.1.1.1.1.2
def cntK (p : Nat → Bool) : Nat → Int
  | 0 => 0
  | n + 1 => cntK p n + (if p n = true then 1 else 0)
theorem cntK_or (p q : Nat → Bool) (hd : ∀ i, ¬ (p i = true ∧ q i = true)) : ∀ n, cntK (fun i => p i || q i) n = cntK p n + cntK q n
  | 0 => rfl
  | n + 1 => by
    have ih := cntK_or p q hd n
    have := hd n
    simp only [cntK, ih]
    by_cases hp : p n = true <;> by_cases hq : q n = true
    · exact absurd ⟨hp, hq⟩ this
    all_goals
      simp only [hp, hq, Bool.or_true, Bool.or_false, if_true]
      try simp only [if_false, Bool.false_eq_true]
      try omega
theorem cntK_range (lo hi : Int) (h0 : 0 ≤ lo) (h1 : lo ≤ hi) : ∀ n : Nat, cntK (fun i => decide (lo ≤ (i : Int) ∧ (i : Int) ≤ hi)) n = (if (n : Int) ≤ lo then 0 else if (n : Int) ≤ hi + 1 then n - lo else hi + 1 - lo)
  | 0 => by simp [cntK, h0]
  | n + 1 => by
    simp only [cntK, cntK_range lo hi h0 h1 n, decide_eq_true_eq]
    repeat' split
    all_goals omega
theorem cntK_congr {p q : Nat → Bool} : ∀ {n : Nat}, (∀ i, i < n → p i = q i) → cntK p n = cntK q n
  | 0, _ => rfl
  | n + 1, h => by rw [cntK, cntK, cntK_congr (n := n) fun i hi => h i (by omega), h n (by omega)]
theorem cntK_le (p : Nat → Bool) : ∀ n, 0 ≤ cntK p n ∧ cntK p n ≤ n
  | 0 => by simp [cntK]
  | n + 1 => by have := cntK_le p n; simp only [cntK]; split <;> omega
theorem cntK_all (p : Nat → Bool) : ∀ n : Nat, cntK p n = n → ∀ i, i < n → p i = true
  | 0, _, i, hi => absurd hi (Nat.not_lt_zero i)
  | n + 1, h, i, hi => by
    have := cntK_le p n
    simp only [cntK] at h
    split at h
    · next hp =>
      by_cases e : i = n
      · rw [e]; exact hp
      · exact cntK_all p n (by omega) i (by omega)
    · omega
theorem cntK_ex (p : Nat → Bool) : ∀ n : Nat, cntK p n < n → ∃ i, i < n ∧ p i = false
  | 0, h => by simp [cntK] at h
  | n + 1, h => by
    cases hp : p n with
    | false => exact ⟨n, by omega, hp⟩
    | true =>
      simp only [cntK, hp, if_true] at h
      obtain ⟨i, h1, h2⟩ := cntK_ex p n (by omega)
      exact ⟨i, by omega, h2⟩
theorem cntK_none {p : Nat → Bool} (h : ∀ i, p i = false) : ∀ n, cntK p n = 0
  | 0 => rfl
  | n + 1 => by rw [cntK, cntK_none h n, h n]; rfl
theorem cntK_lt {p : Nat → Bool} {n i : Nat} (hi : i < n) (hp : p i = false) : cntK p n < n := by
  have h1 := (cntK_le p n).2
  by_cases h : cntK p n = n
  · rw [cntK_all p n h i hi] at hp; cases hp
  · omega

def covB (d : Array CaseD) (i : Nat) : Bool := decide (0 ≤ atN d (i : Int))
def anyB (d : Array CaseD) : Nat → Nat → Bool
  | 0, _ => false
  | m + 1, i => anyB d m i || hasB d[m]! (i : Int)
theorem anyB_iff (d : Array CaseD) (i : Nat) : ∀ m, anyB d m i = true ↔ ∃ j, j < m ∧ hasB d[j]! (i : Int) = true
  | 0 => by simp [anyB]
  | m + 1 => by
    rw [anyB, Bool.or_eq_true, anyB_iff d i m]
    constructor
    · rintro (⟨j, h1, h2⟩ | h)
      · exact ⟨j, by omega, h2⟩
      · exact ⟨m, by omega, h⟩
    · rintro ⟨j, h1, h2⟩
      by_cases e : j = m
      · subst e; exact .inr h2
      · exact .inl ⟨j, by omega, h2⟩
theorem cov_any (d : Array CaseD) (i : Nat) : covB d i = anyB d d.size i := by
  rw [Bool.eq_iff_iff, anyB_iff, covB, decide_eq_true_eq]
  rcases atN_cases d (i : Int) with ⟨k, h1, h2, h3, _⟩ | ⟨h1, h2⟩
  · exact ⟨fun _ => ⟨k, h1, h3⟩, fun _ => by omega⟩
  · refine ⟨fun h => by omega, ?_⟩
    rintro ⟨j, h3, h4⟩
    rw [h2 j h3] at h4
    cases h4
theorem any_count {d : Array CaseD} {rest : Int} (h : SwOK d rest) : ∀ m, m ≤ d.size → cntK (anyB d m) 32 = sumTo (keyW d) m
  | 0, _ => cntK_none (fun _ => rfl) 32
  | m + 1, hm => by
    have ih := any_count h m (by omega)
    have hc := h.case m (by omega)
    have h1 := caseB_le hc
    have hk : 0 ≤ d[m]!.low ∧ d[m]!.high ≤ 31 := by
      have := caseB_low hc
      have := caseB_high hc
      omega
    have e : cntK (anyB d (m + 1)) 32 = cntK (fun i => anyB d m i || hasB d[m]! (i : Int)) 32 := rfl
    rw [e, cntK_or _ _ ?_ 32, ih, sumTo]
    · have := cntK_range d[m]!.low d[m]!.high hk.1 h1 32
      unfold hasB keyW
      rw [this]
      have h32 : ((32 : Nat) : Int) = 32 := rfl
      rw [h32, if_neg (by omega), ]
      split <;> omega
    · rintro i ⟨ha, hb⟩
      obtain ⟨j, h2, h3⟩ := (anyB_iff d i m).1 ha
      have := h.before h2 (by omega)
      simp only [hasB, decide_eq_true_eq] at h3 hb
      omega
theorem cov_count {d : Array CaseD} {rest : Int} (h : SwOK d rest) : cntK (covB d) 32 = keysN d rest := by
  rw [keysN, if_pos ((swB_iff _ _).2 h), ← any_count h d.size (Nat.le_refl _)]
  exact cntK_congr fun i _ => cov_any d i

/-- The byte of a key's target. -/
def goB (d : Array CaseD) (i : Nat) : Int := tg0 (goesN d (i : Int))
theorem goB_hit {d : Array CaseD} {i k : Nat} (h : atN d (i : Int) = k) : goB d i = tgJ d k := by rw [goB, goesN_hit h]; rfl
theorem goB_miss {d : Array CaseD} {i : Nat} (h : atN d (i : Int) = -1) : goB d i = 122 := by rw [goB, goesN_miss h]; rfl
theorem tg0_one {s : ByteArray} (h : s.size = 1) : s = ⟨#[UInt8.ofNat (tg0 s).toNat]⟩ := by
  obtain ⟨b, rfl⟩ := one_byte h
  have : tg0 ⟨#[b]⟩ = (b.toNat : Int) := rfl
  rw [this]
  simp
theorem goesN_size {d : Array CaseD} {rest : Int} (h : SwOK d rest) (i : Int) : (goesN d i).size = 1 := by
  rcases atN_cases d i with ⟨k, h1, h2, _, _⟩ | ⟨h1, _⟩
  · rw [goesN_hit h2]; have := h.case k h1; simp [caseB, oneB] at this; exact this.1.1.1.1.1
  · rw [goesN_miss h1]; rfl
theorem goesN_byte {d : Array CaseD} {rest : Int} (h : SwOK d rest) (i : Nat) : goesN d (i : Int) = ⟨#[UInt8.ofNat (goB d i).toNat]⟩ := tg0_one (goesN_size h _)
theorem goB_range {d : Array CaseD} {rest : Int} (h : SwOK d rest) (i : Nat) : 97 ≤ goB d i ∧ goB d i ≤ 122 := by
  rcases atN_cases d (i : Int) with ⟨k, h1, h2, _, _⟩ | ⟨h1, _⟩
  · rw [goB_hit h2]; have := caseB_letter (h.case k h1); unfold tgJ; omega
  · rw [goB_miss h1]; omega
end Go.Proofs.YtjpcpiffffobcaaGreatDoor
