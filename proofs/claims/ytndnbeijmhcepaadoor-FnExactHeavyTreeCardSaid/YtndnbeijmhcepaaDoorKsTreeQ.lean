
/- Trees made of segments: plain mathematics. -/
import Derived.Test.YtndnbeijmhcepaaDoorKsTreeA
import Derived.Test.YtndnbeijmhcepaaDoorKsMergeP
namespace Go.Proofs.YtndnbeijmhcepaaDoor
open Go.Lib

def tgC (c : CaseD) : UInt8 := c.target.data[0]!
theorem tgC_eq {c : CaseD} (h : c.target.size = 1) : c.target = ⟨#[tgC c]⟩ := by
  obtain ⟨lo, hi, ⟨⟨l⟩⟩, wt⟩ := c
  match l, h with
  | [a], _ => rfl
/-- The tree of segments that are parted ahead of the one whose index P tells. -/
def partT (P : List CaseD → Nat) : Nat → List CaseD → TreeD
  | 0, _ => .leaf 122
  | f + 1, l => if l.length ≤ 1 then .leaf (tgC l[0]!) else .cmp l[P l]!.low (partT P f (l.take (P l))) (partT P f (l.drop (P l)))
/-- Where a part lies: behind some, ahead of some. -/
def PartOk (P : List CaseD → Nat) : Prop := ∀ l : List CaseD, 2 ≤ l.length → 1 ≤ P l ∧ P l < l.length
/-- Segments that may be made into a tree: lows from 1 on but for the first, letters. -/
def SegL (first : Bool) (l : List CaseD) : Prop := (∀ c ∈ l, okB c = true ∧ tgU (tgC c) = true) ∧ ∀ i, (first = false ∨ 0 < i) → i < l.length → 1 ≤ l[i]!.low ∧ l[i]!.low ≤ 31
theorem get_take {l : List CaseD} {n i : Nat} (h : i < (l.take n).length) : (l.take n)[i]! = l[i]! := by
  have h1 : i < l.length := by rw [List.length_take] at h; omega
  rw [getElem!_pos (l.take n) i h, getElem!_pos l i h1, List.getElem_take]
theorem get_drop {l : List CaseD} {n i : Nat} (h : i < (l.drop n).length) : (l.drop n)[i]! = l[n + i]! := by
  have h1 : n + i < l.length := by rw [List.length_drop] at h; omega
  rw [getElem!_pos (l.drop n) i h, getElem!_pos l (n + i) h1, List.getElem_drop]
theorem SegL.take {b : Bool} {l : List CaseD} (h : SegL b l) (n : Nat) : SegL b (l.take n) :=
  ⟨fun c hc => h.1 c (List.mem_of_mem_take hc), fun i hi hl => by rw [get_take hl]; exact h.2 i hi (by rw [List.length_take] at hl; omega)⟩
theorem SegL.drop {b : Bool} {l : List CaseD} (h : SegL b l) {n : Nat} (hn : 0 < n) : SegL false (l.drop n) :=
  ⟨fun c hc => h.1 c (List.mem_of_mem_drop hc), fun i _ hl => by rw [get_drop hl]; exact h.2 (n + i) (.inr (by omega)) (by rw [List.length_drop] at hl; omega)⟩
theorem partT_good {P : List CaseD → Nat} (hP : PartOk P) : ∀ (f : Nat) (b : Bool) (l : List CaseD), SegL b l → 0 < l.length → goodT (partT P f l)
  | 0, _, _, _, _ => (show tgU 122 = true by decide)
  | f + 1, b, l, h, h0 => by
    rw [partT]
    by_cases h1 : l.length ≤ 1
    · rw [if_pos h1]
      exact (h.1 l[0]! (by rw [getElem!_pos l 0 h0]; exact List.getElem_mem _)).2
    · rw [if_neg h1]
      obtain ⟨p1, p2⟩ := hP l (by omega)
      exact ⟨h.2 _ (.inr (by omega)) p2, partT_good hP f b _ (h.take _) (by rw [List.length_take]; omega), partT_good hP f false _ (h.drop (by omega)) (by rw [List.length_drop]; omega)⟩
theorem partT_count {P : List CaseD → Nat} (hP : PartOk P) : ∀ (f : Nat) (l : List CaseD), 0 < l.length → l.length ≤ f → countT (partT P f l) + 1 = l.length
  | 0, l, h0, hf => by omega
  | f + 1, l, h0, hf => by
    rw [partT]
    by_cases h1 : l.length ≤ 1
    · rw [if_pos h1]; simp only [countT]; omega
    · rw [if_neg h1]
      obtain ⟨p1, p2⟩ := hP l (by omega)
      have e1 := partT_count hP f (l.take (P l)) (by rw [List.length_take]; omega) (by rw [List.length_take]; omega)
      have e2 := partT_count hP f (l.drop (P l)) (by rw [List.length_drop]; omega) (by rw [List.length_drop]; omega)
      rw [List.length_take] at e1
      rw [List.length_drop] at e2
      simp only [countT]
      omega
theorem text_count {t : TreeD} (h : goodT t) : (textL t).length ≤ 1 + 6 * countT t := by
  induction t with
  | leaf c => simp [textL]
  | cmp k l r h1 h2 =>
    have := decDigits_le h.1.1 h.1.2
    have a := h1 h.2.1
    have b := h2 h.2.2
    simp only [textL, countT, List.length_cons, List.length_append, List.length_nil]
    omega

/-! the segments of a valid switch -/
theorem cont_low : ∀ (l : List CaseD) (a : Int), contL a l → (∀ c ∈ l, okB c = true) → ∀ i, i < l.length → a + i ≤ l[i]!.low
  | [], _, _, _, i, hi => by simp at hi
  | c :: l, a, h, hok, i, hi => by
    have hc := (okB_iff c).1 (hok c (by simp))
    obtain ⟨e, _, h2⟩ := h
    cases i with
    | zero => simp; omega
    | succ i =>
      have := cont_low l _ h2 (fun x hx => hok x (by simp [hx])) i (by simpa using hi)
      simp only [List.getElem!_cons_succ]
      omega
theorem seg_tg {d : Array CaseD} {rest : Int} (h : SwOK d rest) : ∀ c ∈ segs d rest, tgU (tgC c) = true := by
  have hz : ∀ a b, tgU (tgC (gapC rest a b)) = true := fun _ _ => rfl
  have hcs : ∀ c : CaseD, caseB c = true → tgU (tgC c) = true := fun c hc => by
    simp only [caseB, oneB, Bool.and_eq_true, decide_eq_true_eq] at hc
    have h1 := hc.1.1.1.1.1
    have h2 := hc.1.1.1.1.2
    have e0 : tg0 c.target = ((tgC c).toNat : Int) := by rw [tgC_eq h1]; rfl
    rw [e0] at h2
    simp only [tgtB, decide_eq_true_eq] at h2
    simp only [tgU, Bool.or_eq_true, Bool.and_eq_true, decide_eq_true_eq]
    left
    omega
  have ht : ∀ k, k ≤ d.size → ∀ c ∈ segTo d rest k, tgU (tgC c) = true := by
    intro k
    induction k with
    | zero => intro _ c hc; simp [segTo] at hc
    | succ k ih =>
      intro hk c hc
      rw [segTo] at hc
      simp only [List.mem_append, List.mem_singleton] at hc
      rcases hc with (hc | hc) | rfl
      · exact ih (by omega) c hc
      · split at hc
        · simp only [List.mem_singleton] at hc; rw [hc]; exact hz _ _
        · cases hc
      · exact hcs _ (h.case k (by omega))
  intro c hc
  rw [segs] at hc
  simp only [List.mem_append] at hc
  rcases hc with hc | hc
  · exact ht _ (Nat.le_refl _) c hc
  · split at hc
    · simp only [List.mem_singleton] at hc; rw [hc]; exact hz _ _
    · cases hc
theorem segs_segL {d : Array CaseD} {rest : Int} (h : SwOK d rest) : SegL true (segs d rest) :=
  ⟨fun c hc => ⟨segs_ok h c hc, seg_tg h c hc⟩, fun i hi hl => by
    have hc := (okB_iff _).1 (segs_ok h (segs d rest)[i]! (by rw [getElem!_pos _ i hl]; exact List.getElem_mem _))
    have := cont_low _ 0 (segs_cont h).1 (segs_ok h) i hl
    have hi : 0 < i := by rcases hi with hi | hi; cases hi; exact hi
    omega⟩
theorem segs_pos {d : Array CaseD} {rest : Int} (h : SwOK d rest) : 0 < (segs d rest).length := by
  have := (segs_cont h).2
  rcases Nat.eq_zero_or_pos (segs d rest).length with h0 | h0
  · rw [List.length_eq_zero_iff.1 h0] at this; simp [endL] at this
  · exact h0

/-! parting in the middle, and by weights -/
def midP (l : List CaseD) : Nat := l.length / 2
theorem midP_ok : PartOk midP := fun l h => by simp only [midP]; omega
def wsum (l : List CaseD) : Int := l.foldl (fun n c => n + c.weight) 0
def apartI (l : List CaseD) (k : Nat) : Int := max (wsum (l.take k) - wsum (l.drop k)) (-(wsum (l.take k) - wsum (l.drop k)))
/-- The first index up to k, from 1 on, with the least difference. -/
def bestI (l : List CaseD) : Nat → Nat
  | 0 => 1
  | 1 => 1
  | k + 2 => if apartI l (k + 2) < apartI l (bestI l (k + 1)) then k + 2 else bestI l (k + 1)
def heavyP (l : List CaseD) : Nat := bestI l (l.length - 1)
theorem bestI_in (l : List CaseD) : ∀ k, 1 ≤ bestI l k ∧ (1 ≤ k → bestI l k ≤ k)
  | 0 => ⟨Nat.le_refl _, by omega⟩
  | 1 => ⟨Nat.le_refl _, fun _ => Nat.le_refl _⟩
  | k + 2 => by
    have := bestI_in l (k + 1)
    rw [bestI]
    split <;> omega
theorem heavyP_ok : PartOk heavyP := fun l h => by
  have := bestI_in l (l.length - 1)
  simp only [heavyP]
  omega
theorem wsum_snoc (l : List CaseD) (c : CaseD) : wsum (l ++ [c]) = wsum l + c.weight := by simp [wsum, List.foldl_append]
theorem wsum_bound : ∀ (n : Nat) (l : List CaseD), l.length ≤ n → (∀ c ∈ l, okB c = true) → 0 ≤ wsum l ∧ wsum l ≤ 99 * l.length := by
  have key : ∀ (l : List CaseD) (a : Int), (∀ c ∈ l, okB c = true) → a ≤ l.foldl (fun n c => n + c.weight) a ∧ l.foldl (fun n c => n + c.weight) a ≤ a + 99 * l.length := by
    intro l
    induction l with
    | nil => intro a _; simp
    | cons c l ih =>
      intro a h
      have hc := (okB_iff c).1 (h c (by simp))
      have := ih (a + c.weight) (fun x hx => h x (by simp [hx]))
      simp only [List.foldl_cons, List.length_cons]
      omega
  intro _ l _ h
  have := key l 0 h
  simp only [wsum]
  omega
end Go.Proofs.YtndnbeijmhcepaaDoor
