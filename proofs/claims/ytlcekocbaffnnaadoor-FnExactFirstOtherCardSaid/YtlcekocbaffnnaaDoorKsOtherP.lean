/- The keys whose target is not that of the key before them, and the first key that two switches lead to other targets: plain. No walk. -/
import Derived.Test.YtlcekocbaffnnaaDoorKsMergeP
namespace Go.Proofs.YtlcekocbaffnnaaDoor
open Go.RowKit Go.Shelf Go.Lib Go.Sort

def sameB (a b : ByteArray) : Bool := a.toList == b.toList
theorem sameB_iff (a b : ByteArray) : sameB a b = true ↔ a = b := by
  simp only [sameB, beq_iff_eq, ByteArray.toList_eq]
  constructor
  · intro h
    apply ByteArray.ext
    apply Array.ext'
    exact h
  · rintro rfl
    rfl
theorem sameB_false (a b : ByteArray) : sameB a b = false ↔ a ≠ b := by rw [← Bool.not_eq_true, sameB_iff]

/-! borders -/
def bordTo (d : Array CaseD) : Nat → List Int
  | 0 => []
  | k + 1 => bordTo d k ++ (if sameB (goesN d ((k + 1 : Nat) : Int)) (goesN d (k : Int)) = true then [] else [((k + 1 : Nat) : Int)])
theorem bordTo_same {d : Array CaseD} {m : Nat} : ∀ n, (∀ q, m ≤ q → q < m + n → goesN d ((q + 1 : Nat) : Int) = goesN d (q : Int)) → bordTo d (m + n) = bordTo d m
  | 0, _ => rfl
  | n + 1, h => by
    rw [show bordTo d (m + (n + 1)) = bordTo d (m + n) ++ (if sameB (goesN d ((m + n + 1 : Nat) : Int)) (goesN d ((m + n : Nat) : Int)) = true then [] else [((m + n + 1 : Nat) : Int)]) from rfl, bordTo_same n (fun q h1 h2 => h q h1 (by omega)), if_pos ((sameB_iff _ _).2 (h (m + n) (by omega) (by omega))), List.append_nil]
def lowsA (a : Array CaseD) : List Int := (a.toList.filter fun c => decide (0 < c.low)).map (·.low)
theorem lowsA_push (a : Array CaseD) (x : CaseD) : lowsA (a.push x) = lowsA a ++ (if 0 < x.low then [x.low] else []) := by
  unfold lowsA
  simp only [Array.toList_push, List.filter_append, List.map_append]
  congr 1
  by_cases h : 0 < x.low <;> simp [h]
theorem lowsA_set (a : Array CaseD) (m : Nat) (x : CaseD) (hm : m < a.size) (hx : x.low = a[m]!.low) : lowsA (a.setIfInBounds m x) = lowsA a := by
  have key : ∀ (l : List CaseD) (m : Nat), (∀ (h : m < l.length), x.low = l[m].low) → ((l.set m x).filter fun c => decide (0 < c.low)).map (·.low) = (l.filter fun c => decide (0 < c.low)).map (·.low) := by
    intro l
    induction l with
    | nil => intro m _; simp
    | cons c l ih =>
      intro m hh
      cases m with
      | zero =>
        have h0 := hh (by simp)
        simp only [List.getElem_cons_zero] at h0
        simp only [List.set_cons_zero, List.filter_cons, h0]
        split <;> simp [h0]
      | succ m =>
        have := ih m (fun h => by have := hh (by simpa using h); simpa using this)
        simp only [List.set_cons_succ, List.filter_cons]
        split <;> simp [this]
  unfold lowsA
  rw [Array.toList_setIfInBounds]
  exact key a.toList m (fun h => by rw [hx]; simp [hm])
theorem lowsA_one {x : CaseD} (h : x.low = 0) : lowsA #[x] = [] := by simp [lowsA, h]

/-- What is merged of the segments so far: its last case ends where they end, and has the target of the last key; its later cases begin at the borders. -/
structure Merged (d : Array CaseD) (l : List CaseD) (e : Nat) (a : Array CaseD) : Prop where
  some : 0 < a.size
  last : a[a.size - 1]!.high + 1 = (e : Int)
  goes : a[a.size - 1]!.target = goesN d ((e : Int) - 1)
  lows : lowsA a = bordTo d (e - 1)
theorem merged_step {d : Array CaseD} {l : List CaseD} {e : Nat} {a : Array CaseD} (h : Merged d l e a) (he : 0 < e) {x : CaseD} (hx : x.low = (e : Int)) (hle : x.low ≤ x.high)
    (ht : ∀ key, hasB x key = true → goesN d key = x.target) : Merged d (l ++ [x]) (x.high + 1).toNat (mstep adjB a x) := by
  obtain ⟨q, rfl⟩ : ∃ q, e = q + 1 := ⟨e - 1, by omega⟩
  obtain ⟨n, hn⟩ : ∃ n, a.size = n + 1 := ⟨a.size - 1, by have := h.some; omega⟩
  obtain ⟨t, hxt⟩ : ∃ t : Nat, x.high = ((q + 1 + t : Nat) : Int) := ⟨(x.high - x.low).toNat, by omega⟩
  have hlast := h.last
  have hgoes := h.goes
  have hlows := h.lows
  rw [show a.size - 1 = n by omega] at hlast hgoes
  have e1 : ((q + 1 : Nat) : Int) - 1 = (q : Int) := by omega
  rw [e1] at hgoes
  have e2 : (x.high + 1).toNat = q + 1 + t + 1 := by omega
  have g1 : goesN d ((q + 1 : Nat) : Int) = x.target := ht _ (by simp only [hasB, decide_eq_true_eq]; omega)
  have hb : bordTo d (q + 1 + t) = bordTo d (q + 1) := bordTo_same t fun p h1 h2 => by
    rw [ht ((p + 1 : Nat) : Int) (by simp only [hasB, decide_eq_true_eq]; omega), ht (p : Int) (by simp only [hasB, decide_eq_true_eq]; omega)]
  have hb1 : bordTo d (q + 1) = bordTo d q ++ (if sameB (goesN d ((q + 1 : Nat) : Int)) (goesN d (q : Int)) = true then [] else [((q + 1 : Nat) : Int)]) := rfl
  have g2 : goesN d (((q + 1 + t + 1 : Nat) : Int) - 1) = x.target := ht _ (by simp only [hasB, decide_eq_true_eq]; omega)
  have hadj : adjB a[n]! x = sameB x.target a[n]!.target := by
    unfold adjB sameB
    have : x.low = a[n]!.high + 1 := by rw [hx]; exact hlast.symm
    simp [this]
  simp only [Nat.add_sub_cancel] at hlows
  rw [e2]
  cases hj : sameB x.target a[n]!.target with
  | true =>
    have hne : n < a.size := by omega
    have hjj : adjB a[n]! x = true := by rw [hadj]; exact hj
    rw [mstep_join hn hjj]
    have hgl : (a.setIfInBounds n (oneC a[n]! x))[(a.setIfInBounds n (oneC a[n]! x)).size - 1]! = oneC a[n]! x := by
      rw [Array.size_setIfInBounds, hn, Nat.add_sub_cancel, getElem!_set_same _ _ _ hne]
    have hst := (sameB_iff _ _).1 hj
    refine ⟨by simp; omega, ?_, ?_, ?_⟩
    · rw [hgl]; show x.high + 1 = _; omega
    · rw [hgl, g2]; exact hst.symm
    · rw [lowsA_set a n (oneC a[n]! x) hne rfl, hlows, Nat.add_sub_cancel, hb, hb1, if_pos ((sameB_iff _ _).2 (by rw [g1, hst, hgoes])), List.append_nil]
  | false =>
    have hjj : adjB a[n]! x = false := by rw [hadj]; exact hj
    rw [mstep_push hn hjj]
    have hgl : (a.push x)[(a.push x).size - 1]! = x := by simp
    refine ⟨by simp, ?_, ?_, ?_⟩
    · rw [hgl]; omega
    · rw [hgl, g2]
    · rw [lowsA_push, hlows, Nat.add_sub_cancel, hb, hb1, if_neg (show ¬ sameB (goesN d ((q + 1 : Nat) : Int)) (goesN d (q : Int)) = true by rw [g1, ← hgoes, hj]; simp), hx, if_pos (show (0 : Int) < ((q + 1 : Nat) : Int) by omega)]
theorem merged_first {d : Array CaseD} {x : CaseD} (h0 : x.low = 0) (hle : x.low ≤ x.high) (ht : ∀ key, hasB x key = true → goesN d key = x.target) : Merged d [x] (x.high + 1).toNat (mergeA adjB [x]) := by
  have e : mergeA adjB [x] = #[x] := by simp [mergeA, mstep]
  obtain ⟨t, hxt⟩ : ∃ t : Nat, x.high = (t : Int) := ⟨x.high.toNat, by omega⟩
  have e2 : (x.high + 1).toNat = t + 1 := by omega
  rw [e, e2]
  refine ⟨by simp, ?_, ?_, ?_⟩
  · show x.high + 1 = _; omega
  · show x.target = _
    exact (ht _ (by simp only [hasB, decide_eq_true_eq]; omega)).symm
  · rw [lowsA_one h0, Nat.add_sub_cancel]
    have := bordTo_same (d := d) (m := 0) t fun p _ h2 => by
      rw [ht ((p + 1 : Nat) : Int) (by simp only [hasB, decide_eq_true_eq]; omega), ht (p : Int) (by simp only [hasB, decide_eq_true_eq]; omega)]
    rw [Nat.zero_add] at this
    rw [this]
    rfl
theorem merged_fold {d : Array CaseD} : ∀ (m l : List CaseD) (e : Nat) (a : Array CaseD), Merged d l e a → 0 < e → contL (e : Int) m → (∀ c ∈ m, ∀ key, hasB c key = true → goesN d key = c.target) →
    Merged d (l ++ m) (endL (e : Int) m).toNat (m.foldl (mstep adjB) a)
  | [], l, e, a, h, _, _, _ => by simpa [endL] using h
  | x :: m, l, e, a, h, he, hc, ht => by
    obtain ⟨h1, h2, h3⟩ := hc
    have hs := merged_step h he h1 h2 (ht x (by simp))
    have hcast : (((x.high + 1).toNat : Nat) : Int) = x.high + 1 := by omega
    have := merged_fold m (l ++ [x]) (x.high + 1).toNat (mstep adjB a x) hs (by omega) (by rw [hcast]; exact h3) (fun c hc' => ht c (by simp [hc']))
    rw [hcast] at this
    simpa [endL] using this
/-- The borders of a valid switch. -/
theorem borders_of {d : Array CaseD} {rest : Int} (h : SwOK d rest) : lowsA (mergeA adjB (segs d rest)) = bordTo d 31 := by
  obtain ⟨h1, h2⟩ := segs_cont h
  have ht := fun c hc key (hh : hasB c key = true) => segs_target h (key := key) c hc hh
  generalize segs d rest = l at h1 h2 ht
  cases l with
  | nil => simp [endL] at h2
  | cons x m =>
    obtain ⟨c1, c2, c3⟩ := h1
    have hf := merged_first c1 c2 (ht x (by simp))
    have hcast : (((x.high + 1).toNat : Nat) : Int) = x.high + 1 := by omega
    have := merged_fold m [x] (x.high + 1).toNat _ hf (by omega) (by rw [hcast]; exact c3) (fun c hc => ht c (by simp [hc]))
    rw [hcast] at this
    have e : endL (x.high + 1) m = 32 := h2
    rw [e] at this
    have hl := this.lows
    exact hl

/-! the first key that two switches lead to other targets -/
def diffB (da db : Array CaseD) (k : Nat) : Bool := !sameB (goesN da (k : Int)) (goesN db (k : Int))
def firstB (f : Nat → Bool) : Nat → Int
  | 0 => -1
  | n + 1 => if 0 ≤ firstB f n then firstB f n else if f n = true then (n : Int) else -1
theorem firstB_miss {f : Nat → Bool} : ∀ n, (∀ j, j < n → f j = false) → firstB f n = -1
  | 0, _ => rfl
  | n + 1, h => by
    have h1 := firstB_miss n (fun j hj => h j (by omega))
    simp only [firstB, h1]
    rw [if_neg (by omega), if_neg (by rw [h n (by omega)]; simp)]
theorem firstB_hit {f : Nat → Bool} {k : Nat} (hk : f k = true) (hb : ∀ j, j < k → f j = false) : ∀ n, k < n → firstB f n = k
  | 0, h => absurd h (Nat.not_lt_zero k)
  | n + 1, h => by
    by_cases e : k = n
    · subst e
      have h1 := firstB_miss k hb
      simp only [firstB, h1]
      rw [if_neg (by omega), if_pos hk]
    · have h1 := firstB_hit hk hb n (by omega)
      simp only [firstB, h1]
      rw [if_pos (by omega)]
end Go.Proofs.YtlcekocbaffnnaaDoor
