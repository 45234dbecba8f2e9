/- Two switches gone through at once, plain. No walk. -/
import Derived.Test.YtlcekocbaffnnaaDoorKsOtherP
namespace Go.Proofs.YtlcekocbaffnnaaDoor
open Go.RowKit Go.Shelf Go.Lib Go.Sort

/-- One cursor: the segment that it stands in, and those behind it. -/
structure Cur (d : Array CaseD) (x : CaseD) (t : List CaseD) : Prop where
  ok : okB x = true
  oks : ∀ c ∈ t, okB c = true
  cont : contL (x.high + 1) t
  last : endL (x.high + 1) t = 32
  tg : ∀ c ∈ x :: t, ∀ key, hasB c key = true → goesN d key = c.target
structure Run (da db : Array CaseD) (x y : CaseD) (t u : List CaseD) : Prop where
  a : Cur da x t
  b : Cur db y u
  pa : y.low ≤ x.high
  pb : x.low ≤ y.high
  before : ∀ q : Nat, (q : Int) < x.low ∨ (q : Int) < y.low → diffB da db q = false

theorem Cur.bounds {d : Array CaseD} {x : CaseD} {t : List CaseD} (h : Cur d x t) : 0 ≤ x.low ∧ x.low ≤ x.high ∧ x.high ≤ 31 := by
  have := h.ok
  rw [okB_iff] at this
  exact ⟨this.1, this.2.1, this.2.2.1⟩
theorem Cur.next {d : Array CaseD} {x c : CaseD} {t : List CaseD} (h : Cur d x (c :: t)) : Cur d c t ∧ c.low = x.high + 1 :=
  ⟨⟨h.oks c (by simp), fun e he => h.oks e (by simp [he]), h.cont.2.2, h.last, fun e he => h.tg e (by simp only [List.mem_cons] at he ⊢; exact .inr he)⟩, h.cont.1⟩
theorem Cur.more {d : Array CaseD} {x : CaseD} {t : List CaseD} (h : Cur d x t) (hx : x.high < 31) : ∃ c u, t = c :: u := by
  cases t with
  | nil => have := h.last; simp only [endL] at this; omega
  | cons c u => exact ⟨c, u, rfl⟩
theorem Cur.done {d : Array CaseD} {x : CaseD} {t : List CaseD} (h : Cur d x t) (hx : x.high = 31) : t = [] := by
  cases t with
  | nil => rfl
  | cons c u =>
    have h1 := h.next.1.bounds
    have h2 := h.next.2
    omega
theorem diff_true {da db : Array CaseD} {x y : CaseD} {t u : List CaseD} (ha : Cur da x t) (hb : Cur db y u) {q : Nat} (h1 : hasB x (q : Int) = true) (h2 : hasB y (q : Int) = true) : diffB da db q = !sameB x.target y.target := by
  unfold diffB
  rw [ha.tg x (by simp) _ h1, hb.tg y (by simp) _ h2]
theorem run_diff {da db : Array CaseD} {x y : CaseD} {t u : List CaseD} (h : Run da db x y t u) (hd : sameB x.target y.target = false) : firstB (diffB da db) 32 = (if x.low ≤ y.low then y.low else x.low) := by
  have ba := h.a.bounds
  have bb := h.b.bounds
  have pa := h.pa
  have pb := h.pb
  obtain ⟨p, hp⟩ : ∃ p : Nat, (p : Int) = (if x.low ≤ y.low then y.low else x.low) := by
    split
    · exact ⟨y.low.toNat, by omega⟩
    · exact ⟨x.low.toNat, by omega⟩
  rw [← hp]
  have hp2 : (x.low ≤ y.low ∧ (p : Int) = y.low) ∨ (y.low < x.low ∧ (p : Int) = x.low) := by
    by_cases hc : x.low ≤ y.low
    · rw [if_pos hc] at hp; exact .inl ⟨hc, hp⟩
    · rw [if_neg hc] at hp; exact .inr ⟨by omega, hp⟩
  refine firstB_hit ?_ (fun j hj => h.before j (by omega)) 32 (by omega)
  rw [diff_true h.a h.b (by simp only [hasB, decide_eq_true_eq]; omega) (by simp only [hasB, decide_eq_true_eq]; omega), hd]
  rfl
theorem run_upto {da db : Array CaseD} {x y : CaseD} {t u : List CaseD} (h : Run da db x y t u) (hd : sameB x.target y.target = true) : ∀ q : Nat, (q : Int) ≤ x.high → (q : Int) ≤ y.high → diffB da db q = false := fun q h1 h2 => by
  by_cases hq : (q : Int) < x.low ∨ (q : Int) < y.low
  · exact h.before q hq
  · rw [diff_true h.a h.b (by simp only [hasB, decide_eq_true_eq]; omega) (by simp only [hasB, decide_eq_true_eq]; omega), hd]
    rfl
theorem run_a {da db : Array CaseD} {x y c : CaseD} {t u : List CaseD} (h : Run da db x y (c :: t) u) (hd : sameB x.target y.target = true) (hlt : x.high < y.high) : Run da db c y t u := by
  have hn := h.a.next
  have bb := hn.1.bounds
  have pb := h.pb
  refine ⟨hn.1, h.b, by have := h.pa; omega, by omega, fun q hq => ?_⟩
  rcases hq with hq | hq
  · exact run_upto h hd q (by omega) (by omega)
  · exact h.before q (.inr hq)
theorem run_b {da db : Array CaseD} {x y c : CaseD} {t u : List CaseD} (h : Run da db x y t (c :: u)) (hd : sameB x.target y.target = true) (hlt : y.high < x.high) : Run da db x c t u := by
  have hn := h.b.next
  have bb := hn.1.bounds
  refine ⟨h.a, hn.1, by omega, by have := h.pb; omega, fun q hq => ?_⟩
  rcases hq with hq | hq
  · exact h.before q (.inl hq)
  · exact run_upto h hd q (by omega) (by omega)
theorem run_ab {da db : Array CaseD} {x y c e : CaseD} {t u : List CaseD} (h : Run da db x y (c :: t) (e :: u)) (hd : sameB x.target y.target = true) (he : x.high = y.high) : Run da db c e t u := by
  have ha := h.a.next
  have hb := h.b.next
  have b1 := ha.1.bounds
  have b2 := hb.1.bounds
  exact ⟨ha.1, hb.1, by omega, by omega, fun q hq => run_upto h hd q (by omega) (by omega)⟩
theorem run_done {da db : Array CaseD} {x y : CaseD} {t u : List CaseD} (h : Run da db x y t u) (hd : sameB x.target y.target = true) (h1 : x.high = 31) (h2 : y.high = 31) : firstB (diffB da db) 32 = -1 :=
  firstB_miss 32 fun j hj => run_upto h hd j (by omega) (by omega)
theorem cur_first {d : Array CaseD} {rest : Int} (h : SwOK d rest) {x : CaseD} {t : List CaseD} (hs : segs d rest = x :: t) : Cur d x t ∧ x.low = 0 := by
  obtain ⟨h1, h2⟩ := segs_cont h
  have h3 := segs_ok h
  have h4 := fun c hc key (hh : hasB c key = true) => segs_target h (key := key) c hc hh
  rw [hs] at h1 h2 h3 h4
  exact ⟨⟨h3 x (by simp), fun c hc => h3 c (by simp [hc]), h1.2.2, h2, h4⟩, h1.1⟩
theorem run_first {da db : Array CaseD} {ra rb : Int} (ha : SwOK da ra) (hb : SwOK db rb) {x y : CaseD} {t u : List CaseD} (h1 : segs da ra = x :: t) (h2 : segs db rb = y :: u) : Run da db x y t u := by
  obtain ⟨c1, l1⟩ := cur_first ha h1
  obtain ⟨c2, l2⟩ := cur_first hb h2
  have b1 := c1.bounds
  have b2 := c2.bounds
  exact ⟨c1, c2, by omega, by omega, fun q hq => by omega⟩
theorem segs_some {d : Array CaseD} {rest : Int} (h : SwOK d rest) : ∃ x t, segs d rest = x :: t := by
  have h2 := (segs_cont h).2
  cases hs : segs d rest with
  | nil => rw [hs] at h2; simp [endL] at h2
  | cons x t => exact ⟨x, t, rfl⟩
end Go.Proofs.YtlcekocbaffnnaaDoor
