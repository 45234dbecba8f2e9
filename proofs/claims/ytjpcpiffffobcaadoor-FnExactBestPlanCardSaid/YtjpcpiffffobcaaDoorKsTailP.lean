
/- The best plan, plain: prices from each case on, the last case of its first cluster. A block of integers by a function. No walk but of the block. -/
import Derived.Test.YtjpcpiffffobcaaDoorKsPri
namespace Go.Proofs.YtjpcpiffffobcaaDoor
open Go.RowKit Go.Shelf Go.Lib Go.Sort

theorem bestP8_in {e : Array CaseD} {r : Int} (h : SwOK e r) (h0 : 0 < e.size) : 1 ≤ bestP8 e ∧ bestP8 e ≤ 18 := by
  have ht := tableE_in h h0
  have h2 : (bestTo8 e 2).2 ≠ -1 := by
    show (if priceE e 1 ≠ -1 ∧ ((bestTo8 e 1).2 = -1 ∨ priceE e 1 < (bestTo8 e 1).2) then (nameK 1, priceE e 1) else bestTo8 e 1).2 ≠ -1
    have hp : priceE e 1 = tableE e := rfl
    split
    · show priceE e 1 ≠ -1
      omega
    · next hc =>
      intro h3
      exact hc ⟨by omega, .inl h3⟩
  have h3 : bestP8 e ≠ -1 := by
    show (if priceE e 2 ≠ -1 ∧ ((bestTo8 e 2).2 = -1 ∨ priceE e 2 < (bestTo8 e 2).2) then (nameK 2, priceE e 2) else bestTo8 e 2).2 ≠ -1
    split
    · next hc => exact hc.1
    · exact h2
  have := bestTo8_or h h0 3
  have e3 : (bestTo8 e 3).2 = bestP8 e := rfl
  rw [e3] at this
  omega
abbrev TF8 := Nat → Int × Nat
def costK (d : Array CaseD) (F : TF8) (i k : Nat) : Int := bestP8 (subD d i k) + (if k + 1 < d.size then 2 + (F (k + 1)).1 else 0)
def candT (d : Array CaseD) (F : TF8) (i : Nat) : Nat → Int × Nat
  | 0 => (-1, 0)
  | t + 1 => if (candT d F i t).1 < 0 ∨ costK d F i (i + t) < (candT d F i t).1 then (costK d F i (i + t), i + t) else candT d F i t
def stepT (d : Array CaseD) (F : TF8) (i : Nat) : TF8 := fun j => if j = i then candT d F i (d.size - i) else F j
def tabT (d : Array CaseD) : Nat → TF8
  | 0 => fun _ => (0, 0)
  | m + 1 => stepT d (tabT d m) (d.size - 1 - m)
/-- What is known of the table behind m steps. -/
def TabOK (d : Array CaseD) (m : Nat) (F : TF8) : Prop := (∀ j, d.size ≤ j → (F j).1 = 0) ∧ ∀ j, d.size ≤ j + m → j < d.size → (1 ≤ (F j).1 ∧ (F j).1 ≤ 20 * ((d.size : Int) - j)) ∧ j ≤ (F j).2 ∧ (F j).2 < d.size
theorem costK_in {d : Array CaseD} {rest : Int} (hok : SwOK d rest) {m : Nat} {F : TF8} (h : TabOK d m F) {i k : Nat} (hi : d.size ≤ i + m + 1) (hik : i ≤ k) (hk : k < d.size) : 1 ≤ costK d F i k ∧ costK d F i k ≤ 20 * ((d.size : Int) - i) := by
  have hb := bestP8_in (hok.sub (i := i) hk) (by rw [subD_size hk]; omega)
  unfold costK
  split
  · next h2 =>
    have := (h.2 (k + 1) (by omega) h2).1
    omega
  · omega
theorem candT_in {d : Array CaseD} {rest : Int} (hok : SwOK d rest) {m : Nat} {F : TF8} (h : TabOK d m F) {i : Nat} (hi : d.size ≤ i + m + 1) : ∀ t, i + t < d.size → (1 ≤ (candT d F i (t + 1)).1 ∧ (candT d F i (t + 1)).1 ≤ 20 * ((d.size : Int) - i)) ∧ i ≤ (candT d F i (t + 1)).2 ∧ (candT d F i (t + 1)).2 < d.size
  | 0, ht => by
    have a := costK_in hok h hi (k := i + 0) (by omega) ht
    rw [candT, if_pos (.inl (by show (-1 : Int) < 0; omega))]
    exact ⟨a, by show i ≤ i + 0; omega, ht⟩
  | t + 1, ht => by
    have a := costK_in hok h hi (k := i + (t + 1)) (by omega) ht
    have b := candT_in hok h hi t (by omega)
    rw [candT]
    split
    · exact ⟨a, by show i ≤ i + (t + 1); omega, ht⟩
    · exact b
theorem tabT_ok {d : Array CaseD} {rest : Int} (hok : SwOK d rest) : ∀ m, m ≤ d.size → TabOK d m (tabT d m)
  | 0, _ => ⟨fun _ _ => rfl, fun j h1 h2 => by omega⟩
  | m + 1, hm => by
    have ih := tabT_ok hok m (by omega)
    have hi : d.size ≤ (d.size - 1 - m) + m + 1 := by omega
    refine ⟨fun j hj => ?_, fun j h1 h2 => ?_⟩
    · show (if j = d.size - 1 - m then _ else tabT d m j).1 = 0
      rw [if_neg (by omega)]
      exact ih.1 j hj
    · by_cases e : j = d.size - 1 - m
      · have hc := candT_in hok ih hi (d.size - (d.size - 1 - m) - 1) (by omega)
        have e2 : d.size - (d.size - 1 - m) - 1 + 1 = d.size - (d.size - 1 - m) := by omega
        rw [e2] at hc
        have e3 : tabT d (m + 1) j = candT d (tabT d m) (d.size - 1 - m) (d.size - (d.size - 1 - m)) := if_pos e
        rw [e3, e]
        exact hc
      · have e3 : tabT d (m + 1) j = tabT d m j := if_neg e
        rw [e3]
        exact ih.2 j (by omega) h2
/-- The plan from the i-th case on. -/
def planL (d : Array CaseD) (F : TF8) : Nat → Nat → List (Nat × Nat × ByteArray)
  | 0, _ => []
  | f + 1, i => if i < d.size then (i, (F i).2, bestN8 (subD d i (F i).2)) :: planL d F f ((F i).2 + 1) else []

/-- A block of integers by a function. -/
structure BoxF (w : World) (g n : Nat) (f : Nat → Int) : Prop where
  lt : g < w.heap.size
  cell : ∀ j, j < n → w.cell? ⟨g, j, none⟩ = some (.int .i64 (f j))
  froz : ∀ j, w.frozen? ⟨g, j, none⟩ = false
def updF (f : Nat → Int) (i : Nat) (x : Int) : Nat → Int := fun j => if j = i then x else f j
theorem BoxF.below {w w' : World} {g n : Nat} {f : Nat → Int} (h : BoxF w g n f) (hb : RowKit.Below w.heap.size w w') : BoxF w' g n f :=
  ⟨Nat.lt_of_lt_of_le h.lt hb.size, fun j hj => (hb.cell (p := ⟨g, j, none⟩) h.lt).trans (h.cell j hj), fun j => (hb.frozen (p := ⟨g, j, none⟩) h.lt).trans (h.froz j)⟩
theorem BoxF.set {w : World} {g n : Nat} {f : Nat → Int} (h : BoxF w g n f) {i : Nat} (hi : i < n) (x : Int) : BoxF (w.setCell ⟨g, i, none⟩ (.int .i64 x)) g n (updF f i x) :=
  ⟨by simpa [World.setCell] using h.lt, fun j hj => by
    by_cases e : j = i
    · subst e
      rw [World.cell?_setCell_same _ _ _ (h.cell j hj)]
      simp [updF]
    · rw [World.cell?_setCell_other _ _ _ _ (fun e2 => e (by cases e2; rfl)), h.cell j hj]
      simp [updF, e], fun j => by rw [World.frozen?_setCell]; exact h.froz j⟩
theorem BoxF.other {w : World} {g n : Nat} {f : Nat → Int} (h : BoxF w g n f) {b o : Nat} (hb : b ≠ g) (v : Value) : BoxF (w.setCell ⟨b, o, none⟩ v) g n f :=
  ⟨by simpa [World.setCell] using h.lt, fun j hj => by rw [World.cell?_setCell_other _ _ _ _ (fun e2 => hb (by cases e2; rfl)), h.cell j hj], fun j => by rw [World.frozen?_setCell]; exact h.froz j⟩
theorem BoxF.congr {w : World} {g n : Nat} {f f' : Nat → Int} (h : BoxF w g n f) (he : ∀ j, j < n → f' j = f j) : BoxF w g n f' :=
  ⟨h.lt, fun j hj => by rw [he j hj]; exact h.cell j hj, h.froz⟩
end Go.Proofs.YtjpcpiffffobcaaDoor
