
/- A slice of cases as its cells; two cases compared; what the insertion sort by Low gives. No walk. -/
import Derived.Test.YtndnbeijmhcepaaDoorKsSort
import Derived.Sort.LotA
namespace Go.Proofs.YtndnbeijmhcepaaDoor
open Go.RowKit Go.Shelf Go.Lib Go.Sort

/-- The cases of an array lie one behind the other from a place on. -/
structure RowC (w : World) (b off : Nat) (d : Array CaseD) : Prop where
  old : b < w.heap.size
  low : ∀ j, j < d.size → w.cell? ⟨b, off + j * 4, none⟩ = some (.int .i64 d[j]!.low)
  high : ∀ j, j < d.size → w.cell? ⟨b, off + j * 4 + 1, none⟩ = some (.int .i64 d[j]!.high)
  target : ∀ j, j < d.size → w.cell? ⟨b, off + j * 4 + 2, none⟩ = some (.string d[j]!.target)
  weight : ∀ j, j < d.size → w.cell? ⟨b, off + j * 4 + 3, none⟩ = some (.int .i64 d[j]!.weight)

theorem RowC.below {w w' : World} {b off : Nat} {d : Array CaseD} (h : RowC w b off d) (hb : Below w.heap.size w w') : RowC w' b off d :=
  ⟨Nat.lt_of_lt_of_le h.old hb.size, fun j hj => (hb.cell (p := ⟨b, _, none⟩) h.old).trans (h.low j hj), fun j hj => (hb.cell (p := ⟨b, _, none⟩) h.old).trans (h.high j hj),
    fun j hj => (hb.cell (p := ⟨b, _, none⟩) h.old).trans (h.target j hj), fun j hj => (hb.cell (p := ⟨b, _, none⟩) h.old).trans (h.weight j hj)⟩

theorem RowC.flat {w : World} {b off : Nat} {d : Array CaseD} (h : RowC w b off d) (t : Nat) (ht : t < d.size * 4) : w.cell? ⟨b, off + t, none⟩ = some (flatK encC 4 d)[t]! := by
  rw [get_flatK _ _ _ _ ht]
  have hj : t / 4 < d.size := by omega
  have e : off + t = off + t / 4 * 4 + t % 4 := by omega
  rw [e]
  have hm : t % 4 < 4 := by omega
  generalize t % 4 = r at hm ⊢
  match r, hm with
  | 0, _ => exact h.low _ hj
  | 1, _ => exact h.high _ hj
  | 2, _ => exact h.target _ hj
  | 3, _ => exact h.weight _ hj

theorem RowC.of_holds {w : World} {b off : Nat} {d : Array CaseD} (h : HoldsK encC 4 w b off d) (hb : b < w.heap.size) : RowC w b off d :=
  ⟨hb, fun j hj => (h.cell (c := 0) hj (by decide)).1, fun j hj => (h.cell (c := 1) hj (by decide)).1, fun j hj => (h.cell (c := 2) hj (by decide)).1, fun j hj => (h.cell (c := 3) hj (by decide)).1⟩

theorem flat_one (d : Array CaseD) : ∀ u ∈ (flatK encC 4 d).toList, u.oneCell' = true := fun u hu => by
  obtain ⟨t, ht, rfl⟩ := List.getElem_of_mem hu
  have ht' : t < d.size * 4 := by simpa using ht
  have e : (flatK encC 4 d).toList[t] = (flatK encC 4 d)[t]! := by simp [ht']
  rw [e, get_flatK _ _ _ _ ht']
  have hm : t % 4 < 4 := by omega
  generalize t % 4 = r at hm ⊢
  match r, hm with
  | 0, _ => rfl
  | 1, _ => rfl
  | 2, _ => rfl
  | 3, _ => rfl

/-- What a slice owns is a row that may be sorted. -/
theorem holds_of_cells {w : World} {g e : Nat} {cur : Array Value} {d : Array CaseD} (hh : w.heap[g]? = some (.cells cur e (0, 0))) (hc : cur.toList.take (d.size * 4) = (flatK encC 4 d).toList) : HoldsK encC 4 w g 0 d := by
  intro t ht
  have ht' : t < d.size * 4 := by simpa using ht
  have h1 : cur.toList[t]? = (flatK encC 4 d).toList[t]? := by rw [← hc, List.getElem?_take, if_pos ht']
  constructor
  · simp only [World.cell?, hh, Nat.zero_add]
    simp at h1
    simp [h1, ht']
  · simp [World.frozen?, hh]

def eqC (x y : CaseD) : Bool := x.low == y.low && (x.high == y.high && (x.target.toList == y.target.toList && x.weight == y.weight))
theorem eqC_iff (x y : CaseD) : eqC x y = true ↔ x = y := by
  obtain ⟨a1, a2, a3, a4⟩ := x
  obtain ⟨b1, b2, b3, b4⟩ := y
  simp only [eqC, Bool.and_eq_true, beq_iff_eq, CaseD.mk.injEq, ByteArray.toList_eq]
  constructor
  · rintro ⟨h1, h2, h3, h4⟩
    refine ⟨h1, h2, ?_, h4⟩
    obtain ⟨⟨a⟩⟩ := a3
    obtain ⟨⟨b⟩⟩ := b3
    simp at h3
    rw [h3]
  · rintro ⟨rfl, rfl, rfl, rfl⟩
    exact ⟨rfl, rfl, rfl, rfl⟩

theorem neqC (x y : CaseD) (w : World) : Sem.run Tryd.prog (binOp .neq 47 (.agg #[.int .i64 x.low, .int .i64 x.high, .string x.target, .int .i64 x.weight]) (.agg #[.int .i64 y.low, .int .i64 y.high, .string y.target, .int .i64 y.weight])) w = .ok (.bool (!eqC x y)) w := by
  have u3 := Tryd.underlying3
  have a3 := Tryd.isAgg3
  have z3 := Tryd.sizeOf3
  have u9 := Tryd.underlying9
  have a9 := Tryd.isAgg9
  have z9 := Tryd.sizeOf9
  have hS : Tryd.prog.underlying 47 = some (.struct (Tryd.prog.fieldsOf 47)) := by kernel_rfl
  have hp : Tryd.prog.stoodInHeld 47 = false := by kernel_rfl
  rw [run_neq_struct, show (10000 : Nat) = 9999 + 1 from rfl, run_equalIn_agg w 9999 47 _ _ hS hp]
  simp only [Program.fieldsOf, Tryd.underlying47]
  go_simp
  unfold eqC
  by_cases h1 : x.low = y.low <;> by_cases h2 : x.high = y.high <;> by_cases h3 : x.target.toList = y.target.toList <;> by_cases h4 : x.weight = y.weight <;> simp [h1, h2, h3, h4]

/-! the sort, plain -/
def AscL (d : Array CaseD) : Prop := ∀ i, i + 1 < d.size → d[i]!.low ≤ d[i + 1]!.low
theorem ltLow_iff (x y : CaseD) : ltLow x y = true ↔ x.low < y.low := by
  unfold ltLow ltOf lowCf
  simp
  split <;> try split
  all_goals simp <;> omega
theorem ltLow_false (x y : CaseD) : ltLow x y = false ↔ y.low ≤ x.low := by
  rw [← Bool.not_eq_true, ltLow_iff]; omega
theorem swo_low : SWO ltLow :=
  ⟨fun x => (ltLow_false x x).2 (Int.le_refl _), fun x y z h1 h2 => (ltLow_iff x z).2 (by have := (ltLow_iff x y).1 h1; have := (ltLow_iff y z).1 h2; omega),
    fun x y z h1 h2 => (ltLow_false x z).2 (by have := (ltLow_false x y).1 h1; have := (ltLow_false y z).1 h2; omega)⟩
theorem outer_asc {d : Array CaseD} (h : AscL d) : ∀ (n i : Nat), d.size - i = n → 0 < i → insOuter ltLow 0 d.size i d = d
  | 0, i, hn, _ => insOuter_stop _ _ _ _ _ (by omega)
  | n + 1, i, hn, hi => by
    rw [insOuter_go _ _ _ _ _ (by omega), insInner_stop _ _ _ _ (.inr ?_)]
    · exact outer_asc h n (i + 1) (by omega) (by omega)
    · obtain ⟨p, rfl⟩ : ∃ p, i = p + 1 := ⟨i - 1, by omega⟩
      exact (ltLow_false _ _).2 (h p (by omega))
theorem sort_asc {d : Array CaseD} (h : AscL d) : insertionSort ltLow d 0 d.size = d := outer_asc h _ 1 rfl (by omega)
theorem asc_sort (d : Array CaseD) : AscL (insertionSort ltLow d 0 d.size) ∧ (insertionSort ltLow d 0 d.size).size = d.size := by
  obtain ⟨hp, hs⟩ := insertionSort_holds swo_low d 0 d.size (Nat.zero_le _) (Nat.le_refl _)
  exact ⟨fun i hi => (ltLow_false _ _).1 (hs i (i + 1) (Nat.zero_le _) (by omega) (by rw [hp.1] at hi; exact hi)), hp.1⟩
/-- The sort leaves the cases as they are just where they ascend. -/
theorem sort_same (d : Array CaseD) : (∀ j, j < d.size → (insertionSort ltLow d 0 d.size)[j]! = d[j]!) ↔ AscL d := by
  constructor
  · intro h i hi
    have := (asc_sort d).1 i (by rw [(asc_sort d).2]; exact hi)
    rwa [h i (by omega), h (i + 1) hi] at this
  · intro h j _
    rw [sort_asc h]
end Go.Proofs.YtndnbeijmhcepaaDoor
