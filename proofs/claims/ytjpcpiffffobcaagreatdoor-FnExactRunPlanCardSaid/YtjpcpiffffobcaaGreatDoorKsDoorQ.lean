
/- From an argument's reading as data to clusters. -/
import Derived.Test.YtjpcpiffffobcaaGreatDoorKsDoor
import Derived.Test.YtjpcpiffffobcaaGreatDoorKsClu
namespace Go.Proofs.YtjpcpiffffobcaaGreatDoor
open Go.ChangeShapes Go.WideShapes Go.ChangeAt Go.RowKit Go.Deep Go.Joins

theorem list3Q {α : Type} : ∀ {l : List α}, l.length = 3 → ∃ a b c, l = [a, b, c]
  | [a, b, c], _ => ⟨a, b, c, rfl⟩
section
variable {H : Type} {enc : TypeId × Value → H} {W : World} {base : Nat} {sp : Nat → Bool} {held : Bool}
/-- Whose numbers are ints. -/
def WfQ (c : CluD) : Prop := (Lit.int .i64 c.first).wf = true ∧ (Lit.int .i64 c.last).wf = true
/-- A cluster that can be read is three cells. -/
theorem clu_of_trod {n : Nat} {cs : List Value} {x : DataW H × List MemPlace} (h : DataW.trod enc Tryz.prog W base sp held n 63 cs = some x) : ∃ c : CluD, cs = encQ c ∧ c.kind.size ≤ maxLen ∧ WfQ c := by
  obtain ⟨xs, m, _, _, hl, hx, hf⟩ := DataW.trod_struct Tryz.underlying63 h
  have c3 : Tryz.prog.cellsOf 3 = 1 := by kernel_rfl
  have c9 : Tryz.prog.cellsOf 9 = 1 := by kernel_rfl
  have hl4 : cs.length = 3 := hl.trans (by kernel_rfl)
  have hx4 : xs.length = 3 := hx
  obtain ⟨a0, a1, a2, rfl⟩ := list3Q hl4
  have f0 : DataW.trod enc Tryz.prog W base sp held m 3 (([a0, a1, a2].drop 0).take (Tryz.prog.cellsOf 3)) = some _ := (hf 0 _ rfl).trans (List.getElem?_eq_getElem (by omega))
  rw [c3] at f0
  have f1 : DataW.trod enc Tryz.prog W base sp held m 3 (([a0, a1, a2].drop 1).take (Tryz.prog.cellsOf 3)) = some _ := (hf 1 _ rfl).trans (List.getElem?_eq_getElem (by omega))
  rw [c3] at f1
  have f2 : DataW.trod enc Tryz.prog W base sp held m 9 (([a0, a1, a2].drop 2).take (Tryz.prog.cellsOf 9)) = some _ := (hf 2 _ rfl).trans (List.getElem?_eq_getElem (by omega))
  rw [c9] at f2
  obtain ⟨n0, e0, _, w0⟩ := DataW.trod_int Tryz.underlying3 f0
  obtain ⟨n1, e1, _, w1⟩ := DataW.trod_int Tryz.underlying3 f1
  obtain ⟨s, e2, _, hs⟩ := DataW.trod_string Tryz.underlying9 f2
  simp only [List.drop_zero, List.drop_succ_cons, List.take_succ_cons, List.take_zero] at e0 e1 e2
  simp only [List.cons.injEq, and_true] at e0 e1 e2
  exact ⟨⟨n0, n1, s⟩, by rw [e0, e1, e2]; rfl, hs, w0, w1⟩
/-- A slice of clusters that can be read. -/
theorem sliceQ_of_trod {n : Nat} {v : Value} {x : DataW H × List MemPlace} (h : DataW.trod enc Tryz.prog W base sp held n 25 [v] = some x) :
    ∃ d : Array CluD, SliceQ W v d ∧ ∀ j, j < d.size → d[j]!.kind.size ≤ maxLen ∧ WfQ d[j]! := by
  have c4 : Tryz.prog.cellsOf 63 = 3 := by kernel_rfl
  rcases open_slice Tryz.underlying25 h with ⟨hcs, _⟩ | ⟨a, len, cap, m, n', D, Pl, hcs, _, hl, hm, hmm, _, hi⟩
  · simp only [List.cons.injEq, and_true] at hcs
    exact ⟨#[], .inl ⟨_, _, hcs, rfl⟩, fun j hj => absurd hj (Nat.not_lt_zero j)⟩
  · simp only [List.cons.injEq, and_true] at hcs
    subst hcs
    have hle : len ≤ m := by rw [hmm]; split <;> omega
    rcases Nat.eq_zero_or_pos len with h0 | h0
    · subst h0
      exact ⟨#[], .inl ⟨_, _, rfl, rfl⟩, fun j hj => absurd hj (Nat.not_lt_zero j)⟩
    have each : ∀ i : Fin len, ∃ c : CluD, (c.kind.size ≤ maxLen ∧ WfQ c) ∧ ∀ r, r < 3 → W.cell? ((a.add (i.1 * 3)).add r) = (encQ c)[r]? := fun i => by
      obtain ⟨cs', hc, ht⟩ := hi i.1 (by omega)
      rw [c4] at hc
      obtain ⟨c, rfl, hs⟩ := clu_of_trod ht
      obtain ⟨_, _, hat⟩ := World.cells?_some hc
      exact ⟨c, hs, hat⟩
    have hf := fun i => (Classical.choose_spec (each i))
    generalize hg : (fun i : Fin len => Classical.choose (each i)) = f at *
    have hf' : ∀ i, ((f i).kind.size ≤ maxLen ∧ WfQ (f i)) ∧ ∀ r, r < 3 → W.cell? ((a.add (i.1 * 3)).add r) = (encQ (f i))[r]? := fun i => by rw [← hg]; exact hf i
    have hget : ∀ j (hj : j < len), (Array.ofFn f)[j]! = f ⟨j, hj⟩ := fun j hj => by simp [hj]
    have hspot : a.spot = none := by
      have h1 := (hf' ⟨0, h0⟩).2 0 (by omega)
      cases hsp : a.spot with
      | none => rfl
      | some q =>
        exfalso
        simp [World.cell?, Addr.add, hsp, encQ] at h1
        split at h1 <;> simp at h1
    obtain ⟨b, off, spot⟩ := a
    simp only at hspot
    subst hspot
    have hcell : ∀ j (hj : j < len) r, r < 3 → W.cell? ⟨b, off + j * 3 + r, none⟩ = (encQ (f ⟨j, hj⟩))[r]? := fun j hj r hr => by
      have := (hf' ⟨j, hj⟩).2 r hr
      rw [Addr.add_lit, Addr.add_lit] at this
      exact this
    have hold : b < W.heap.size := by
      have h1 := hcell 0 h0 0 (by omega)
      rcases Nat.lt_or_ge b W.heap.size with h' | h'
      · exact h'
      · simp [World.cell?, Array.getElem?_eq_none h', encQ] at h1
    refine ⟨Array.ofFn f, .inr ⟨b, off, cap, by simp, by simpa using hl, hm, ⟨hold, fun j hj => ?_, fun j hj => ?_, fun j hj => ?_⟩⟩, fun j hj => ?_⟩
    all_goals
      have hj' : j < len := by simpa using hj
      rw [hget j hj']
    · exact hcell j hj' 0 (by omega)
    · exact hcell j hj' 1 (by omega)
    · exact hcell j hj' 2 (by omega)
    · exact (hf' ⟨j, hj'⟩).1
end
end Go.Proofs.YtjpcpiffffobcaaGreatDoor
