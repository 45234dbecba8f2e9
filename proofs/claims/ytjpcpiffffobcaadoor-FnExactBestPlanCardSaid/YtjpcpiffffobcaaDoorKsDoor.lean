
/- From an argument's reading as data to what the walks ask of it; the listed variable; the world of the witness. -/
import Derived.Test.YtjpcpiffffobcaaDoorKsSize
import Derived.ProofKit
import Derived.LaidMore
import Derived.OpenShut
import Derived.Stop.Joined
import Derived.Stop.LaidErr
import Derived.Deep.Slices
import Derived.Deep.Fields
import Derived.Lib.SmallJoins
namespace Go.Proofs.YtjpcpiffffobcaaDoor
open Go.ChangeShapes Go.WideShapes Go.ChangeAt Go.RowKit Go.Deep Go.Joins

theorem own : ownKnob Tryd.prog.godebug = none := by kernel_rfl
theorem laidOut : laidOutB Tryd.prog = true := by kernel_rfl
theorem gErr : Tryd.prog.globalNamed "loop.example/keyswitches/impl.errNoTarget" = some 0 := by kernel_rfl
theorem tErr : (Tryd.prog.globals[0]?).map (·.type) = some 115 := by kernel_rfl
theorem starErr : "*" ++ "errors.errorString" = "*errors.errorString" := by decide
theorem rowErr (u : TypeId) (h : Tryd.prog.typeName? 3 u = some "*errors.errorString") : u = 157 :=
  typeName_ptr_named (nm := "errors.errorString") (by rw [starErr]; kernel_rfl) (by kernel_rfl) (by decide) u (by rw [starErr]; exact h)
theorem var?_below {W W' : World} {n : String} {cs : Array Value} (h : W.var? Tryd.prog n = some cs) (hb : Below W.heap.size W W') : W'.var? Tryd.prog n = some cs := by
  unfold World.var? at h ⊢
  cases hg : Tryd.prog.globalNamed n with
  | none => simp [hg] at h
  | some g =>
    simp only [hg, Option.bind_some] at h ⊢
    have hlt : g < W.heap.size := by
      rcases Nat.lt_or_ge g W.heap.size with h' | h'
      · exact h'
      · simp [Array.getElem?_eq_none h'] at h
    rw [hb.block g hlt]
    exact h
set_option maxRecDepth 100000 in
/-- What the listed variable gives the walks. -/
theorem err_of_laid {W : World} (h : laidMetH Tryd.prog Rows.fnExactPriceOfRow.laid W) : ∃ a : Addr, W.var? Tryd.prog "loop.example/keyswitches/impl.errNoTarget" = some #[.iface 157 (.pointer (some a))] := by
  rw [MakeChecks.laidMetH_plain _ _ _ (by kernel_rfl)] at h
  obtain ⟨a, _, hv, _⟩ := laid_sentinel h gErr tErr Tryd.underlying115 rowErr Tryd.underlying157 Tryd.underlying200 rfl rfl Tryd.underlying9 (by kernel_rfl) (by kernel_rfl)
  exact ⟨a, hv⟩
set_option maxRecDepth 100000 in
theorem errAt_of_var {W : World} {a : Addr} (h : W.var? Tryd.prog "loop.example/keyswitches/impl.errNoTarget" = some #[.iface 157 (.pointer (some a))]) : ErrAt W := by
  have hc : W.cell? ⟨0, 0, none⟩ = some (.iface 157 (.pointer (some a))) := by simpa using World.var?_cell gErr h 0
  refine ⟨?_, _, _, hc⟩
  rcases Nat.lt_or_ge 0 W.heap.size with h' | h'
  · exact h'
  · simp [World.cell?, Array.getElem?_eq_none h'] at hc

theorem list4 {α : Type} : ∀ {l : List α}, l.length = 4 → ∃ a b c d, l = [a, b, c, d]
  | [a, b, c, d], _ => ⟨a, b, c, d, rfl⟩
section
variable {H : Type} {enc : TypeId × Value → H} {W : World} {base : Nat} {sp : Nat → Bool} {held : Bool}
/-- Whose numbers are ints. -/
def WfC (c : CaseD) : Prop := (Lit.int .i64 c.low).wf = true ∧ (Lit.int .i64 c.high).wf = true ∧ (Lit.int .i64 c.weight).wf = true
/-- A case that can be read is four cells. -/
theorem case_of_trod {n : Nat} {cs : List Value} {x : DataW H × List MemPlace} (h : DataW.trod enc Tryd.prog W base sp held n 93 cs = some x) : ∃ c : CaseD, cs = encC c ∧ c.target.size ≤ maxLen ∧ WfC c := by
  obtain ⟨xs, m, _, _, hl, hx, hf⟩ := DataW.trod_struct Tryd.underlying93 h
  have c3 : Tryd.prog.cellsOf 3 = 1 := by kernel_rfl
  have c9 : Tryd.prog.cellsOf 9 = 1 := by kernel_rfl
  have hl4 : cs.length = 4 := hl.trans (by kernel_rfl)
  have hx4 : xs.length = 4 := hx
  obtain ⟨a0, a1, a2, a3, rfl⟩ := list4 hl4
  have f0 : DataW.trod enc Tryd.prog W base sp held m 3 (([a0, a1, a2, a3].drop 0).take (Tryd.prog.cellsOf 3)) = some _ := (hf 0 _ rfl).trans (List.getElem?_eq_getElem (by omega))
  rw [c3] at f0
  have f1 : DataW.trod enc Tryd.prog W base sp held m 3 (([a0, a1, a2, a3].drop 1).take (Tryd.prog.cellsOf 3)) = some _ := (hf 1 _ rfl).trans (List.getElem?_eq_getElem (by omega))
  rw [c3] at f1
  have f2 : DataW.trod enc Tryd.prog W base sp held m 9 (([a0, a1, a2, a3].drop 2).take (Tryd.prog.cellsOf 9)) = some _ := (hf 2 _ rfl).trans (List.getElem?_eq_getElem (by omega))
  rw [c9] at f2
  have f3 : DataW.trod enc Tryd.prog W base sp held m 3 (([a0, a1, a2, a3].drop 3).take (Tryd.prog.cellsOf 3)) = some _ := (hf 3 _ rfl).trans (List.getElem?_eq_getElem (by omega))
  rw [c3] at f3
  obtain ⟨n0, e0, _, w0⟩ := DataW.trod_int Tryd.underlying3 f0
  obtain ⟨n1, e1, _, w1⟩ := DataW.trod_int Tryd.underlying3 f1
  obtain ⟨s, e2, _, hs⟩ := DataW.trod_string Tryd.underlying9 f2
  obtain ⟨n3, e3, _, w3⟩ := DataW.trod_int Tryd.underlying3 f3
  simp only [List.drop_zero, List.drop_succ_cons, List.take_succ_cons, List.take_zero] at e0 e1 e2 e3
  simp only [List.cons.injEq, and_true] at e0 e1 e2 e3
  exact ⟨⟨n0, n1, s, n3⟩, by rw [e0, e1, e2, e3]; rfl, hs, w0, w1, w3⟩

/-- A slice of cases that can be read. -/
theorem slice_of_trodW {n : Nat} {v : Value} {x : DataW H × List MemPlace} (h : DataW.trod enc Tryd.prog W base sp held n 22 [v] = some x) :
    ∃ d : Array CaseD, SliceC W v d ∧ ∀ j, j < d.size → d[j]!.target.size ≤ maxLen ∧ WfC d[j]! := by
  have c4 : Tryd.prog.cellsOf 93 = 4 := by kernel_rfl
  rcases open_slice Tryd.underlying22 h with ⟨hcs, _⟩ | ⟨a, len, cap, m, n', D, Pl, hcs, _, hl, hm, hmm, _, hi⟩
  · simp only [List.cons.injEq, and_true] at hcs
    exact ⟨#[], .inl ⟨_, _, hcs, rfl⟩, fun j hj => absurd hj (Nat.not_lt_zero j)⟩
  · simp only [List.cons.injEq, and_true] at hcs
    subst hcs
    have hle : len ≤ m := by rw [hmm]; split <;> omega
    rcases Nat.eq_zero_or_pos len with h0 | h0
    · subst h0
      exact ⟨#[], .inl ⟨_, _, rfl, rfl⟩, fun j hj => absurd hj (Nat.not_lt_zero j)⟩
    have each : ∀ i : Fin len, ∃ c : CaseD, (c.target.size ≤ maxLen ∧ WfC c) ∧ ∀ r, r < 4 → W.cell? ((a.add (i.1 * 4)).add r) = (encC c)[r]? := fun i => by
      obtain ⟨cs', hc, ht⟩ := hi i.1 (by omega)
      rw [c4] at hc
      obtain ⟨c, rfl, hs⟩ := case_of_trod ht
      obtain ⟨_, _, hat⟩ := World.cells?_some hc
      exact ⟨c, hs, hat⟩
    have hf := fun i => (Classical.choose_spec (each i))
    generalize hg : (fun i : Fin len => Classical.choose (each i)) = f at *
    have hf' : ∀ i, ((f i).target.size ≤ maxLen ∧ WfC (f i)) ∧ ∀ r, r < 4 → W.cell? ((a.add (i.1 * 4)).add r) = (encC (f i))[r]? := fun i => by rw [← hg]; exact hf i
    have hget : ∀ j (hj : j < len), (Array.ofFn f)[j]! = f ⟨j, hj⟩ := fun j hj => by simp [hj]
    have hspot : a.spot = none := by
      have h1 := (hf' ⟨0, h0⟩).2 0 (by omega)
      cases hsp : a.spot with
      | none => rfl
      | some q =>
        exfalso
        simp [World.cell?, Addr.add, hsp, encC] at h1
        split at h1 <;> simp at h1
    obtain ⟨b, off, spot⟩ := a
    simp only at hspot
    subst hspot
    have hcell : ∀ j (hj : j < len) r, r < 4 → W.cell? ⟨b, off + j * 4 + r, none⟩ = (encC (f ⟨j, hj⟩))[r]? := fun j hj r hr => by
      have := (hf' ⟨j, hj⟩).2 r hr
      rw [Addr.add_lit, Addr.add_lit] at this
      exact this
    have hold : b < W.heap.size := by
      have h1 := hcell 0 h0 0 (by omega)
      rcases Nat.lt_or_ge b W.heap.size with h' | h'
      · exact h'
      · simp [World.cell?, Array.getElem?_eq_none h', encC] at h1
    refine ⟨Array.ofFn f, .inr ⟨b, off, cap, by simp, by simpa using hl, hm, ⟨hold, fun j hj => ?_, fun j hj => ?_, fun j hj => ?_, fun j hj => ?_⟩⟩, fun j hj => ?_⟩
    all_goals
      have hj' : j < len := by simpa using hj
      rw [hget j hj']
    · exact hcell j hj' 0 (by omega)
    · exact hcell j hj' 1 (by omega)
    · exact hcell j hj' 2 (by omega)
    · exact hcell j hj' 3 (by omega)
    · exact (hf' ⟨j, hj'⟩).1
theorem slice_of_trod {n : Nat} {v : Value} {x : DataW H × List MemPlace} (h : DataW.trod enc Tryd.prog W base sp held n 22 [v] = some x) :
    ∃ d : Array CaseD, SliceC W v d ∧ ∀ j, j < d.size → d[j]!.target.size ≤ maxLen := by
  obtain ⟨d, h1, h2⟩ := slice_of_trodW h
  exact ⟨d, h1, fun j hj => (h2 j hj).1⟩
end
end Go.Proofs.YtjpcpiffffobcaaDoor
