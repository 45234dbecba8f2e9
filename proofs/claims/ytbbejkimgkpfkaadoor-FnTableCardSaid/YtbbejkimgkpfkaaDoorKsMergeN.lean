
/- mergeNeighbours over an iterator of cases that promises all of them. -/
import Derived.Test.YtbbejkimgkpfkaaDoorKsCollect
import Derived.Test.YtbbejkimgkpfkaaDoorKsJoin
import Derived.Test.YtbbejkimgkpfkaaDoorKsSegP
import Derived.Test.YtbbejkimgkpfkaaDoorKsRounds
import Derived.Sort.CutIn
namespace Go.Proofs.YtbbejkimgkpfkaaDoor
open Go.RowKit Go.Shelf Go.Lib Go.Sort

attribute [local go_sem] Oper.semAt_some

abbrev mL (j : CaseD → CaseD → Bool) (pre : List SegD) : List CaseD := (mergeA j (vals pre)).toList

theorem row_slice {W : World} {base : Nat} {e : TypeId} {size k : Nat} {v : Value} {xs : List Value} (h : W.ownsRow base e size v k xs) : ∃ a cap, v = .slice a k cap := by
  rcases h.2 with ⟨rfl, rfl⟩ | ⟨g, cap, cur, rfl, _⟩
  · exact ⟨_, _, rfl⟩
  · exact ⟨_, _, rfl⟩
abbrev jF (jf : FuncId) : Value := .func (.func jf) #[] #[]
theorem Box4.put {W : World} {B : Nat} {a0 a1 a2 a3 : Value} {r : Nat} (h : W.heap[B]? = some (.cells #[a0, a1, a2, a3] 53 (0, 0))) (hr : r < 4) (v : Value) : (W.setCell ⟨B, r, none⟩ v).heap[B]? = some (.cells (#[a0, a1, a2, a3].setIfInBounds r v) 53 (0, 0)) := by
  obtain ⟨hlt, hk⟩ := Array.getElem?_eq_some_iff.1 h
  show (W.heap.modify B _)[B]? = _
  rw [Array.getElem?_eq_getElem (by rw [Array.size_modify]; exact hlt), Array.getElem_modify_self, hk]
  simp
theorem Box4.store {W : World} {B : Nat} {z : CaseD} (h : Box4 W B z) (o : CaseD) : Box4 ((((W.setCell ⟨B, 0, none⟩ (.int .i64 o.low)).setCell ⟨B, 1, none⟩ (.int .i64 o.high)).setCell ⟨B, 2, none⟩ (.string o.target)).setCell ⟨B, 3, none⟩ (.int .i64 o.weight)) B o :=
  Box4.put (Box4.put (Box4.put (Box4.put h (by decide) _) (by decide) _) (by decide) _) (by decide) _
theorem KpX.setRow {X j : Nat} {W W' : World} (hg : W.grownBy W' (some j)) (hX : X < W.heap.size) (hne : X ≠ j) (hp : Pts W X j) : KpX X W W' := by
  have hx : W'.heap[X]? = W.heap[X]? := hg.block X hX (by simpa using hne)
  refine ⟨hg.size, fun i o hi _ _ hpi => (hg.block i (Array.getElem?_eq_some_iff.1 hi).1 (by intro e; cases e; exact hpi hp)).trans hi, fun k hk => .inl ((Pts.of_heap hx).1 hk), fun hl k hk => Nat.lt_of_lt_of_le (hl k ((Pts.of_heap hx).1 hk)) hg.size⟩
theorem flatL_set : ∀ (l : List CaseD) (n : Nat) (o : CaseD), n < l.length → flatL (l.set n o) = ((((flatL l).set (n * 4) (.int .i64 o.low)).set (n * 4 + 1) (.int .i64 o.high)).set (n * 4 + 2) (.string o.target)).set (n * 4 + 3) (.int .i64 o.weight)
  | [], n, o, h => by simp at h
  | c :: l, 0, o, h => by simp [flatL, encC]
  | c :: l, n + 1, o, h => by
    have ih := flatL_set l n o (by simpa using h)
    have e : (n + 1) * 4 = n * 4 + 1 + 1 + 1 + 1 := by omega
    rw [List.set_cons_succ]
    show flatL (c :: l.set n o) = _
    simp only [flatL, List.flatMap_cons] at ih ⊢
    rw [ih, e]
    simp [encC, Nat.add_right_comm _ 1, Nat.add_assoc]
/-- What a join is. -/
def JoinFn (j : CaseD → CaseD → Bool) (jf : FuncId) : Prop := (∀ args w, (callFunc jf args).run Tryd.prog w = .ok (.enter jf args) w) ∧ ∀ l x w, Bnd 32 l → okB x = true →
  Calls Tryd.prog jf #[.agg #[.int .i64 l.low, .int .i64 l.high, .string l.target, .int .i64 l.weight], .agg #[.int .i64 x.low, .int .i64 x.high, .string x.target, .int .i64 x.weight]] w (JoinPost j l x w)
theorem Only.intro {Q : Exit → Act → World → Prop} {a : Act} {w : World} (h : Q .normal a w) : Only Q .normal a w := h
end Go.Proofs.YtbbejkimgkpfkaaDoor
