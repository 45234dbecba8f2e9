
/- impl.CountKeys and impl.TotalWeight; the model's TotalWeight. -/
import Derived.Test.YtndnbeijmhcepaaDoorKsSum
namespace Go.Proofs.YtndnbeijmhcepaaDoor
open Go.RowKit Go.Shelf Go.Lib Go.Sort

theorem owns_below {w w' : World} {base size n : Nat} {e : TypeId} {v : Value} {xs : List Value} (h : w.ownsRow base e size v n xs) (hb : RowKit.Below w.heap.size w w') : w'.ownsRow base e size v n xs := by
  refine ⟨h.1, ?_⟩
  rcases h.2 with h2 | ⟨g, cap, cur, h3, h4, h5, h6⟩
  · exact .inl h2
  · exact .inr ⟨g, cap, cur, h3, h4, (hb.block g (Array.getElem?_eq_some_iff.1 h5).1).trans h5, h6⟩
theorem info3 : (Tryd.prog.info? 3).map (fun i => (i.zero, i.size, i.bytes)) = some (some (.int .i64 0), 1, 8) := by kernel_rfl

/-! TotalWeight -/
theorem owns_first (w1 : World) (base : Nat) (hb : base ≤ w1.heap.size) (x : Int) (e : Nat → Int) (he : e 0 = x) :
    (w1.alloc (.cells #[.int .i64 x] 3)).ownsRow base 3 1 (.slice (some ⟨w1.heap.size, 0, none⟩) 1 1) 1 (intRow e 1) := by
  subst he
  exact ⟨rfl, .inr ⟨w1.heap.size, 1, #[.int .i64 (e 0)], rfl, hb, (show (w1.heap.push _)[w1.heap.size]? = _ by simp), Nat.le_refl _, by unfold maxLen; omega, rfl, rfl⟩⟩
def wgtW (d : Array CaseD) (rest : Int) : Nat → Int
  | 0 => rest
  | j + 1 => d[j]!.weight
theorem wgtW_le {d : Array CaseD} {rest : Int} (h : SwOK d rest) : ∀ j, j < d.size + 1 → 0 ≤ wgtW d rest j ∧ wgtW d rest j ≤ 100
  | 0, _ => by have := h.rest; simp [wgtB] at this; simp only [wgtW]; omega
  | j + 1, hj => by have := caseB_weight (h.case j (by omega)); simp only [wgtW]; omega
noncomputable def weightN (d : Array CaseD) (rest : Int) : Int := if swB d rest = true then sumTo (wgtW d rest) (d.size + 1) else -1

end Go.Proofs.YtndnbeijmhcepaaDoor
