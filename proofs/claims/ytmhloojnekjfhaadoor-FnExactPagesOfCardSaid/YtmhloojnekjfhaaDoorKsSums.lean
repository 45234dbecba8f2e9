
/- sum; how many keys have a case; all weights together: the program's and the model's. · impl.CountKeys and impl.TotalWeight; the model's TotalWeight. -/
import Derived.Test.YtmhloojnekjfhaaDoorKsModel
namespace Go.Proofs.YtmhloojnekjfhaaDoor
open Go.RowKit Go.Shelf Go.Lib Go.Sort

theorem bcell0 {W w1 : World} (hb : RowKit.Below W.heap.size W w1) : (∀ b o, b < W.heap.size → w1.cell? ⟨b, o, none⟩ = W.cell? ⟨b, o, none⟩) ∧ True :=
  ⟨fun b o h => hb.cell (p := ⟨b, o, none⟩) h, trivial⟩
def sumTo (e : Nat → Int) : Nat → Int
  | 0 => 0
  | k + 1 => sumTo e k + e k
theorem sumTo_le {e : Nat → Int} {n : Nat} (h : ∀ j, j < n → 0 ≤ e j ∧ e j ≤ 100) : ∀ k, k ≤ n → 0 ≤ sumTo e k ∧ sumTo e k ≤ 100 * k
  | 0, _ => by simp [sumTo]
  | k + 1, hk => by
    have := sumTo_le h k (by omega)
    have := h k (by omega)
    simp only [sumTo]
    omega
def intRow (e : Nat → Int) (n : Nat) : List Value := (List.range n).map fun j => Value.int .i64 (e j)
theorem intRow_get (e : Nat → Int) (n j : Nat) (hj : j < n) : (intRow e n)[j]? = some (.int .i64 (e j)) := by simp [intRow, hj]
theorem intRow_succ (e : Nat → Int) (n : Nat) : intRow e n ++ [.int .i64 (e n)] = intRow e (n + 1) := by simp [intRow, List.range_succ]
theorem retI {a b : Int} (h : a = b) : Ending.returned (.int .i64 a) = .returned (.int .i64 b) := by rw [h]

/-! the model's l1Keys -/
def keyW (d : Array CaseD) (j : Nat) : Int := d[j]!.high - d[j]!.low + 1
theorem keyW_le {d : Array CaseD} {rest : Int} (h : SwOK d rest) : ∀ j, j < d.size → 0 ≤ keyW d j ∧ keyW d j ≤ 100 := fun j hj => by
  have := caseB_le (h.case j hj)
  have := caseB_low (h.case j hj)
  have := caseB_high (h.case j hj)
  unfold keyW
  omega

noncomputable def keysN (d : Array CaseD) (rest : Int) : Int := if swB d rest = true then sumTo (keyW d) d.size else -1

end Go.Proofs.YtmhloojnekjfhaaDoor

namespace Go.Proofs.YtmhloojnekjfhaaDoor
open Go.RowKit Go.Shelf Go.Lib Go.Sort

theorem owns_below {w w' : World} {base size n : Nat} {e : TypeId} {v : Value} {xs : List Value} (h : w.ownsRow base e size v n xs) (hb : RowKit.Below w.heap.size w w') : w'.ownsRow base e size v n xs := by
  refine ⟨h.1, ?_⟩
  rcases h.2 with h2 | ⟨g, cap, cur, h3, h4, h5, h6⟩
  · exact .inl h2
  · exact .inr ⟨g, cap, cur, h3, h4, (hb.block g (Array.getElem?_eq_some_iff.1 h5).1).trans h5, h6⟩
theorem info3 : (Tryd.prog.info? 3).map (fun i => (i.zero, i.size, i.bytes)) = some (some (.int .i64 0), 1, 8) := by kernel_rfl

/-! TotalWeight -/
theorem owns_first (w1 : World) (base : Nat) (hb : base ≤ w1.heap.size) (x : Int) (e : Nat → Int) (he : e 0 = x) :
    (w1.alloc (.cells #[.int .i64 x] 3)).ownsRow base 3 1 (.slice (some ⟨w1.heap.size, 0, none⟩) 1 1) 1 (intRow e 1) := by
  subst he
  exact ⟨rfl, .inr ⟨w1.heap.size, 1, #[.int .i64 (e 0)], rfl, hb, (show (w1.heap.push _)[w1.heap.size]? = _ by simp), Nat.le_refl _, by unfold maxLen; omega, rfl, rfl⟩⟩
def wgtW (d : Array CaseD) (rest : Int) : Nat → Int
  | 0 => rest
  | j + 1 => d[j]!.weight
theorem wgtW_le {d : Array CaseD} {rest : Int} (h : SwOK d rest) : ∀ j, j < d.size + 1 → 0 ≤ wgtW d rest j ∧ wgtW d rest j ≤ 100
  | 0, _ => by have := h.rest; simp [wgtB] at this; simp only [wgtW]; omega
  | j + 1, hj => by have := caseB_weight (h.case j (by omega)); simp only [wgtW]; omega
noncomputable def weightN (d : Array CaseD) (rest : Int) : Int := if swB d rest = true then sumTo (wgtW d rest) (d.size + 1) else -1

end Go.Proofs.YtmhloojnekjfhaaDoor
