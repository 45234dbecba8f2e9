
/- A slice of cases that a call has made: the cells of its list; the append of one case. No walk. · The model's segments and how many gaps it counts. -/
import Derived.Test.YtbhamkmiagdimaaDoorKsSegP
import Derived.Test.YtbhamkmiagdimaaDoorKsCopy
import Derived.Test.YtbhamkmiagdimaaDoorKsSums
import Derived.Test.YtbhamkmiagdimaaDoorKsKeep
namespace Go.Proofs.YtbhamkmiagdimaaDoor
open Go.RowKit Go.Shelf Go.Lib Go.Sort

def flatL (l : List CaseD) : List Value := l.flatMap encC
theorem flatL_snoc (l : List CaseD) (x : CaseD) : flatL l ++ encC x = flatL (l ++ [x]) := by simp [flatL]
theorem flatL_length : ∀ l : List CaseD, (flatL l).length = l.length * 4
  | [] => rfl
  | c :: l => by
    have ih := flatL_length l
    show (encC c ++ flatL l).length = _
    rw [List.length_append, ih, List.length_cons, show (encC c).length = 4 from rfl]
    omega
theorem flatL_get : ∀ (l : List CaseD) (j r : Nat), r < 4 → (flatL l)[j * 4 + r]? = (l[j]?).bind fun c => (encC c)[r]?
  | [], j, r, _ => by simp [flatL]
  | c :: l, 0, r, hr => by
    show (encC c ++ flatL l)[0 * 4 + r]? = _
    rw [List.getElem?_append_left (by rw [show (encC c).length = 4 from rfl]; omega)]
    simp
  | c :: l, j + 1, r, hr => by
    show (encC c ++ flatL l)[(j + 1) * 4 + r]? = _
    rw [List.getElem?_append_right (by rw [show (encC c).length = 4 from rfl]; omega), show (encC c).length = 4 from rfl, show (j + 1) * 4 + r - 4 = j * 4 + r by omega, flatL_get l j r hr]
    simp
theorem toArray_get (l : List CaseD) (j : Nat) : l.toArray[j]! = l[j]! := by simp
theorem owns_row {w : World} {base g n cap : Nat} {l : List CaseD} (ho : w.ownsRow base 89 4 (.slice (some ⟨g, 0, none⟩) n cap) n (flatL l)) : RowC w g 0 l.toArray := by
  have hn : n = l.length := by have h1 := ho.1; rw [flatL_length] at h1; omega
  have hg : g < w.heap.size := (ho.lt g rfl).2
  have hc : ∀ j r, j < l.length → r < 4 → w.cell? ⟨g, 0 + j * 4 + r, none⟩ = (encC l[j]!)[r]? := fun j r hj hr => by
    rw [Nat.zero_add, ho.cellAt (j * 4 + r) (by omega), flatL_get l j r hr]
    simp [hj]
  refine ⟨hg, fun j hj => ?_, fun j hj => ?_, fun j hj => ?_, fun j hj => ?_⟩
  all_goals
    have hj' : j < l.length := by simpa using hj
    rw [toArray_get]
  · exact hc j 0 hj' (by decide)
  · exact hc j 1 hj' (by decide)
  · exact hc j 2 hj' (by decide)
  · exact hc j 3 hj' (by decide)
theorem infoC : (Tryd.prog.info? 89).map (fun i => (i.zero, i.size, i.bytes)) = some (some (.agg #[.int .i64 0, .int .i64 0, .string ⟨#[]⟩, .int .i64 0]), 4, 40) := by kernel_rfl
def zeroC : Value := .agg #[.int .i64 0, .int .i64 0, .string ⟨#[]⟩, .int .i64 0]
theorem cells_new (W : World) (c : CaseD) (T : TypeId) : ∀ j u, (encC c)[j]? = some u → (W.alloc (.cells #[.int .i64 c.low, .int .i64 c.high, .string c.target, .int .i64 c.weight] T)).cell? ((⟨W.heap.size, 0, none⟩ : Addr).add j) = some u := fun j u hj => by
  match j, hj with
  | 0, hj => simp only [encC, List.getElem?_cons_zero, Option.some.injEq] at hj; subst hj; simp [Addr.add]
  | 1, hj => simp [encC] at hj; subst hj; simp [Addr.add]
  | 2, hj => simp [encC] at hj; subst hj; simp [Addr.add]
  | 3, hj => simp [encC] at hj; subst hj; simp [Addr.add]
  | j + 4, hj => simp [encC] at hj
theorem cells_at {W : World} {g : Nat} {v0 v1 v2 v3 : Value} {T : TypeId} (hg : g = W.heap.size) : ∀ j u, [v0, v1, v2, v3][j]? = some u → (W.alloc (.cells #[v0, v1, v2, v3] T)).cell? ((⟨g, 0, none⟩ : Addr).add j) = some u := fun j u hj => by
  subst hg
  match j, hj with
  | 0, hj => simp at hj; subst hj; simp [Addr.add]
  | 1, hj => simp at hj; subst hj; simp [Addr.add]
  | 2, hj => simp at hj; subst hj; simp [Addr.add]
  | 3, hj => simp at hj; subst hj; simp [Addr.add]
  | j + 4, hj => simp at hj
theorem below_append {a wr w1 : World} {B : Nat} {v : Value} {base : Nat} {e : TypeId} {size n : Nat} {xs : List Value} {tmp : Obj} (hb : RowKit.Below B a wr) (hB : B ≤ wr.heap.size) (hg : (wr.alloc tmp).grownBy w1 v.ownBlock) (ho : wr.ownsRow base e size v n xs) (hbase : B ≤ base) : RowKit.Below B a w1 :=
  (hb.alloc hB tmp).grown hg (by simp; omega) (fun q hq => Nat.le_trans hbase (ho.lt q hq).1)
theorem owns_not_nil {w : World} {base : Nat} {e : TypeId} {size n : Nat} {v : Value} {xs : List Value} (h : w.ownsRow base e size v (n + 1) xs) : v ≠ .slice none 0 0 := fun e' => by
  rcases h.2 with ⟨_, h0⟩ | ⟨g, cap, cur, h0, _⟩
  · omega
  · rw [e'] at h0
    cases h0
theorem owns_base {w : World} {base base' : Nat} {e : TypeId} {size n : Nat} {v : Value} {xs : List Value} (h : w.ownsRow base e size v n xs) (hb : base' ≤ base) : w.ownsRow base' e size v n xs := by
  refine ⟨h.1, ?_⟩
  rcases h.2 with hn | ⟨g, cap, cur, hv, hbg, r⟩
  · exact .inl hn
  · exact .inr ⟨g, cap, cur, hv, Nat.le_trans hb hbg, r⟩
end Go.Proofs.YtbhamkmiagdimaaDoor

namespace Go.Proofs.YtbhamkmiagdimaaDoor
open Go.RowKit Go.Shelf Go.Lib Go.Sort

/-- A slice value that a call has made: it owns the cases of a list. -/
def OwnsC (base : Nat) (v : Value) (l : List CaseD) (w : World) : Prop := w.ownsRow base 89 4 v l.length (flatL l)

end Go.Proofs.YtbhamkmiagdimaaDoor
