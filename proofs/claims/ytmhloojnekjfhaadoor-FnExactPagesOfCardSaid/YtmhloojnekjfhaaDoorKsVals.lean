
/- slices.Values of a chain, collected and sorted. -/
import Derived.Test.YtmhloojnekjfhaaDoorKsKeepS
import Derived.Test.YtmhloojnekjfhaaDoorKsOrdQ
namespace Go.Proofs.YtmhloojnekjfhaaDoor
open Go.RowKit Go.Shelf Go.Lib Go.Sort

attribute [local go_sem] Oper.semAt_some

theorem RowN.kp {W W' : World} {K : Nat → Prop} (h : KpS K W W') {b off : Nat} {o : Array Int} (hb : K b) (hR : RowN W b off o) : RowN W' b off o :=
  ⟨Nat.lt_of_lt_of_le hR.old h.size, fun j hj => h.cell hb (hR.cell j hj)⟩

/-! AppendSeq, Collect, Sorted -/
theorem infoN : (Tryd.prog.info? 3).map (fun i => (i.zero, i.size, i.bytes)) = some (some (.int .i64 0), 1, 8) := by kernel_rfl
theorem tSlN : 29 ≠ 3 := by decide
theorem cell_at1 {W : World} {g : Nat} {v0 : Value} {T : TypeId} (hg : g = W.heap.size) : ∀ j u, [v0][j]? = some u → (W.alloc (.cells #[v0] T)).cell? ((⟨g, 0, none⟩ : Addr).add j) = some u := fun j u hj => by
  subst hg
  match j, hj with
  | 0, hj => simp at hj; subst hj; simp [Addr.add]
  | j + 1, hj => simp at hj
theorem one_cell1 (x : Int) : ∀ v ∈ [Value.int .i64 x], v.oneCell' = true := fun v hv => by
  simp at hv
  subst hv
  rfl
def OwnsN (base : Nat) (v : Value) (l : List Int) (w : World) : Prop := w.ownsRow base 3 1 v l.length (l.map encN)

end Go.Proofs.YtmhloojnekjfhaaDoor
