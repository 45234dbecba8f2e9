
/- A call of a Go function with two arguments, as one step of a region that draws its order. No program. -/
import Derived.Test.YtoiljohaicpncaaDoorKsStep
namespace Go.Proofs.YtoiljohaicpncaaDoor
open Go.RowKit

theorem step_call2 {P : Program} {ops : Array Oper} {o : Oper} {a : Act} {K : Act → World → Prop} {Q : Exit → Act → World → Prop} {E : Prop} (w : World) (hgd : o.guard = none) (f : FuncId) (x y : Operand) (t u : TypeId)
    (ho : o.op = .call { callee := .value (.func f), args := #[x, y], argTypes := #[t, u] }) (he : ∀ args w, (callFunc f args).run P w = .ok (.enter f args) w) (v z : Value) (hx : a.eval x = v) (hy : a.eval y = z)
    (hc : Calls P f #[v, z] w fun e w' => ∃ u, e = .returned u ∧ K (a.put o.dst u) w') :
    if Region.wanted o (yielded ops a.tmps) = true then Oper.wp P o a w K Q else E := by
  have hw : Region.wanted o (yielded ops a.tmps) = true := by simp [Region.wanted, hgd]
  rw [if_pos hw]
  unfold Oper.wp execOp
  simp only [ho]
  have h2 := he #[v, z] w
  have hr : Sem.run P (do
        let d ← resolve a.eval { callee := Callee.value (Operand.func f), args := #[x, y], argTypes := #[t, u] } o.type
        invoke d.target d.args) w = .ok (.enter f #[v, z]) w := by
    subst hx hy
    simp [resolve, invoke, go_sem]
    exact he _ w
  rw [hr, Oper.upon_enter]
  refine hc.mono ?_
  rintro e w' ⟨u, rfl, hK⟩
  exact hK
end Go.Proofs.YtoiljohaicpncaaDoor
