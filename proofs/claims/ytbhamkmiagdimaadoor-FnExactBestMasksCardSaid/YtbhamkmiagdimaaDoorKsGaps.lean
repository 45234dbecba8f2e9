
/- CountGaps: the program's and the model's. -/
import Derived.Test.YtbhamkmiagdimaaDoorKsIterS
import Derived.Test.YtbhamkmiagdimaaDoorKsFlatS
import Derived.IntWalk
namespace Go.Proofs.YtbhamkmiagdimaaDoor
open Go.RowKit Go.Shelf Go.Lib Go.Sort

attribute [local go_sem] Oper.semAt_some

theorem owns_form {base : Nat} {v : Value} {l : List CaseD} {w : World} (h : OwnsC base v l w) (hn : v ≠ .slice none 0 0) : ∃ g cap, v = .slice (some ⟨g, 0, none⟩) l.length cap ∧ base ≤ g ∧ l.length ≤ cap ∧ cap ≤ maxLen := by
  rcases h.2 with ⟨h0, _⟩ | ⟨g, cap, cur, h0, hb, _, h1, h2, _⟩
  · exact absurd h0 hn
  · exact ⟨g, cap, h0, hb, h1, h2⟩
noncomputable def gapsI (d : Array CaseD) (rest : Int) : Int := if swB d rest = true then (gapsN d rest : Int) else -1

/-! the program's -/
theorem grown_below {W W' : World} (h : W.grownBy W' none) : RowKit.Below W.heap.size W W' := (Below.refl _ _).grown h (Nat.le_refl _) (fun k e => by cases e)
def cntZ (l : List CaseD) : Int := (l.filter fun c => c.target.toList == zS.toList).length
theorem cntZ_snoc (l : List CaseD) (x : CaseD) : cntZ (l ++ [x]) = cntZ l + (if (x.target.toList == zS.toList) = true then 1 else 0) := by
  unfold cntZ
  rw [List.filter_append, List.length_append]
  cases h : (x.target.toList == zS.toList) <;> simp [h]
theorem cntZ_le (l : List CaseD) : 0 ≤ cntZ l ∧ cntZ l ≤ l.length := by
  unfold cntZ
  have := List.length_filter_le (fun c : CaseD => c.target.toList == zS.toList) l
  omega
/-- A block that holds one case. -/
def Box4 (W : World) (B : Nat) (x : CaseD) : Prop := W.heap[B]? = some (.cells #[.int .i64 x.low, .int .i64 x.high, .string x.target, .int .i64 x.weight] 89 (0, 0))
theorem Box4.new (W : World) (x : CaseD) : Box4 (W.alloc (.cells #[.int .i64 x.low, .int .i64 x.high, .string x.target, .int .i64 x.weight] 89)) W.heap.size x := World.alloc_heap_new W _
theorem Box4.lt {W : World} {B : Nat} {x : CaseD} (h : Box4 W B x) : B < W.heap.size := (Array.getElem?_eq_some_iff.1 h).1
theorem Box4.kept {W W' : World} {row : Option Nat} {B : Nat} {x : CaseD} (h : Box4 W B x) (hg : W.grownBy W' row) (hne : some B ≠ row) : Box4 W' B x := (hg.block B h.lt hne).trans h
theorem box4_own (B : Nat) (x : CaseD) : Own (fun (_ : Unit) W => Box4 W B x) := fun _ X Y row hs hg hrow =>
  hs.kept hg (fun e' => by obtain ⟨o, ho, hc⟩ := hrow B e'.symm; rw [show X.heap[B]? = _ from hs] at ho; cases ho; cases hc)
theorem Box4.cells {W : World} {B : Nat} {x : CaseD} (h : Box4 W B x) : W.cell? ⟨B, 0, none⟩ = some (.int .i64 x.low) ∧ W.cell? ⟨B, 1, none⟩ = some (.int .i64 x.high) ∧ W.cell? ⟨B, 2, none⟩ = some (.string x.target) ∧ W.cell? ⟨B, 3, none⟩ = some (.int .i64 x.weight) := by
  refine ⟨?_, ?_, ?_, ?_⟩ <;> simp [World.cell?, show W.heap[B]? = _ from h]

set_option maxHeartbeats 400000 in
theorem segmentsIn_any (v : Option Addr) (n cap : Nat) (rest : Int) (w : World) :
    Calls Tryd.prog 84 #[.agg #[.slice v n cap, .int .i64 rest]] w fun x w' => x = .returned (.func (.func 109) #[] #[.pointer (some ⟨w.heap.size, 0, none⟩)]) ∧ w' = w.alloc (.cells #[.slice v n cap, .int .i64 rest] 32) := by
  go_enter Tryd.func84, Tryd.ntmps84
  go_wp2
  go_ret
  exact ⟨rfl, rfl⟩

end Go.Proofs.YtbhamkmiagdimaaDoor
