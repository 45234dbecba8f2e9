
/- Two neighbours as one: joinTargets, joinCases. -/
import Derived.Test.YtndnbeijmhcepaaDoorKsIterS
import Derived.Test.YtndnbeijmhcepaaDoorKsPull
namespace Go.Proofs.YtndnbeijmhcepaaDoor
open Go.RowKit Go.Shelf Go.Lib Go.Sort

theorem Box4.cold {W : World} {B : Nat} {x : CaseD} (h : Box4 W B x) (i : Nat) : W.frozen? ⟨B, i, none⟩ = false := by simp [World.frozen?, show W.heap[B]? = _ from h]
/-- What a join answers. -/
def JoinPost (j : CaseD → CaseD → Bool) (l x : CaseD) (w : World) (r : Ending) (w' : World) : Prop :=
  ∃ o : CaseD, r = .returned (.tuple #[.agg #[.int .i64 o.low, .int .i64 o.high, .string o.target, .int .i64 o.weight], .bool (j l x)]) ∧ (j l x = true → o = oneC l x) ∧ RowKit.Below w.heap.size w w'

set_option maxRecDepth 100000 in
set_option maxHeartbeats 2000000 in
theorem joinTargets_any (l x : CaseD) (w : World) (h1 : 0 ≤ l.high) (h2 : l.high ≤ 31) (h3 : 0 ≤ l.weight) (h4 : l.weight ≤ 4000) (h5 : 0 ≤ x.weight) (h6 : x.weight ≤ 99) :
    Calls Tryd.prog 46 #[.agg #[.int .i64 l.low, .int .i64 l.high, .string l.target, .int .i64 l.weight], .agg #[.int .i64 x.low, .int .i64 x.high, .string x.target, .int .i64 x.weight]] w (JoinPost adjB l x w) := by
  have HJ := Lib.hid (show adjB l x = ((x.low == l.high + 1) && (x.target.toList == l.target.toList)) from rfl)
  cases hq1 : (x.low == l.high + 1) <;> cases hq2 : (x.target.toList == l.target.toList)
  all_goals
    rw [hq1, hq2] at HJ
    have hq3 : (x.low != l.high + 1) = !(x.low == l.high + 1) := rfl
    rw [hq1] at hq3
    have hq4 : (x.target.toList != l.target.toList) = !(x.target.toList == l.target.toList) := rfl
    rw [hq2] at hq4
    go_enter Tryd.func46, Tryd.ntmps46
    go_wp2
  iterate 3
    · refine bodyPost_ret (v := .tuple #[.agg #[.int .i64 0, .int .i64 0, .string ⟨#[]⟩, .int .i64 0], .bool false]) (by simp [results, Tryd.results46, go_sem]) rfl ⟨zeroD, (by rw [HJ.out]; rfl), (fun h => by rw [HJ.out] at h; cases h), ?_⟩
      exact (((Below.refl _ _).alloc (Nat.le_refl _) _).alloc (by simp) _).alloc (by simp; omega) _
  · refine bodyPost_ret (v := .tuple #[.agg #[.int .i64 l.low, .int .i64 x.high, .string l.target, .int .i64 (l.weight + x.weight)], .bool true]) (by simp [results, Tryd.results46, go_sem]) rfl ⟨oneC l x, (by rw [HJ.out]; rfl), (fun _ => rfl), ?_⟩
    exact (((Below.refl _ _).alloc (Nat.le_refl _) _).alloc (by simp) _).alloc (by simp; omega) _

end Go.Proofs.YtndnbeijmhcepaaDoor
