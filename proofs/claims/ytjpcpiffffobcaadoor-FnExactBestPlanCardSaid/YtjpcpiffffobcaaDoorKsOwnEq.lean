
/- Slices of cases that calls have made: compared, marked, found marked. -/
import Derived.Test.YtjpcpiffffobcaaDoorKsMark
import Derived.Test.YtjpcpiffffobcaaDoorKsFlow
namespace Go.Proofs.YtjpcpiffffobcaaDoor
open Go.RowKit Go.Shelf Go.Lib Go.Sort

set_option maxHeartbeats 400000 in
theorem eqNil_any (p q : Option Addr) (c1 c2 : Nat) (w : World) : Calls Tryd.prog 43 #[.slice p 0 c1, .slice q 0 c2] w fun x w' => x = .returned (.bool true) ∧ w = w' := by
  go_enter Tryd.func43, Tryd.ntmps43
  go_wp2
  refine wp_loop_rounds 1 ?_
  rw [rounds_succ]
  go_wp2
  go_ret
  exact ⟨rfl, rfl⟩

def FormC (v : Value) (n : Nat) : Prop := (v = .slice none 0 0 ∧ n = 0) ∨ ∃ g cap, v = .slice (some ⟨g, 0, none⟩) n cap
theorem owns_formC {base : Nat} {v : Value} {l : List CaseD} {w : World} (h : OwnsC base v l w) : FormC v l.length := by
  rcases h.2 with h0 | ⟨g, cap, cur, h0, _⟩
  · exact .inl h0
  · exact .inr ⟨g, cap, h0⟩
theorem owns_zero {base : Nat} {p : Option Addr} {n cap : Nat} {l : List CaseD} {w : World} (h : OwnsC base (.slice p n cap) l w) : n = l.length := by
  rcases h.2 with ⟨h0, h1⟩ | ⟨g, c, cur, h0, _⟩
  · simp only [Value.slice.injEq] at h0
    omega
  · simp only [Value.slice.injEq] at h0
    exact h0.2.1
theorem eqOwn_any {b1 b2 : Nat} {v1 v2 : Value} {l : List CaseD} {w : World} (h1 : OwnsC b1 v1 l w) (h2 : OwnsC b2 v2 l w) (hn : l.length ≤ 1048576) :
    Calls Tryd.prog 43 #[v1, v2] w fun x w' => x = .returned (.bool true) ∧ RowKit.Below w.heap.size w w' := by
  by_cases h0 : l.length = 0
  · have n1 : ∃ p c, v1 = .slice p 0 c := by
      rcases owns_formC h1 with ⟨h, _⟩ | ⟨g, c, h⟩
      · exact ⟨_, _, h⟩
      · exact ⟨some ⟨g, 0, none⟩, c, by rw [h, h0]⟩
    have n2 : ∃ p c, v2 = .slice p 0 c := by
      rcases owns_formC h2 with ⟨h, _⟩ | ⟨g, c, h⟩
      · exact ⟨_, _, h⟩
      · exact ⟨some ⟨g, 0, none⟩, c, by rw [h, h0]⟩
    obtain ⟨p, c, rfl⟩ := n1
    obtain ⟨q, e, rfl⟩ := n2
    exact (eqNil_any p q c e w).mono fun _ _ ⟨a, b⟩ => ⟨a, b ▸ Below.refl _ _⟩
  · rcases owns_formC h1 with ⟨_, h⟩ | ⟨g1, c1, rfl⟩
    · exact absurd h h0
    · rcases owns_formC h2 with ⟨_, h⟩ | ⟨g2, c2, rfl⟩
      · exact absurd h h0
      · have := eqCaseS_same g1 0 c1 g2 0 c2 l.toArray w (owns_row h1) (owns_row h2) (by simpa using hn)
        simpa using this

/-- What a slice value holds is marked. -/
def MarkedC (w : World) (v : Value) (n : Nat) : Prop := ∀ g, v.ownBlock = some g → HotM w g (n * 4) 1 (n * 4)
theorem MarkedC.below {w w' : World} {v : Value} {n : Nat} (h : MarkedC w v n) (hb : RowKit.Below w.heap.size w w') : MarkedC w' v n := fun g hg => (h g hg).below hb
theorem hot_of_owns {base g n cap : Nat} {l : List CaseD} {w : World} (h : OwnsC base (.slice (some ⟨g, 0, none⟩) n cap) l w) : HotM w g (n * 4) 1 0 := by
  have hn := owns_zero h
  have hl := (h.lt g rfl).2
  subst hn
  refine ⟨hl, fun t ht => ?_, fun t _ => ?_, fun t ht => absurd ht (Nat.not_lt_zero t)⟩
  · have hf := flatL_length l
    exact ⟨_, (h.cellAt t ht).trans (List.getElem?_eq_getElem (by omega))⟩
  · rcases h.2 with ⟨h0, _⟩ | ⟨g', c, cur, h0, _, hh, _⟩
    · cases h0
    · simp only [Value.slice.injEq, Option.some.injEq, Addr.mk.injEq] at h0
      rw [← h0.1.1] at hh
      simp [World.frozen?, hh]
theorem markOwn_any {base : Nat} {v : Value} {l : List CaseD} {w : World} (h : OwnsC base v l w) (hn : l.length ≤ 1048576) :
    Calls Tryd.prog 56 #[v, .int .i64 1] w fun x w' => x = .returned (.int .i64 ((1 + l.length * 4 : Nat) : Int)) ∧ MarkedC w' v l.length ∧ w.grownBy w' v.ownBlock := by
  rcases owns_formC h with ⟨rfl, h0⟩ | ⟨g, cap, rfl⟩
  · rw [h0]
    exact (markNil_any none 0 w).mono fun _ _ ⟨a, b⟩ => ⟨a, (fun g hg => by cases hg), (by rw [← b]; exact grown_refl _ _)⟩
  · exact (markRow_any g l.length cap w (hot_of_owns h) hn).mono fun _ _ ⟨a, b, c⟩ => ⟨a, (fun g' hg => by cases hg; exact b), c⟩
set_option maxHeartbeats 400000 in
/-- markSwitch marks the cases of a switch that lies in memory of the call's own. -/
theorem markSw_any (g n cap : Nat) (rest : Int) (w : World) (h : HotM w g (n * 4) 1 0) (hn : n ≤ 1048576) :
    Calls Tryd.prog 30 #[.agg #[.slice (some ⟨g, 0, none⟩) n cap, .int .i64 rest], .int .i64 1] w fun x w' => x = .returned (.int .i64 ((1 + n * 4 : Nat) : Int)) ∧ w.grownBy w' (some g) := by
  have hb := (Below.refl w.heap.size w).alloc (Nat.le_refl _) (.cells #[.slice (some ⟨g, 0, none⟩) n cap, .int .i64 rest] 32)
  have hm := Lib.hid (markRow_any g n cap _ (h.below hb) hn)
  have HB := Lib.hid hb
  clear h hn hb
  go_enter Tryd.func30, Tryd.ntmps30
  go_wp2_with (go_at_call 56; refine hm.out.mono ?_; rintro x w' ⟨rfl, hM, hG⟩; have HG := Lib.hid hG; clear hM hG)
  go_ret
  exact ⟨rfl, grown_trans (grown_any HB.out _) HG.out⟩
end Go.Proofs.YtjpcpiffffobcaaDoor
