
/- The laws' ksSame: two slices of the same integers that calls have made. -/
import Derived.Test.YtjmfcnblkojejaaDoorKsRowN
import Derived.Test.YtjmfcnblkojejaaDoorKsBoxN
import Derived.Lib.MinMax
namespace Go.Proofs.YtjmfcnblkojejaaDoor
open Go.RowKit Go.Shelf Go.Lib Go.Sort

theorem ownsN_rowB {base : Nat} {v : Value} {l : List Int} {w : World} (h : OwnsN base v l w) : (v = .slice none 0 0 ∧ l.length = 0) ∨ ∃ g cap, v = .slice (some ⟨g, 0, none⟩) l.length cap ∧ RowN w g 0 l.toArray := by
  rcases h.2 with ⟨h0, h1⟩ | ⟨g, cap, cur, h0, hb, hh, h3⟩
  · exact .inl ⟨h0, h1⟩
  · have hl : g < w.heap.size := (Array.getElem?_eq_some_iff.1 hh).1
    subst h0
    refine .inr ⟨g, cap, rfl, ⟨hl, fun j hj => ?_⟩⟩
    rw [Nat.zero_add, World.ownsRow.cellAt h j (by simpa using hj)]
    have hj' : j < l.length := by simpa using hj
    simp [hj']
set_option maxRecDepth 100000 in
set_option maxHeartbeats 1000000 in
theorem ksSame_row (b1 c1 b2 c2 : Nat) (o : Array Int) (w : World) (h1 : RowN w b1 0 o) (h2 : RowN w b2 0 o) (hn : o.size ≤ 1048576) :
    Calls Tryd.prog 33 #[.slice (some ⟨b1, 0, none⟩) o.size c1, .slice (some ⟨b2, 0, none⟩) o.size c2] w fun x w' => x = .returned (.bool true) ∧ RowKit.Below w.heap.size w w' := by
  have H1 := Lib.hid h1
  have H2 := Lib.hid h2
  have hn' : (o.size : Int) ≤ 1048576 := by omega
  have hmn : min (o.size : Int) (o.size : Int) = (o.size : Int) := by omega
  clear h1 h2
  go_enter Tryd.func33, Tryd.ntmps33
  go_wp2
  go_loopw [11] (fun i wr => ∃ k : Nat, i = .int .i64 k ∧ k ≤ o.size ∧ Hid (RowKit.Below w.heap.size w wr) ∧ w.heap.size ≤ wr.heap.size) (fun i _ => o.size - (RowKit.intOf i).toNat)
  case atStart => exact ⟨0, rfl, Nat.zero_le _, Below.refl _ _, Nat.le_refl _⟩
  case round =>
    obtain ⟨k, rfl, hk, HW, hw2⟩ := hrel
    by_cases hlt : k < o.size
    · have x0 := (H1.out.below HW.out).cell k hlt
      have y0 := (H2.out.below HW.out).cell k hlt
      obtain ⟨x, hxe⟩ : ∃ x, x = o[k]! := ⟨_, rfl⟩
      rw [← hxe] at x0 y0
      simp only [Nat.zero_add] at x0 y0
      have hki : (k : Int) < (o.size : Int) := by omega
      clear hxe
      go_wp2_with fail
      go_quiet (fail)
      go_wp2_with fail
      go_roundw
      case rel => exact ⟨k + 1, by go_num, by omega, below_drewN HW.out _, by simpa using hw2⟩
      case measure => simp [RowKit.intOf]; omega
    · have hki : ¬ (k : Int) < (o.size : Int) := by omega
      go_wp2_with fail
      go_ret
      exact ⟨by simp, HW.out⟩
set_option maxHeartbeats 400000 in
theorem ksSame_nil (p q : Option Addr) (c1 c2 : Nat) (w : World) : Calls Tryd.prog 33 #[.slice p 0 c1, .slice q 0 c2] w fun x w' => x = .returned (.bool true) ∧ w = w' := by
  go_enter Tryd.func33, Tryd.ntmps33
  go_wp2
  refine wp_loop_rounds 1 ?_
  rw [rounds_succ]
  go_wp2
  go_ret
  exact ⟨rfl, rfl⟩
theorem ksSame_any {b1 b2 : Nat} {v1 v2 : Value} {l : List Int} {w : World} (h1 : OwnsN b1 v1 l w) (h2 : OwnsN b2 v2 l w) (hn : l.length ≤ 1048576) :
    Calls Tryd.prog 33 #[v1, v2] w fun x w' => x = .returned (.bool true) ∧ RowKit.Below w.heap.size w w' := by
  by_cases h0 : l.length = 0
  · have n1 : ∃ p c, v1 = .slice p 0 c := by
      rcases ownsN_rowB h1 with ⟨h, _⟩ | ⟨g, c, h, _⟩
      · exact ⟨_, _, h⟩
      · exact ⟨some ⟨g, 0, none⟩, c, by rw [h, h0]⟩
    have n2 : ∃ p c, v2 = .slice p 0 c := by
      rcases ownsN_rowB h2 with ⟨h, _⟩ | ⟨g, c, h, _⟩
      · exact ⟨_, _, h⟩
      · exact ⟨some ⟨g, 0, none⟩, c, by rw [h, h0]⟩
    obtain ⟨p, c, rfl⟩ := n1
    obtain ⟨q, e, rfl⟩ := n2
    exact (ksSame_nil p q c e w).mono fun _ _ ⟨a, b⟩ => ⟨a, b ▸ Below.refl _ _⟩
  · rcases ownsN_rowB h1 with ⟨_, h⟩ | ⟨g1, c1, rfl, r1⟩
    · exact absurd h h0
    · rcases ownsN_rowB h2 with ⟨_, h⟩ | ⟨g2, c2, rfl, r2⟩
      · exact absurd h h0
      · have := ksSame_row g1 c1 g2 c2 l.toArray w r1 r2 (by simpa using hn)
        simpa using this
end Go.Proofs.YtjmfcnblkojejaaDoor
