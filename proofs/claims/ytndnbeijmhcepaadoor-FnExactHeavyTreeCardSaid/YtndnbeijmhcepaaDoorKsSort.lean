
/- slices.SortStableFunc on at most eight cases, by the library's insertion sort; the comparison of two cases by Low. -/
import Derived.Test.YtndnbeijmhcepaaDoorKsLeaf
import Derived.Test.YtndnbeijmhcepaaDoorKsLay
namespace Go.Proofs.YtndnbeijmhcepaaDoor
open Go.RowKit Go.Shelf Go.Lib Go.Sort

def lowCf (x y : CaseD) : Int := if x.low < y.low then -1 else if y.low < x.low then 1 else 0

set_option maxHeartbeats 400000 in
theorem compare_any (x y : Int) (w : World) : Calls Tryd.prog 104 #[.int .i64 x, .int .i64 y] w fun e w' => e = .returned (.int .i64 (if x < y then -1 else if y < x then 1 else 0)) ∧ w = w' := by
  rcases Int.lt_trichotomy x y with h | h | h
  · go_enter Tryd.func104, Tryd.ntmps104
    go_wp2
    go_ret
    exact ⟨rfl, rfl⟩
  · subst h
    go_enter Tryd.func104, Tryd.ntmps104
    go_wp2
    go_ret
    simp
  · have h' : ¬ x < y := by omega
    go_enter Tryd.func104, Tryd.ntmps104
    go_wp2
    go_ret
    exact ⟨rfl, rfl⟩

set_option maxHeartbeats 400000 in
theorem lowCmp_any (x y : CaseD) (w : World) : Calls Tryd.prog 103 #[aggC x, aggC y] w fun e w' => e = .returned (.int .i64 (lowCf x y)) ∧ ∃ q os', w' = grow (w.drewN q) os' := by
  unfold aggC
  have hcon := fun W' => compare_any x.low y.low W'
  change ∀ W', Calls _ _ _ W' fun e w' => e = .returned (.int .i64 (lowCf x y)) ∧ _ at hcon
  generalize lowCf x y = r at hcon ⊢
  go_enter Tryd.func103, Tryd.ntmps103
  go_wp2_with (go_at_call 104; refine (hcon _).mono ?_; rintro e w' ⟨rfl, rfl⟩)
  go_ret
  exact ⟨rfl, 0, _, by rw [alloc_eq_grow, alloc_eq_grow, grow_grow]; rfl⟩

theorem lowCmp_lays (blk off size : Nat) (w : World) : CmpLays Tryd.prog 103 #[] encC 4 lowCf blk off size w :=
  fun _ _ _ _ x y => lowCmp_any x y _

theorem encC_one (x : CaseD) : ∀ v ∈ encC x, v.oneCell' = true := fun v hv => by
  simp [encC] at hv
  rcases hv with rfl | rfl | rfl | rfl <;> rfl

def ltLow : CaseD → CaseD → Bool := ltOf lowCf

theorem insC (blk off cap : Nat) (d : Array CaseD) (w : World) (hH : HoldsK encC 4 w blk off d) (hblk : blk < w.heap.size) (hsz : d.size ≤ 8) :
    Calls Tryd.prog 123 #[.slice (some ⟨blk, off, none⟩) d.size cap, .int .i64 0, .int .i64 d.size, .func (.func 103) #[] #[]] w fun e w' =>
      e = .returned (.tuple #[]) ∧ ∃ n os, w' = sortWorldK encC 4 w blk off n (Sort.insertionSort ltLow d 0 d.size) os := by
  have eg : ∀ args w, (callFunc 103 args).run Tryd.prog w = .ok (.enter 103 args) w := enters_of Tryd.func103 (by kernel_rfl) rfl
  exact AnyQ.insertionSortCmpFunc Tryd.laysIns 4 Tryd.isAgg47 Tryd.sizeOf47 encC (fun _ => rfl) encC_one lowCf 103 #[] blk off cap 0 d.size d w eg (lowCmp_lays blk off d.size w) hH hblk (Nat.zero_le _) (Nat.le_refl _) (by omega)

set_option maxHeartbeats 1000000 in
theorem stableC (blk off cap : Nat) (d : Array CaseD) (w : World) (hH : HoldsK encC 4 w blk off d) (hblk : blk < w.heap.size) (hsz : d.size ≤ 8) :
    Calls Tryd.prog 114 #[.slice (some ⟨blk, off, none⟩) d.size cap, .int .i64 d.size, .func (.func 103) #[] #[]] w fun e w' =>
      e = .returned (.tuple #[]) ∧ ∃ n os, w' = sortWorldK encC 4 w blk off n (Sort.insertionSort ltLow d 0 d.size) os := by
  have hcon := Lib.hid (insC blk off cap d w hH hblk hsz)
  clear hH
  generalize Sort.insertionSort ltLow d 0 d.size = r at hcon ⊢
  have b1 : (d.size : Int) ≤ 8 := by omega
  go_enter Tryd.func114, Tryd.ntmps114
  go_wp2
  refine wp_loop_rounds 1 ?_
  rw [rounds_succ]
  go_wp2_with (go_at_call 123; refine hcon.out.mono ?_; rintro e w' ⟨rfl, n, os, rfl⟩)
  refine wp_loop_rounds 1 ?_
  rw [rounds_succ]
  go_wp2
  go_end0
  exact ⟨rfl, n, os, rfl⟩

set_option maxHeartbeats 400000 in
theorem sortStableC (blk off cap : Nat) (d : Array CaseD) (w : World) (hH : HoldsK encC 4 w blk off d) (hblk : blk < w.heap.size) (hsz : d.size ≤ 8) :
    Calls Tryd.prog 102 #[.slice (some ⟨blk, off, none⟩) d.size cap, .func (.func 103) #[] #[]] w fun e w' =>
      e = .returned (.tuple #[]) ∧ ∃ n os, w' = sortWorldK encC 4 w blk off n (Sort.insertionSort ltLow d 0 d.size) os := by
  have hcon := Lib.hid (stableC blk off cap d w hH hblk hsz)
  clear hH
  generalize Sort.insertionSort ltLow d 0 d.size = r at hcon ⊢
  go_enter Tryd.func102, Tryd.ntmps102
  go_wp2_with (go_at_call 114; refine hcon.out.mono ?_; rintro e w' ⟨rfl, n, os, rfl⟩)
  go_end0
  exact ⟨rfl, n, os, rfl⟩
end Go.Proofs.YtndnbeijmhcepaaDoor
