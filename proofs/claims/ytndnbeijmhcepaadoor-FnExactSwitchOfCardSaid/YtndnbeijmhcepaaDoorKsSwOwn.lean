
/- Switches whose cases a call has made: compared, marked, found marked. -/
import Derived.Test.YtndnbeijmhcepaaDoorKsCopyH
import Derived.Test.YtndnbeijmhcepaaDoorKsOwnEq
namespace Go.Proofs.YtndnbeijmhcepaaDoor
open Go.RowKit Go.Shelf Go.Lib Go.Sort

theorem owns_alloc1 {B : Nat} {v : Value} {l : List CaseD} {w : World} (h : OwnsC B v l w) (o : Obj) : OwnsC B v l (w.alloc o) := World.ownsRow.alloc h o
theorem owns_belowW {B : Nat} {v : Value} {l : List CaseD} {w w' : World} (h : OwnsC B v l w) (hb : RowKit.Below w.heap.size w w') : OwnsC B v l w' := owns_below h hb
theorem bcellW {w w' : World} (h : RowKit.Below w.heap.size w w') : (∀ {p : Addr} {v : Value}, p.block < w.heap.size → w.cell? p = some v → w'.cell? p = some v) := fun hp hv => (h.cell hp).trans hv

set_option maxHeartbeats 1000000 in
theorem eqSwOwn_any {b1 b2 : Nat} {v1 v2 : Value} {l : List CaseD} {w : World} (rest : Int) (h1 : OwnsC b1 v1 l w) (h2 : OwnsC b2 v2 l w) (hn : l.length ≤ 1048576) :
    Calls Tryd.prog 17 #[.agg #[v1, .int .i64 rest], .agg #[v2, .int .i64 rest]] w fun x w' => x = .returned (.bool true) ∧ RowKit.Below w.heap.size w w' := by
  have hba : RowKit.Below w.heap.size w ((w.alloc (.cells #[v1, .int .i64 rest] 35)).alloc (.cells #[v2, .int .i64 rest] 35)) := ((Below.refl _ _).alloc (Nat.le_refl _) _).alloc (by simp) _
  have hc := eqOwn_any (owns_belowW h1 hba) (owns_belowW h2 hba) hn
  obtain ⟨wa, hwa⟩ : ∃ wa, wa = (w.alloc (.cells #[v1, .int .i64 rest] 35)).alloc (.cells #[v2, .int .i64 rest] 35) := ⟨_, rfl⟩
  have c0 : wa.cell? ⟨w.heap.size, 1, none⟩ = some (.int .i64 rest) := by rw [hwa]; simp [go_sem]
  have c1 : wa.cell? ⟨w.heap.size + 1, 1, none⟩ = some (.int .i64 rest) := by rw [hwa]; simp [go_sem]
  have hz : wa.heap.size = w.heap.size + 2 := by rw [hwa]; simp
  rw [← hwa] at hba hc
  have HC := Lib.hid hc
  have HB := Lib.hid hba
  have HWA := Lib.hid hwa
  clear hc hba hwa h1 h2 hn
  go_enter Tryd.func17, Tryd.ntmps17
  go_wp2_with fail
  rw [← HWA.out]
  refine HC.out.mono ?_
  rintro x w' ⟨rfl, hb⟩
  have e0 := (hb.cell (p := ⟨w.heap.size, 1, none⟩) (by show w.heap.size < _; omega)).trans c0
  have e1 := (hb.cell (p := ⟨w.heap.size + 1, 1, none⟩) (by show w.heap.size + 1 < _; omega)).trans c1
  have HB2 := Lib.hid (HB.out.trans (hb.mono (by omega)))
  clear hb c0 c1
  go_wp2_with fail
  go_ret
  exact ⟨rfl, HB2.out⟩

set_option maxHeartbeats 1000000 in
theorem markSwOwn_any {base : Nat} {v : Value} {l : List CaseD} {w : World} (rest : Int) (h : OwnsC base v l w) (hn : l.length ≤ 1048576) :
    Calls Tryd.prog 22 #[.agg #[v, .int .i64 rest], .int .i64 1] w fun x w' => x = .returned (.int .i64 ((1 + l.length * 4 : Nat) : Int)) ∧ MarkedC w' v l.length ∧ w.grownBy w' v.ownBlock := by
  have hc := markOwn_any (owns_alloc1 h (.cells #[v, .int .i64 rest] 35)) hn
  obtain ⟨m, hm⟩ : ∃ m : Int, m = ((1 + l.length * 4 : Nat) : Int) := ⟨_, rfl⟩
  rw [← hm] at hc ⊢
  have HC := Lib.hid hc
  clear hc h hn hm
  go_enter Tryd.func22, Tryd.ntmps22
  go_wp2_with fail
  refine HC.out.mono ?_
  rintro x w' ⟨rfl, hM, hg⟩
  have HM := Lib.hid hM
  have HG := Lib.hid (show w.grownBy w' v.ownBlock from grown_trans (World.grownBy_alloc w _ _) hg)
  clear hM hg
  go_wp2_with fail
  go_ret
  exact ⟨rfl, HM.out, HG.out⟩

set_option maxHeartbeats 1000000 in
theorem heldSwOwn_any {v : Value} {n : Nat} {w : World} (rest : Int) (hf : FormC v n) (h : MarkedC w v n) (hn : n ≤ 1048576) :
    Calls Tryd.prog 23 #[.agg #[v, .int .i64 rest], .int .i64 1] w fun x w' => x = .returned (.int .i64 ((1 + n * 4 : Nat) : Int)) ∧ RowKit.Below w.heap.size w w' := by
  have hba : RowKit.Below w.heap.size w (w.alloc (.cells #[v, .int .i64 rest] 35)) := (Below.refl _ _).alloc (Nat.le_refl _) _
  have hc := heldOwn_any hf (h.below hba) hn
  obtain ⟨m, hm⟩ : ∃ m : Int, m = ((1 + n * 4 : Nat) : Int) := ⟨_, rfl⟩
  have hm0 : 0 ≤ m := by omega
  rw [← hm] at hc ⊢
  have HC := Lib.hid hc
  have HB := Lib.hid hba
  clear hc hba h hn hf hm
  go_enter Tryd.func23, Tryd.ntmps23
  go_wp2_with fail
  refine HC.out.mono ?_
  rintro x w' ⟨rfl, hb⟩
  have HB2 := Lib.hid (HB.out.trans (hb.mono HB.out.size))
  clear hb
  go_wp2_with fail
  go_ret
  exact ⟨rfl, HB2.out⟩
end Go.Proofs.YtndnbeijmhcepaaDoor
