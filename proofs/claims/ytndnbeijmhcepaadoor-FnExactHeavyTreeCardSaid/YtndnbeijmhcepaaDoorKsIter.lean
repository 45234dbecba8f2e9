
/- The segments of a valid switch, yielded: gap, segmentsIn, and what its closure promises to every loop over it. -/
import Derived.Test.YtndnbeijmhcepaaDoorKsKeep
import Derived.Test.YtndnbeijmhcepaaDoorKsMergeP
import Derived.Test.YtndnbeijmhcepaaDoorKsCopy
namespace Go.Proofs.YtndnbeijmhcepaaDoor
open Go.RowKit Go.Shelf Go.Lib Go.Sort

/-- Four stores, one behind the other, into the cells of a struct. -/
theorem four_cells {w : World} {g : Nat} {u0 u1 u2 u3 : Value} (h0 : w.cell? ⟨g, 0, none⟩ = some u0) (h1 : w.cell? ⟨g, 1, none⟩ = some u1) (h2 : w.cell? ⟨g, 2, none⟩ = some u2) (h3 : w.cell? ⟨g, 3, none⟩ = some u3) (v0 v1 v2 v3 : Value) :
    ((((w.setCell ⟨g, 0, none⟩ v0).setCell ⟨g, 1, none⟩ v1).setCell ⟨g, 2, none⟩ v2).setCell ⟨g, 3, none⟩ v3).cell? ⟨g, 0, none⟩ = some v0 ∧
    ((((w.setCell ⟨g, 0, none⟩ v0).setCell ⟨g, 1, none⟩ v1).setCell ⟨g, 2, none⟩ v2).setCell ⟨g, 3, none⟩ v3).cell? ⟨g, 1, none⟩ = some v1 ∧
    ((((w.setCell ⟨g, 0, none⟩ v0).setCell ⟨g, 1, none⟩ v1).setCell ⟨g, 2, none⟩ v2).setCell ⟨g, 3, none⟩ v3).cell? ⟨g, 2, none⟩ = some v2 ∧
    ((((w.setCell ⟨g, 0, none⟩ v0).setCell ⟨g, 1, none⟩ v1).setCell ⟨g, 2, none⟩ v2).setCell ⟨g, 3, none⟩ v3).cell? ⟨g, 3, none⟩ = some v3 := by
  have o1 : ∀ (W : World) (x y : Nat) (v : Value), x ≠ y → (W.setCell ⟨g, x, none⟩ v).cell? ⟨g, y, none⟩ = W.cell? ⟨g, y, none⟩ := fun W x y v h => World.cell?_setCell_other _ _ _ _ (fun e => h (by cases e; rfl))
  have e0 := World.cell?_setCell_same w ⟨g, 0, none⟩ v0 h0
  have e1 := World.cell?_setCell_same (w.setCell ⟨g, 0, none⟩ v0) ⟨g, 1, none⟩ v1 ((o1 _ 0 1 _ (by decide)).trans h1)
  have e2 := World.cell?_setCell_same ((w.setCell ⟨g, 0, none⟩ v0).setCell ⟨g, 1, none⟩ v1) ⟨g, 2, none⟩ v2 ((o1 _ 1 2 _ (by decide)).trans ((o1 _ 0 2 _ (by decide)).trans h2))
  have e3 := World.cell?_setCell_same (((w.setCell ⟨g, 0, none⟩ v0).setCell ⟨g, 1, none⟩ v1).setCell ⟨g, 2, none⟩ v2) ⟨g, 3, none⟩ v3 ((o1 _ 2 3 _ (by decide)).trans ((o1 _ 1 3 _ (by decide)).trans ((o1 _ 0 3 _ (by decide)).trans h3)))
  exact ⟨(o1 _ 3 0 _ (by decide)).trans ((o1 _ 2 0 _ (by decide)).trans ((o1 _ 1 0 _ (by decide)).trans e0)), (o1 _ 3 1 _ (by decide)).trans ((o1 _ 2 1 _ (by decide)).trans e1), (o1 _ 3 2 _ (by decide)).trans e2, e3⟩

set_option maxRecDepth 100000 in
set_option maxHeartbeats 1000000 in
theorem gap_any (a : Option Addr) (len cap : Nat) (rest lo hi : Int) (w : World) :
    Calls Tryd.prog 91 #[.agg #[.slice a len cap, .int .i64 rest], .int .i64 lo, .int .i64 hi] w fun x w' => x = .returned (aggC (gapC rest lo hi)) ∧ RowKit.Below w.heap.size w w' := by
  unfold aggC gapC
  go_enter Tryd.func91, Tryd.ntmps91
  go_wp2
  obtain ⟨wa, hwa⟩ : ∃ wa, wa = (w.alloc (.cells #[.slice a len cap, .int .i64 rest] 35)).alloc (.cells #[.int .i64 0, .int .i64 0, .string ⟨#[]⟩, .int .i64 0] 47) := ⟨_, rfl⟩
  have c1 : wa.cell? ⟨w.heap.size, 1, none⟩ = some (.int .i64 rest) := by rw [hwa]; simp [go_sem]
  have d0 : wa.cell? ⟨w.heap.size + 1, 0, none⟩ = some (.int .i64 0) := by rw [hwa]; simp [go_sem]
  have d1 : wa.cell? ⟨w.heap.size + 1, 1, none⟩ = some (.int .i64 0) := by rw [hwa]; simp [go_sem]
  have d2 : wa.cell? ⟨w.heap.size + 1, 2, none⟩ = some (.string ⟨#[]⟩) := by rw [hwa]; simp [go_sem]
  have d3 : wa.cell? ⟨w.heap.size + 1, 3, none⟩ = some (.int .i64 0) := by rw [hwa]; simp [go_sem]
  have f0 : ∀ j, wa.frozen? ⟨w.heap.size + 1, j, none⟩ = false := fun j => by rw [hwa]; simp [go_sem]
  have hz : wa.heap.size = w.heap.size + 2 := by rw [hwa]; simp
  have hba : RowKit.Below w.heap.size w wa := by rw [hwa]; exact ((Below.refl _ _).alloc (Nat.le_refl _) _).alloc (by simp) _
  rw [← hwa]
  have HBA := Lib.hid hba
  have F0 := Lib.hid f0
  clear hwa hba f0
  have hcall := Lib.hid (fun W => text_any W)
  go_region_with (go_at_call 47; refine (hcall.out _).mono ?_; rintro x w1 ⟨rfl, hb⟩; have HB := Lib.hid hb; have hzd : w.heap.size + 1 < (wa.drew).heap.size := (by simp [hz]); have e1 := (hb.cell (p := ⟨w.heap.size, 1, none⟩) (Nat.lt_of_succ_lt hzd)).trans c1; have g0 := (hb.cell (p := ⟨w.heap.size + 1, 0, none⟩) hzd).trans d0; have g1 := (hb.cell (p := ⟨w.heap.size + 1, 1, none⟩) hzd).trans d1; have g2 := (hb.cell (p := ⟨w.heap.size + 1, 2, none⟩) hzd).trans d2; have g3 := (hb.cell (p := ⟨w.heap.size + 1, 3, none⟩) hzd).trans d3; have k0 := (hb.frozen (p := ⟨w.heap.size + 1, 0, none⟩) hzd).trans (F0.out 0); have k1 := (hb.frozen (p := ⟨w.heap.size + 1, 1, none⟩) hzd).trans (F0.out 1); have k2 := (hb.frozen (p := ⟨w.heap.size + 1, 2, none⟩) hzd).trans (F0.out 2); have k3 := (hb.frozen (p := ⟨w.heap.size + 1, 3, none⟩) hzd).trans (F0.out 3); clear hb)
  all_goals
    go_wp2
    obtain ⟨z0, z1, z2, z3⟩ := four_cells g0 g1 g2 g3 (.int .i64 lo) (.int .i64 hi) (.string zS) (.int .i64 rest)
    have hb1 := HBA.out.trans (((Below.refl wa.heap.size wa).drew.trans HB.out).mono HBA.out.size)
    have hbz := (((hb1.setCell (p := ⟨w.heap.size + 1, 0, none⟩) (by simp) (.int .i64 lo)).setCell (p := ⟨w.heap.size + 1, 1, none⟩) (by simp) (.int .i64 hi)).setCell (p := ⟨w.heap.size + 1, 2, none⟩) (by simp) (.string zS)).setCell (p := ⟨w.heap.size + 1, 3, none⟩) (by simp) (.int .i64 rest)
    have HBZ := Lib.hid hbz
    clear hbz hb1
    generalize (((w1.setCell ⟨w.heap.size + 1, 0, none⟩ (.int .i64 lo)).setCell ⟨w.heap.size + 1, 1, none⟩ (.int .i64 hi)).setCell ⟨w.heap.size + 1, 2, none⟩ (.string zS)).setCell ⟨w.heap.size + 1, 3, none⟩ (.int .i64 rest) = wz at z0 z1 z2 z3 HBZ ⊢
    refine bodyPost_ret (v := .agg #[.int .i64 lo, .int .i64 hi, .string zS, .int .i64 rest]) (by simp [results, Tryd.results91, go_sem, z0, z1, z2, z3]) rfl ⟨rfl, HBZ.out⟩
end Go.Proofs.YtndnbeijmhcepaaDoor
