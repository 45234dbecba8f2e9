
/- Two neighbours as one: joinTargets, joinCases. -/
import Derived.Test.YtjmfcnblkojejaaDoorKsFlow
import Derived.Test.YtjmfcnblkojejaaDoorKsPull
namespace Go.Proofs.YtjmfcnblkojejaaDoor
open Go.RowKit Go.Shelf Go.Lib Go.Sort

theorem Box4.cold {W : World} {B : Nat} {x : CaseD} (h : Box4 W B x) (i : Nat) : W.frozen? ⟨B, i, none⟩ = false := by simp [World.frozen?, show W.heap[B]? = _ from h]
/-- What a join answers. -/
def JoinPost (j : CaseD → CaseD → Bool) (l x : CaseD) (w : World) (r : Ending) (w' : World) : Prop :=
  ∃ o : CaseD, r = .returned (.tuple #[.agg #[.int .i64 o.low, .int .i64 o.high, .string o.target, .int .i64 o.weight], .bool (j l x)]) ∧ (j l x = true → o = oneC l x) ∧ RowKit.Below w.heap.size w w'

set_option maxRecDepth 100000 in
set_option maxHeartbeats 2000000 in
theorem joinTargets_any (l x : CaseD) (w : World) (h1 : 0 ≤ l.high) (h2 : l.high ≤ 31) (h3 : 0 ≤ l.weight) (h4 : l.weight ≤ 4000) (h5 : 0 ≤ x.weight) (h6 : x.weight ≤ 99) :
    Calls Tryd.prog 104 #[.agg #[.int .i64 l.low, .int .i64 l.high, .string l.target, .int .i64 l.weight], .agg #[.int .i64 x.low, .int .i64 x.high, .string x.target, .int .i64 x.weight]] w (JoinPost adjB l x w) := by
  have HJ := Lib.hid (show adjB l x = ((x.low == l.high + 1) && (x.target.toList == l.target.toList)) from rfl)
  cases hq1 : (x.low == l.high + 1) <;> cases hq2 : (x.target.toList == l.target.toList)
  all_goals
    rw [hq1, hq2] at HJ
    have hq3 : (x.low != l.high + 1) = !(x.low == l.high + 1) := rfl
    rw [hq1] at hq3
    have hq4 : (x.target.toList != l.target.toList) = !(x.target.toList == l.target.toList) := rfl
    rw [hq2] at hq4
    go_enter Tryd.func104, Tryd.ntmps104
    go_wp2
  iterate 3
    · refine bodyPost_ret (v := .tuple #[.agg #[.int .i64 0, .int .i64 0, .string ⟨#[]⟩, .int .i64 0], .bool false]) (by simp [results, Tryd.results104, go_sem]) rfl ⟨zeroD, (by rw [HJ.out]; rfl), (fun h => by rw [HJ.out] at h; cases h), ?_⟩
      exact (((Below.refl _ _).alloc (Nat.le_refl _) _).alloc (by simp) _).alloc (by simp; omega) _
  · refine bodyPost_ret (v := .tuple #[.agg #[.int .i64 l.low, .int .i64 x.high, .string l.target, .int .i64 (l.weight + x.weight)], .bool true]) (by simp [results, Tryd.results104, go_sem]) rfl ⟨oneC l x, (by rw [HJ.out]; rfl), (fun _ => rfl), ?_⟩
    exact (((Below.refl _ _).alloc (Nat.le_refl _) _).alloc (by simp) _).alloc (by simp; omega) _

set_option maxRecDepth 100000 in
set_option maxHeartbeats 2000000 in
theorem joinCases_any (l x : CaseD) (w : World) (h1 : 0 ≤ l.high) (h2 : l.high ≤ 31) (h3 : 0 ≤ l.weight) (h4 : l.weight ≤ 4000) (h5 : 0 ≤ x.weight) (h6 : x.weight ≤ 99) :
    Calls Tryd.prog 61 #[.agg #[.int .i64 l.low, .int .i64 l.high, .string l.target, .int .i64 l.weight], .agg #[.int .i64 x.low, .int .i64 x.high, .string x.target, .int .i64 x.weight]] w (JoinPost jC l x w) := by
  have HT := Lib.hid (fun W => joinTargets_any l x W h1 h2 h3 h4 h5 h6)
  have HIW := Lib.hid (fun n W => isWeight_any n W)
  obtain ⟨wa, hwa⟩ : ∃ wa, wa = ((w.alloc (.cells #[.int .i64 l.low, .int .i64 l.high, .string l.target, .int .i64 l.weight] 35)).alloc (.cells #[.int .i64 x.low, .int .i64 x.high, .string x.target, .int .i64 x.weight] 35)).alloc (.cells #[.int .i64 0, .int .i64 0, .string ⟨#[]⟩, .int .i64 0] 35) := ⟨_, rfl⟩
  have d0 : Box4 wa (w.heap.size + 1 + 1) zeroD := by
    rw [hwa]
    have := Box4.new ((w.alloc (.cells #[.int .i64 l.low, .int .i64 l.high, .string l.target, .int .i64 l.weight] 35)).alloc (.cells #[.int .i64 x.low, .int .i64 x.high, .string x.target, .int .i64 x.weight] 35)) zeroD
    rw [World.size_alloc, World.size_alloc] at this
    exact this
  have hz : wa.heap.size = w.heap.size + 3 := by rw [hwa]; simp
  have hba : RowKit.Below w.heap.size w wa := by rw [hwa]; exact (((Below.refl _ _).alloc (Nat.le_refl _) _).alloc (by simp) _).alloc (by simp; omega) _
  have HA := Lib.hid hba
  have HD := Lib.hid d0
  clear hba d0
  go_enter Tryd.func61, Tryd.ntmps61
  go_wp2_with fail
  rw [← hwa]
  clear hwa
  refine (HT.out _).mono ?_
  rintro r w1 ⟨o, rfl, ho, hb⟩
  have HO := Lib.hid ho
  have HB := Lib.hid hb
  have hz1 := hb.size
  have BX := Lib.hid (HD.out.kept (grown_of_below hb) (by simp))
  clear ho hb
  obtain ⟨z0, z1, z2, z3⟩ := BX.out.cells
  have f0 := Box4.cold BX.out 0
  have f1 := Box4.cold BX.out 1
  have f2 := Box4.cold BX.out 2
  have f3 := Box4.cold BX.out 3
  have hl4 : w.heap.size + 1 + 1 < w1.heap.size := by omega
  have HJC := Lib.hid (show jC l x = (adjB l x && wgtB (l.weight + x.weight)) from rfl)
  cases hj : adjB l x
  · rw [hj] at HJC
    clear hj
    go_wp2_with fail
    go_region
    all_goals
      go_wp2
      first
        | obtain ⟨q0, q1, q2, q3⟩ := four_cells (w := ((w1.alloc (.cells #[.int .i64 o.low, .int .i64 o.high, .string o.target, .int .i64 o.weight] 35)).drew)) (g := w.heap.size + 1 + 1) (u0 := .int .i64 0) (u1 := .int .i64 0) (u2 := .string ⟨#[]⟩) (u3 := .int .i64 0) (by simp [go_sem, z0, hl4, zeroD]) (by simp [go_sem, z1, hl4, zeroD]) (by simp [go_sem, z2, hl4, zeroD]) (by simp [go_sem, z3, hl4, zeroD]) (.int .i64 o.low) (.int .i64 o.high) (.string o.target) (.int .i64 o.weight)
          have hbz := ((((HA.out.trans (HB.out.mono HA.out.size)).alloc (HA.out.trans (HB.out.mono HA.out.size)).size (.cells #[.int .i64 o.low, .int .i64 o.high, .string o.target, .int .i64 o.weight] 35)).drew.setCell (p := ⟨w.heap.size + 1 + 1, 0, none⟩) (by show w.heap.size ≤ w.heap.size + 1 + 1; omega) (.int .i64 o.low)).setCell (p := ⟨w.heap.size + 1 + 1, 1, none⟩) (by show w.heap.size ≤ w.heap.size + 1 + 1; omega) (.int .i64 o.high)).setCell (p := ⟨w.heap.size + 1 + 1, 2, none⟩) (by show w.heap.size ≤ w.heap.size + 1 + 1; omega) (.string o.target) |>.setCell (p := ⟨w.heap.size + 1 + 1, 3, none⟩) (by show w.heap.size ≤ w.heap.size + 1 + 1; omega) (.int .i64 o.weight)
          have HBZ := Lib.hid hbz
          clear hbz
          generalize ((((((w1.alloc (.cells #[.int .i64 o.low, .int .i64 o.high, .string o.target, .int .i64 o.weight] 35)).drew).setCell ⟨w.heap.size + 1 + 1, 0, none⟩ (.int .i64 o.low)).setCell ⟨w.heap.size + 1 + 1, 1, none⟩ (.int .i64 o.high)).setCell ⟨w.heap.size + 1 + 1, 2, none⟩ (.string o.target)).setCell ⟨w.heap.size + 1 + 1, 3, none⟩ (.int .i64 o.weight)) = wz at q0 q1 q2 q3 HBZ ⊢
          refine bodyPost_ret (v := .tuple #[.agg #[.int .i64 o.low, .int .i64 o.high, .string o.target, .int .i64 o.weight], .bool false]) (by simp [results, Tryd.results61, go_sem, q0, q1, q2, q3]) rfl ⟨o, (by rw [HJC.out]; rfl), (fun h => by rw [HJC.out] at h; cases h), HBZ.out⟩
        | obtain ⟨q0, q1, q2, q3⟩ := four_cells (w := w1) (g := w.heap.size + 1 + 1) (u0 := .int .i64 0) (u1 := .int .i64 0) (u2 := .string ⟨#[]⟩) (u3 := .int .i64 0) (by simp [go_sem, z0, hl4, zeroD]) (by simp [go_sem, z1, hl4, zeroD]) (by simp [go_sem, z2, hl4, zeroD]) (by simp [go_sem, z3, hl4, zeroD]) (.int .i64 o.low) (.int .i64 o.high) (.string o.target) (.int .i64 o.weight)
          have hl5 : w.heap.size + 1 + 1 < ((((w1.setCell ⟨w.heap.size + 1 + 1, 0, none⟩ (.int .i64 o.low)).setCell ⟨w.heap.size + 1 + 1, 1, none⟩ (.int .i64 o.high)).setCell ⟨w.heap.size + 1 + 1, 2, none⟩ (.string o.target)).setCell ⟨w.heap.size + 1 + 1, 3, none⟩ (.int .i64 o.weight)).heap.size := by simpa [go_sem] using hl4
          have hbz := ((((HA.out.trans (HB.out.mono HA.out.size)).setCell (p := ⟨w.heap.size + 1 + 1, 0, none⟩) (by show w.heap.size ≤ w.heap.size + 1 + 1; omega) (.int .i64 o.low)).setCell (p := ⟨w.heap.size + 1 + 1, 1, none⟩) (by show w.heap.size ≤ w.heap.size + 1 + 1; omega) (.int .i64 o.high)).setCell (p := ⟨w.heap.size + 1 + 1, 2, none⟩) (by show w.heap.size ≤ w.heap.size + 1 + 1; omega) (.string o.target)).setCell (p := ⟨w.heap.size + 1 + 1, 3, none⟩) (by show w.heap.size ≤ w.heap.size + 1 + 1; omega) (.int .i64 o.weight)
          have HBZ := Lib.hid hbz
          clear hbz
          generalize ((((w1.setCell ⟨w.heap.size + 1 + 1, 0, none⟩ (.int .i64 o.low)).setCell ⟨w.heap.size + 1 + 1, 1, none⟩ (.int .i64 o.high)).setCell ⟨w.heap.size + 1 + 1, 2, none⟩ (.string o.target)).setCell ⟨w.heap.size + 1 + 1, 3, none⟩ (.int .i64 o.weight)) = wz at q0 q1 q2 q3 hl5 HBZ ⊢
          refine bodyPost_ret (v := .tuple #[.agg #[.int .i64 o.low, .int .i64 o.high, .string o.target, .int .i64 o.weight], .bool false]) (by simp [results, Tryd.results61, go_sem, q0, q1, q2, q3, hl5]) rfl ⟨o, (by rw [HJC.out]; rfl), (fun h => by rw [HJC.out] at h; cases h), (HBZ.out.alloc HBZ.out.size (.cells #[.int .i64 o.low, .int .i64 o.high, .string o.target, .int .i64 o.weight] 35)).drew⟩
  · have e := HO.out hj
    subst e
    rw [hj] at HJC
    clear hj
    have hw := fun W => HIW.out (l.weight + x.weight) W
    cases hq : wgtB (l.weight + x.weight)
    all_goals
      rw [hq] at HJC hw
      have HW := Lib.hid hw
      go_wp2_with fail
      go_region_with (go_at_call 63; refine (HW.out _).mono ?_; rintro e w' ⟨rfl, rfl⟩)
    iterate 3
      · go_wp2
        first
          | obtain ⟨q0, q1, q2, q3⟩ := four_cells (w := ((w1.alloc (.cells #[.int .i64 (oneC l x).low, .int .i64 (oneC l x).high, .string (oneC l x).target, .int .i64 (oneC l x).weight] 35)).drew)) (g := w.heap.size + 1 + 1) (u0 := .int .i64 0) (u1 := .int .i64 0) (u2 := .string ⟨#[]⟩) (u3 := .int .i64 0) (by simp [go_sem, z0, hl4, zeroD]) (by simp [go_sem, z1, hl4, zeroD]) (by simp [go_sem, z2, hl4, zeroD]) (by simp [go_sem, z3, hl4, zeroD]) (.int .i64 (oneC l x).low) (.int .i64 (oneC l x).high) (.string (oneC l x).target) (.int .i64 (oneC l x).weight)
            have hbz := ((((HA.out.trans (HB.out.mono HA.out.size)).alloc (HA.out.trans (HB.out.mono HA.out.size)).size (.cells #[.int .i64 (oneC l x).low, .int .i64 (oneC l x).high, .string (oneC l x).target, .int .i64 (oneC l x).weight] 35)).drew.setCell (p := ⟨w.heap.size + 1 + 1, 0, none⟩) (by show w.heap.size ≤ w.heap.size + 1 + 1; omega) (.int .i64 (oneC l x).low)).setCell (p := ⟨w.heap.size + 1 + 1, 1, none⟩) (by show w.heap.size ≤ w.heap.size + 1 + 1; omega) (.int .i64 (oneC l x).high)).setCell (p := ⟨w.heap.size + 1 + 1, 2, none⟩) (by show w.heap.size ≤ w.heap.size + 1 + 1; omega) (.string (oneC l x).target) |>.setCell (p := ⟨w.heap.size + 1 + 1, 3, none⟩) (by show w.heap.size ≤ w.heap.size + 1 + 1; omega) (.int .i64 (oneC l x).weight)
            have HBZ := Lib.hid hbz
            clear hbz
            generalize ((((((w1.alloc (.cells #[.int .i64 (oneC l x).low, .int .i64 (oneC l x).high, .string (oneC l x).target, .int .i64 (oneC l x).weight] 35)).drew).setCell ⟨w.heap.size + 1 + 1, 0, none⟩ (.int .i64 (oneC l x).low)).setCell ⟨w.heap.size + 1 + 1, 1, none⟩ (.int .i64 (oneC l x).high)).setCell ⟨w.heap.size + 1 + 1, 2, none⟩ (.string (oneC l x).target)).setCell ⟨w.heap.size + 1 + 1, 3, none⟩ (.int .i64 (oneC l x).weight)) = wz at q0 q1 q2 q3 HBZ ⊢
            refine bodyPost_ret (v := .tuple #[.agg #[.int .i64 (oneC l x).low, .int .i64 (oneC l x).high, .string (oneC l x).target, .int .i64 (oneC l x).weight], .bool false]) (by simp [results, Tryd.results61, go_sem, q0, q1, q2, q3]) rfl ⟨oneC l x, (by rw [HJC.out]; rfl), (fun _ => rfl), HBZ.out⟩
          | obtain ⟨q0, q1, q2, q3⟩ := four_cells (w := w1) (g := w.heap.size + 1 + 1) (u0 := .int .i64 0) (u1 := .int .i64 0) (u2 := .string ⟨#[]⟩) (u3 := .int .i64 0) (by simp [go_sem, z0, hl4, zeroD]) (by simp [go_sem, z1, hl4, zeroD]) (by simp [go_sem, z2, hl4, zeroD]) (by simp [go_sem, z3, hl4, zeroD]) (.int .i64 (oneC l x).low) (.int .i64 (oneC l x).high) (.string (oneC l x).target) (.int .i64 (oneC l x).weight)
            have hl5 : w.heap.size + 1 + 1 < ((((w1.setCell ⟨w.heap.size + 1 + 1, 0, none⟩ (.int .i64 (oneC l x).low)).setCell ⟨w.heap.size + 1 + 1, 1, none⟩ (.int .i64 (oneC l x).high)).setCell ⟨w.heap.size + 1 + 1, 2, none⟩ (.string (oneC l x).target)).setCell ⟨w.heap.size + 1 + 1, 3, none⟩ (.int .i64 (oneC l x).weight)).heap.size := by simpa [go_sem] using hl4
            have hbz := ((((HA.out.trans (HB.out.mono HA.out.size)).setCell (p := ⟨w.heap.size + 1 + 1, 0, none⟩) (by show w.heap.size ≤ w.heap.size + 1 + 1; omega) (.int .i64 (oneC l x).low)).setCell (p := ⟨w.heap.size + 1 + 1, 1, none⟩) (by show w.heap.size ≤ w.heap.size + 1 + 1; omega) (.int .i64 (oneC l x).high)).setCell (p := ⟨w.heap.size + 1 + 1, 2, none⟩) (by show w.heap.size ≤ w.heap.size + 1 + 1; omega) (.string (oneC l x).target)).setCell (p := ⟨w.heap.size + 1 + 1, 3, none⟩) (by show w.heap.size ≤ w.heap.size + 1 + 1; omega) (.int .i64 (oneC l x).weight)
            have HBZ := Lib.hid hbz
            clear hbz
            generalize ((((w1.setCell ⟨w.heap.size + 1 + 1, 0, none⟩ (.int .i64 (oneC l x).low)).setCell ⟨w.heap.size + 1 + 1, 1, none⟩ (.int .i64 (oneC l x).high)).setCell ⟨w.heap.size + 1 + 1, 2, none⟩ (.string (oneC l x).target)).setCell ⟨w.heap.size + 1 + 1, 3, none⟩ (.int .i64 (oneC l x).weight)) = wz at q0 q1 q2 q3 hl5 HBZ ⊢
            refine bodyPost_ret (v := .tuple #[.agg #[.int .i64 (oneC l x).low, .int .i64 (oneC l x).high, .string (oneC l x).target, .int .i64 (oneC l x).weight], .bool false]) (by simp [results, Tryd.results61, go_sem, q0, q1, q2, q3, hl5]) rfl ⟨oneC l x, (by rw [HJC.out]; rfl), (fun _ => rfl), (HBZ.out.alloc HBZ.out.size (.cells #[.int .i64 (oneC l x).low, .int .i64 (oneC l x).high, .string (oneC l x).target, .int .i64 (oneC l x).weight] 35)).drew⟩
    all_goals
      go_wp2
      first
        | obtain ⟨q0, q1, q2, q3⟩ := four_cells (w := ((w1.alloc (.cells #[.int .i64 (oneC l x).low, .int .i64 (oneC l x).high, .string (oneC l x).target, .int .i64 (oneC l x).weight] 35)).drew)) (g := w.heap.size + 1 + 1) (u0 := .int .i64 0) (u1 := .int .i64 0) (u2 := .string ⟨#[]⟩) (u3 := .int .i64 0) (by simp [go_sem, z0, hl4, zeroD]) (by simp [go_sem, z1, hl4, zeroD]) (by simp [go_sem, z2, hl4, zeroD]) (by simp [go_sem, z3, hl4, zeroD]) (.int .i64 (oneC l x).low) (.int .i64 (oneC l x).high) (.string (oneC l x).target) (.int .i64 (oneC l x).weight)
          have hbz := ((((HA.out.trans (HB.out.mono HA.out.size)).alloc (HA.out.trans (HB.out.mono HA.out.size)).size (.cells #[.int .i64 (oneC l x).low, .int .i64 (oneC l x).high, .string (oneC l x).target, .int .i64 (oneC l x).weight] 35)).drew.setCell (p := ⟨w.heap.size + 1 + 1, 0, none⟩) (by show w.heap.size ≤ w.heap.size + 1 + 1; omega) (.int .i64 (oneC l x).low)).setCell (p := ⟨w.heap.size + 1 + 1, 1, none⟩) (by show w.heap.size ≤ w.heap.size + 1 + 1; omega) (.int .i64 (oneC l x).high)).setCell (p := ⟨w.heap.size + 1 + 1, 2, none⟩) (by show w.heap.size ≤ w.heap.size + 1 + 1; omega) (.string (oneC l x).target) |>.setCell (p := ⟨w.heap.size + 1 + 1, 3, none⟩) (by show w.heap.size ≤ w.heap.size + 1 + 1; omega) (.int .i64 (oneC l x).weight)
          have HBZ := Lib.hid hbz
          clear hbz
          generalize ((((((w1.alloc (.cells #[.int .i64 (oneC l x).low, .int .i64 (oneC l x).high, .string (oneC l x).target, .int .i64 (oneC l x).weight] 35)).drew).setCell ⟨w.heap.size + 1 + 1, 0, none⟩ (.int .i64 (oneC l x).low)).setCell ⟨w.heap.size + 1 + 1, 1, none⟩ (.int .i64 (oneC l x).high)).setCell ⟨w.heap.size + 1 + 1, 2, none⟩ (.string (oneC l x).target)).setCell ⟨w.heap.size + 1 + 1, 3, none⟩ (.int .i64 (oneC l x).weight)) = wz at q0 q1 q2 q3 HBZ ⊢
          refine bodyPost_ret (v := .tuple #[.agg #[.int .i64 (oneC l x).low, .int .i64 (oneC l x).high, .string (oneC l x).target, .int .i64 (oneC l x).weight], .bool true]) (by simp [results, Tryd.results61, go_sem, q0, q1, q2, q3]) rfl ⟨oneC l x, (by rw [HJC.out]; rfl), (fun _ => rfl), HBZ.out⟩
        | obtain ⟨q0, q1, q2, q3⟩ := four_cells (w := w1) (g := w.heap.size + 1 + 1) (u0 := .int .i64 0) (u1 := .int .i64 0) (u2 := .string ⟨#[]⟩) (u3 := .int .i64 0) (by simp [go_sem, z0, hl4, zeroD]) (by simp [go_sem, z1, hl4, zeroD]) (by simp [go_sem, z2, hl4, zeroD]) (by simp [go_sem, z3, hl4, zeroD]) (.int .i64 (oneC l x).low) (.int .i64 (oneC l x).high) (.string (oneC l x).target) (.int .i64 (oneC l x).weight)
          have hl5 : w.heap.size + 1 + 1 < ((((w1.setCell ⟨w.heap.size + 1 + 1, 0, none⟩ (.int .i64 (oneC l x).low)).setCell ⟨w.heap.size + 1 + 1, 1, none⟩ (.int .i64 (oneC l x).high)).setCell ⟨w.heap.size + 1 + 1, 2, none⟩ (.string (oneC l x).target)).setCell ⟨w.heap.size + 1 + 1, 3, none⟩ (.int .i64 (oneC l x).weight)).heap.size := by simpa [go_sem] using hl4
          have hbz := ((((HA.out.trans (HB.out.mono HA.out.size)).setCell (p := ⟨w.heap.size + 1 + 1, 0, none⟩) (by show w.heap.size ≤ w.heap.size + 1 + 1; omega) (.int .i64 (oneC l x).low)).setCell (p := ⟨w.heap.size + 1 + 1, 1, none⟩) (by show w.heap.size ≤ w.heap.size + 1 + 1; omega) (.int .i64 (oneC l x).high)).setCell (p := ⟨w.heap.size + 1 + 1, 2, none⟩) (by show w.heap.size ≤ w.heap.size + 1 + 1; omega) (.string (oneC l x).target)).setCell (p := ⟨w.heap.size + 1 + 1, 3, none⟩) (by show w.heap.size ≤ w.heap.size + 1 + 1; omega) (.int .i64 (oneC l x).weight)
          have HBZ := Lib.hid hbz
          clear hbz
          generalize ((((w1.setCell ⟨w.heap.size + 1 + 1, 0, none⟩ (.int .i64 (oneC l x).low)).setCell ⟨w.heap.size + 1 + 1, 1, none⟩ (.int .i64 (oneC l x).high)).setCell ⟨w.heap.size + 1 + 1, 2, none⟩ (.string (oneC l x).target)).setCell ⟨w.heap.size + 1 + 1, 3, none⟩ (.int .i64 (oneC l x).weight)) = wz at q0 q1 q2 q3 hl5 HBZ ⊢
          refine bodyPost_ret (v := .tuple #[.agg #[.int .i64 (oneC l x).low, .int .i64 (oneC l x).high, .string (oneC l x).target, .int .i64 (oneC l x).weight], .bool true]) (by simp [results, Tryd.results61, go_sem, q0, q1, q2, q3, hl5]) rfl ⟨oneC l x, (by rw [HJC.out]; rfl), (fun _ => rfl), (HBZ.out.alloc HBZ.out.size (.cells #[.int .i64 (oneC l x).low, .int .i64 (oneC l x).high, .string (oneC l x).target, .int .i64 (oneC l x).weight] 35)).drew⟩
end Go.Proofs.YtjmfcnblkojejaaDoor
