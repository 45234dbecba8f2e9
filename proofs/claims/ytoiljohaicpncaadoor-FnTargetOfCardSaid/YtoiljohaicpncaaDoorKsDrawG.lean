
/- Draws of switches: l1Good. -/
import Derived.Test.YtoiljohaicpncaaDoorKsDrawS
import Derived.Test.YtoiljohaicpncaaDoorKsStep2
namespace Go.Proofs.YtoiljohaicpncaaDoor
open Go.RowKit Go.Shelf Go.Lib Go.Sort

/-- A switch of few cases with short targets, valid or not. -/
def SmallSw (D : Array CaseD) (n : Nat) : Prop := D.size ≤ n ∧ ∀ j, j < D.size → D[j]!.target.size ≤ 2
theorem SmallSw.ok {D : Array CaseD} {rest : Int} (h : SwOK D rest) : SmallSw D 8 := ⟨h.size, fun j hj => by
  have := h.case j hj
  simp [caseB, oneB] at this
  omega⟩
theorem SmallSw.push {D : Array CaseD} {n : Nat} (h : SmallSw D n) (c : CaseD) (hc : c.target.size ≤ 2) : SmallSw (D.push c) (n + 1) := ⟨by have := h.1; simp; omega, fun j hj => by
  rw [Array.size_push] at hj
  by_cases e : j = D.size
  · subst e; simpa using hc
  · have hj' : j < D.size := by omega
    have := h.2 j hj'
    rw [getElem!_pos D j hj'] at this
    simpa [Array.getElem_push, hj', Nat.lt_succ_of_lt hj'] using this⟩
theorem SmallSw.mono {D : Array CaseD} {n m : Nat} (h : SmallSw D n) (hm : n ≤ m) : SmallSw D m := ⟨Nat.le_trans h.1 hm, h.2⟩
theorem RdAt.le {w : World} {g p p' : Nat} (h : RdAt w g p) (hp : p ≤ p') : RdAt w g p' := by
  obtain ⟨a, b, v, m, q, c, d, e⟩ := h
  exact ⟨a, b, v, m, q, c, by omega, e⟩
theorem RdAt.kept {w w' : World} {g p : Nat} {row : Option Nat} (h : RdAt w g p) (hG : w.grownBy w' row) (hr : ∀ r, row = some r → g < r) : RdAt w' g p := by
  obtain ⟨hgl, hf, v, m, q, hm, hq, hv, hp2, hb2⟩ := h
  have hs := hG.size
  have hne : ∀ b, b ≤ g → some b ≠ row := fun b hb e => by have := hr b e.symm; omega
  have e := hG.block g hgl (hne g (Nat.le_refl _))
  refine ⟨by omega, ?_, v, m, q, hm, hq, (hG.cell_far _ (by exact hgl) (hne g (Nat.le_refl _))).trans hv, (hG.cell_far _ (by exact hgl) (hne g (Nat.le_refl _))).trans hp2, ?_⟩
  · rw [← hf]
    unfold World.frozen?
    simp only [e]
  · rcases hb2 with h1 | ⟨b, off, cap, h1, h2, h3, h4⟩
    · exact .inl h1
    · refine .inr ⟨b, off, cap, h1, h2, h3, fun j hj => ?_⟩
      obtain ⟨y, h5, h6⟩ := h4 j hj
      exact ⟨y, h5, (hG.cell_far _ (by show b < _; omega) (hne b (by omega))).trans h6⟩

/-- A switch has been drawn. -/
def DrewSw (g p n : Nat) (w : World) (x : Ending) (w' : World) : Prop := ∃ D rest, SmallSw D n ∧ MadeSw w.heap.size D rest x w' ∧ RdAt w' g p ∧ w.grownBy w' (some g)
theorem DrewSw.mk {g p n : Nat} {w : World} {x : Ending} {w' : World} (D : Array CaseD) (rest : Int) (h1 : SmallSw D n) (h2 : MadeSw w.heap.size D rest x w') (h3 : RdAt w' g p) (h4 : w.grownBy w' (some g)) : DrewSw g p n w x w' := ⟨D, rest, h1, h2, h3, h4⟩

set_option maxRecDepth 100000 in
set_option maxHeartbeats 4000000 in
theorem good_any (g p : Nat) (w : World) (h : RdAt w g p) (hp : p ≤ 50000) :
    Calls Tryd.prog 115 #[.pointer (some ⟨g, 0, none⟩)] w (DrewSw g (p + 60) 8 w) := by
  obtain ⟨i0, hi, hi0, hi1, hi2⟩ := info_parts infoC
  obtain ⟨wa, hwa⟩ : ∃ wa, wa = w.alloc (.cells #[.slice none 0 0, .int .i64 0] 25) := ⟨_, rfl⟩
  have HRX := Lib.hid (show BoxS wa w.heap.size (.slice none 0 0) 0 by rw [hwa]; exact BoxS.new _ _ _)
  have HGA := Lib.hid (show w.grownBy wa (some g) by rw [hwa]; exact World.grownBy_alloc _ _ _)
  have HRA := Lib.hid (show RdAt wa g p by rw [hwa]; exact h.alloc _)
  have hz : w.heap.size < wa.heap.size := by rw [hwa]; simp
  have HWA := Lib.hid hwa
  have hgw : g < w.heap.size := h.1
  have HK := Lib.hid (fun n q W (hW : RdAt W g q) (hq : q ≤ 100000) (hn : n ≤ 100000) => pickR_any g n q W hW hq hn)
  clear hwa h
  go_enter Tryd.func115, Tryd.ntmps115
  go_wp2_with fail
  rw [← HWA.out]
  refine (HK.out 3 p _ HRA.out (by omega) (by omega)).mono ?_
  rintro x w1 ⟨q0, rfl, _, hR1, hG1⟩
  have HR1 := Lib.hid hR1
  have HG1 := Lib.hid (grownBy_trans HGA.out hG1)
  have RX1 := Lib.hid (HRX.out.kept hG1 (by simp; omega))
  have hz1 := hG1.size
  clear hR1 hG1
  by_cases h0 : q0 = 0
  · subst h0
    go_wp2_with fail
    refine (HK.out 10 (p + 1) _ HR1.out (by omega) (by omega)).mono ?_
    rintro x w2 ⟨q1, rfl, hq1, hR2, hG2⟩
    have HR2 := Lib.hid hR2
    have HG2 := Lib.hid (grownBy_trans HG1.out hG2)
    have RX2 := Lib.hid (RX1.out.kept hG2 (by simp; omega))
    have hz2 := hG2.size
    have HKN := Lib.hid (known_any q1 (hq1 (by omega)) w2)
    clear hR2 hG2 hq1
    go_wp2_with fail
    refine HKN.out.mono ?_
    rintro x w3 ⟨D, r, hs, ⟨v, rfl, ho, hv⟩, hb⟩
    obtain ⟨gd, cd, rfl, hgd, hcd, hmd⟩ := owns_form ho hv
    have hDl : D.toList.length = D.size := Array.length_toList
    rw [hDl] at ho hv
    have HS := Lib.hid (SmallSw.ok hs)
    have HV := Lib.hid hv
    have RX3 := RX2.out.kept (grown_of_below hb) (by simp)
    have HR3 := Lib.hid (HR2.out.kept (grown_of_below hb) (by simp))
    have HG3 := Lib.hid (grownBy_trans HG2.out (show w2.grownBy w3 (some g) from ⟨hb.os, hb.tape, hb.output, hb.size, fun k hk _ => hb.block k hk⟩))
    have d0 := RX3.c0
    have d1 := RX3.c1
    have d2 := RX3.z 0
    have d3 := RX3.z 1
    have hlt := RX3.lt
    obtain ⟨RX4, O4, G4⟩ := put_sw RX3 ho r
    have HR4 := Lib.hid RX4
    have HO4 := Lib.hid O4
    have HRD := Lib.hid (HR3.out.kept G4 (fun q e => by cases e; omega))
    have HGD := Lib.hid (fun k hk hne => (G4.block k hk hne))
    have HG4 := Lib.hid G4
    have hg' : w.heap.size ≤ w2.heap.size := by omega
    clear ho hb hv hs O4 G4 RX4 RX3 hgd hcd hmd hDl
    go_wp2_with fail
    refine bodyPost_ret (v := .agg #[.slice (some ⟨gd, 0, none⟩) D.size cd, .int .i64 r]) (by simp [results, Tryd.results115, go_sem, HR4.out.c0, HR4.out.c1]) rfl (DrewSw.mk D r HS.out ⟨_, rfl, owns_base HO4.out hg', HV.out⟩ (HRD.out.le (by omega)) ?_)
    have hG3 := HG3.out
    have hG4 := HG4.out
    exact ⟨hG4.os.trans hG3.os, hG4.tape.trans hG3.tape, hG4.output.trans hG3.output, Nat.le_trans hG3.size hG4.size, fun k hk hne => (hG4.block k (Nat.lt_of_lt_of_le hk hG3.size) (by simp; omega)).trans (hG3.block k hk hne)⟩
  · have hb0 : ((q0 : Int) == 0) = false := by simp; omega
    go_wp2_with fail
    obtain ⟨w2, hw2⟩ : ∃ w2, w2 = w1.alloc (.cells #[] 35) := ⟨_, rfl⟩
    have HOW := Lib.hid (show OwnsC w1.heap.size (.slice (some ⟨w1.heap.size, 0, none⟩) 0 0) [] w2 by
      have := World.ownsRow_made (base := w1.heap.size) (e := 35) (size := 4) w1 #[] 0 (Nat.le_refl _) (by unfold maxLen; omega) rfl
      rw [hw2]
      exact this)
    have HR2 := Lib.hid (show RdAt w2 g (p + 1) by rw [hw2]; exact HR1.out.alloc _)
    have HG2 := Lib.hid (show w.grownBy w2 (some g) by rw [hw2]; exact grownBy_trans HG1.out (World.grownBy_alloc _ _ _))
    have RX2 := Lib.hid (show BoxS w2 w.heap.size (.slice none 0 0) 0 by rw [hw2]; exact RX1.out.kept (row := none) (World.grownBy_alloc _ _ _) (by simp))
    have hz2 : w1.heap.size < w2.heap.size := by rw [hw2]; simp
    rw [← hw2]
    clear hw2
    refine (HK.out 100 (p + 1) _ HR2.out (by omega) (by omega)).mono ?_
    rintro x w3 ⟨q1, rfl, _, hR3, hG3⟩
    have HR3 := Lib.hid hR3
    have HG3 := Lib.hid (grownBy_trans HG2.out hG3)
    have RX3 := Lib.hid (RX2.out.kept hG3 (by simp; omega))
    have HO3 := Lib.hid (show OwnsC w1.heap.size (.slice (some ⟨w1.heap.size, 0, none⟩) 0 0) [] w3 from World.ownsRow.kept HOW.out hG3 (.inr (by simp [Value.ownBlock]; omega)))
    have hz3 := hG3.size
    clear hR3 hG3
    go_wp2_with fail
    refine (numLit_any g (p + 2) [1, 0, 3, 20, (q1 : Int)] _ HR3.out (by omega) (by simp) (by simp)).mono ?_
    rintro x w4 ⟨z, _, rfl, hR4, hG4⟩
    have HR4 := Lib.hid hR4
    have HG4 := Lib.hid (grownBy_trans HG3.out hG4)
    have RX4 := Lib.hid (RX3.out.kept hG4 (by simp; omega))
    have HO4 := Lib.hid (show OwnsC w1.heap.size (.slice (some ⟨w1.heap.size, 0, none⟩) 0 0) [] w4 from World.ownsRow.kept HO3.out hG4 (.inr (by simp [Value.ownBlock]; omega)))
    have hz4 := hG4.size
    clear hR4 hG4
    obtain ⟨wb, hwb⟩ : ∃ wb, wb = w4.alloc (.cells #[.slice (some ⟨w1.heap.size, 0, none⟩) 0 0, .int .i64 z] 25) := ⟨_, rfl⟩
    have HBX := Lib.hid (show BoxS wb w4.heap.size (.slice (some ⟨w1.heap.size, 0, none⟩) 0 0) z by rw [hwb]; exact BoxS.new _ _ _)
    have HRB := Lib.hid (show RdAt wb g (p + 3) by rw [hwb]; exact HR4.out.alloc _)
    have HGB := Lib.hid (show w.grownBy wb (some g) by rw [hwb]; exact grownBy_trans HG4.out (World.grownBy_alloc _ _ _))
    have RXB := Lib.hid (show BoxS wb w.heap.size (.slice none 0 0) 0 by rw [hwb]; exact RX4.out.kept (row := none) (World.grownBy_alloc _ _ _) (by simp))
    have HOB := Lib.hid (show OwnsC w1.heap.size (.slice (some ⟨w1.heap.size, 0, none⟩) 0 0) [] wb by rw [hwb]; exact World.ownsRow.alloc (xs := []) HO4.out _)
    have hzb : w4.heap.size < wb.heap.size := by rw [hwb]; simp
    have HWB := Lib.hid hwb
    clear hwb
    go_wp2_with fail
    rw [← HWB.out]
    refine (HK.out 4 (p + 3) _ HRB.out (by omega) (by omega)).mono ?_
    rintro x w5 ⟨q2, rfl, hq2, hR5, hG5⟩
    have hq2' := hq2 (by omega)
    have HR5 := Lib.hid hR5
    have HG5 := Lib.hid (grownBy_trans HGB.out hG5)
    have RX5 := Lib.hid (RXB.out.kept hG5 (by simp; omega))
    have HB5 := Lib.hid (HBX.out.kept hG5 (by simp; omega))
    have HO5 := Lib.hid (show OwnsC w1.heap.size (.slice (some ⟨w1.heap.size, 0, none⟩) 0 0) [] w5 from World.ownsRow.kept HOB.out hG5 (.inr (by simp [Value.ownBlock]; omega)))
    have hz5 := hG5.size
    clear hR5 hG5 hq2
    go_wp2_with fail
    refine (numLit_any g (p + 4) [3, 4, 5, 2, 6, 1, 8, 0] _ HR5.out (by omega) (by simp) (by simp)).mono ?_
    rintro x w6 ⟨n, hn, rfl, hR6, hG6⟩
    have hn0 : 0 ≤ n ∧ n ≤ 8 := by simp at hn; omega
    obtain ⟨N, rfl⟩ : ∃ N : Nat, n = N := ⟨n.toNat, by omega⟩
    have HR6 := Lib.hid hR6
    have HG6 := Lib.hid (grownBy_trans HG5.out hG6)
    have RX6 := Lib.hid (RX5.out.kept hG6 (by simp; omega))
    have HB6 := Lib.hid (HB5.out.kept hG6 (by simp; omega))
    have HO6 := Lib.hid (show OwnsC w1.heap.size (.slice (some ⟨w1.heap.size, 0, none⟩) 0 0) [] w6 from World.ownsRow.kept HO5.out hG6 (.inr (by simp [Value.ownBlock]; omega)))
    have hz6 := hG6.size
    have hN : N ≤ 8 := by omega
    clear hR6 hG6 hn hn0
    go_wp2_with fail
    go_loopw [4, 24] (fun at' i wr => ∃ (k a : Nat) (D : Array CaseD) (v : Value), i = .int .i64 k ∧ at' = .int .i64 a ∧ k ≤ N ∧ a ≤ 40 ∧ Hid (BoxS wr w4.heap.size v z) ∧ Hid (OwnsC w1.heap.size v D.toList wr) ∧ Hid (SmallSw D k) ∧ Hid (v ≠ .slice none 0 0) ∧ Hid (RdAt wr g (p + 5 + 5 * k)) ∧ Hid (w.grownBy wr (some g)) ∧ Hid (BoxS wr w.heap.size (.slice none 0 0) 0) ∧ w6.heap.size ≤ wr.heap.size) (fun _ i _ => N + 2 - (intOf i).toNat)
    case atStart => exact ⟨0, q2, #[], _, rfl, rfl, Nat.zero_le _, by omega, HB6.out, HO6.out, Lib.hid ⟨Nat.le_refl _, fun j hj => absurd hj (Nat.not_lt_zero j)⟩, Lib.hid (by simp), HR6.out, HG6.out, RX6.out, Nat.le_refl _⟩
    case round =>
      obtain ⟨k, a, D, v, rfl, rfl, hk, ha, HBk, HOk, HSk, HVk, HRk, HGk, RXk, hwz⟩ := hrel
      by_cases hlt : k < N
      · have hki : (k : Int) < (N : Int) := by omega
        go_wp2_with fail
        refine (numLit_any g (p + 5 + 5 * k) [0, 0, 1, 3, 0, 2] _ HRk.out (by omega) (by simp) (by simp)).mono ?_
        rintro x w7 ⟨zz, hzz, rfl, hR7, hG7⟩
        have hzr : 0 ≤ zz ∧ zz ≤ 3 := by simp at hzz; omega
        obtain ⟨Z, rfl⟩ : ∃ Z : Nat, zz = Z := ⟨zz.toNat, by omega⟩
        have hZ : Z ≤ 3 := by omega
        have HR7 := Lib.hid hR7
        have HG7 := Lib.hid (grownBy_trans HGk.out hG7)
        have RX7 := Lib.hid (RXk.out.kept hG7 (by simp; omega))
        have HB7 := Lib.hid (HBk.out.kept hG7 (by simp; omega))
        have HO7 := Lib.hid (show OwnsC w1.heap.size v D.toList w7 from World.ownsRow.kept HOk.out hG7 (.inr (fun e => by have := (World.ownsRow.lt HOk.out g e).1; omega)))
        have hz7 := hG7.size
        clear hzz hzr hR7 hG7 HBk HOk HRk HGk RXk
        by_cases hhi : 31 < a + Z
        · have hhi' : (31 : Int) < (a : Int) + (Z : Int) := by omega
          obtain ⟨gd, cd, rfl, hgd, hcd, hmd⟩ := owns_form HO7.out HVk.out
          have hDl : D.toList.length = D.size := Array.length_toList
          rw [hDl] at HB7 HO7 HVk
          have b0 := HB7.out.c0
          have b1 := HB7.out.c1
          have c0 := RX7.out.c0
          have c1 := RX7.out.c1
          have c2 := RX7.out.z 0
          have c3 := RX7.out.z 1
          have hbl := HB7.out.lt
          have hcl := RX7.out.lt
          obtain ⟨RZ, OZ, GZ⟩ := put_sw RX7.out HO7.out z
          have HRZ := Lib.hid RZ
          have HOZ := Lib.hid OZ
          have HGZ := Lib.hid GZ
          clear RZ OZ GZ hgd hcd hmd hDl
          go_wp2_with fail
          refine bodyPost_ret (v := .agg #[.slice (some ⟨gd, 0, none⟩) D.size cd, .int .i64 z]) (by simp [results, Tryd.results115, go_sem, HRZ.out.c0, HRZ.out.c1]) rfl (DrewSw.mk D z (HSk.out.mono (by omega)) ⟨_, rfl, owns_base HOZ.out (by omega), HVk.out⟩ ((HR7.out.kept HGZ.out (fun q e => by cases e; omega)).le (by omega)) ?_)
          have hG3 := HG7.out
          have hG4 := HGZ.out
          exact ⟨hG4.os.trans hG3.os, hG4.tape.trans hG3.tape, hG4.output.trans hG3.output, Nat.le_trans hG3.size hG4.size, fun q hq hne => (hG4.block q (Nat.lt_of_lt_of_le hq hG3.size) (by simp; omega)).trans (hG3.block q hq hne)⟩
        · have hhi' : ¬ (31 : Int) < (a : Int) + (Z : Int) := by omega
          obtain ⟨av, cv, rfl⟩ := row_slice HO7.out
          go_upto_region 9 with fail
          go_cut [] (fun wx => Hid (∃ (c : CaseD) (v' : Value), c.target.size ≤ 2 ∧ BoxS wx w4.heap.size v' z ∧ OwnsC w1.heap.size v' (D.push c).toList wx ∧ v' ≠ .slice none 0 0 ∧ RdAt wx g (p + 5 + 5 * k + 4) ∧ w.grownBy wx (some g) ∧ BoxS wx w.heap.size (.slice none 0 0) 0 ∧ w6.heap.size ≤ wx.heap.size))
          case first =>
            have y0 := HB7.out.c0
            have y2 := HB7.out.z 0
            have hy := HB7.out.lt
            have HR7d := Lib.hid HR7.out.drew
            have HOF := Lib.hid (ofLit_any g (p + 5 + 5 * k + 1) [⟨#[97]⟩, ⟨#[98]⟩, ⟨#[99]⟩, ⟨#[97]⟩, ⟨#[100]⟩, ⟨#[98]⟩] w7.drew HR7d.out (by omega) (by simp) (by simp))
            have hDl : D.toList.length = D.size := Array.length_toList
            rw [hDl] at HB7 HO7 y0
            have HNG := Lib.hid (show (Value.slice av D.size cv).ownBlock ≠ some g from fun e => by have := (World.ownsRow.lt HO7.out g e).1; omega)
            have HNB := Lib.hid (Ne.symm (HB7.out.not_row HO7.out))
            have HNW := Lib.hid (show (Value.slice av D.size cv).ownBlock ≠ some w.heap.size from fun e => by have := (World.ownsRow.lt HO7.out w.heap.size e).1; omega)
            have hDs := HSk.out.1
            go_region_law (first
              | (refine step_call2 _ (by rfl) 116 (.tmp 37) (.tmp 38) 64 83 (by rfl) (enters_of Tryd.func116 (by kernel_rfl) rfl) (.pointer (some ⟨g, 0, none⟩)) (.slice (some ⟨w7.heap.size, 0, none⟩) 6 6) (by rfl) (by rfl) ((HOF.out).mono ?_); rintro _ w8 ⟨tz, htz, rfl, R8, g8⟩; have htz2 : tz.size ≤ 2 := (by simp at htz; rcases htz with rfl | rfl | rfl | rfl | rfl | rfl <;> decide); refine ⟨_, rfl, ?_⟩; have G8 := Lib.hid (show w7.grownBy w8 (some g) from ⟨g8.os, g8.tape, g8.output, g8.size, g8.block⟩); have HR8 := Lib.hid R8; have HB8 := Lib.hid (HB7.out.kept G8.out (by simp; omega)); have z8 := G8.out.size; have e8 := HB8.out.c0; have e8z := HB8.out.z 0; have hl8 := HB8.out.lt; clear R8 g8)
              | (refine step_call2 _ (by rfl) 101 (.tmp 41) (.const (.int .i64 100)) 64 3 (by rfl) (enters_of Tryd.func101 (by kernel_rfl) rfl) (.pointer (some ⟨g, 0, none⟩)) (.int .i64 100) (by rfl) (by rfl) ((HK.out 100 (p + 5 + 5 * k + 2) _ HR8.out (by omega) (by omega)).mono ?_); rintro _ w9 ⟨qw, rfl, _, R9, g9⟩; refine ⟨_, rfl, ?_⟩; have G9 := Lib.hid (show w8.grownBy w9 (some g) from ⟨g9.os, g9.tape, g9.output, g9.size, g9.block⟩); have HR9 := Lib.hid R9; have HB9 := Lib.hid (HB8.out.kept G9.out (by simp; omega)); have z9 := G9.out.size; have e9 := HB9.out.c0; have e9z := HB9.out.z 0; have hl9 := HB9.out.lt; clear R9 g9)
              | (refine step_call2 _ (by rfl) 100 (.tmp 40) (.tmp 43) 64 51 (by rfl) (enters_of Tryd.func100 (by kernel_rfl) rfl) (.pointer (some ⟨g, 0, none⟩)) (.slice (some ⟨w9.heap.size, 0, none⟩) 6 6) (by rfl) (by rfl) ((numLit_any g (p + 5 + 5 * k + 3) [1, 2, 5, 0, 10, (qw : Int)] w9 HR9.out (by omega) (by simp) (by simp)).mono ?_); rintro _ w10 ⟨wt, _, rfl, R10, g10⟩; refine ⟨_, rfl, ?_⟩; have G10 := Lib.hid (show w9.grownBy w10 (some g) from ⟨g10.os, g10.tape, g10.output, g10.size, g10.block⟩); have HR10 := Lib.hid R10; have HB10 := Lib.hid (HB9.out.kept G10.out (by simp; omega)); have z10 := G10.out.size; have e10 := HB10.out.c0; have e10z := HB10.out.z 0; have hl10 := HB10.out.lt; clear R10 g10)
              | (refine step_append_ownT _ (by rfl) (.tmp 34) (.tmp 46) 23 (by rfl) w1.heap.size 35 i0 zeroC 4 40 Tryd.underlying23 hi hi0 hi1 hi2 rfl (by decide) (.slice av D.size cv) D.size (flatL D.toList) (by rfl) (World.ownsRow.alloc (World.ownsRow.kept (World.ownsRow.kept (World.ownsRow.kept HO7.out G8.out (.inr HNG.out)) G9.out (.inr HNG.out)) G10.out (.inr HNG.out)) _) ⟨w10.heap.size, 0, none⟩ 1 1 (encC ⟨a, (a : Int) + (Z : Int), tz, wt⟩) (by first | rfl | (go_simp; done)) rfl (cells_at rfl) (encC_one _) (by unfold maxLen; omega) (by omega) (by simp; omega) ?_; intro v11 w11 hown hgrow hat; obtain ⟨g1, cap1, rfl⟩ := ownsRow_succ hown; have HOWN := Lib.hid hown; have HGR := Lib.hid hgrow; have HB11 := Lib.hid ((HB10.out.kept (row := none) (World.grownBy_alloc w10 (.cells #[.int .i64 (a : Int), .int .i64 ((a : Int) + (Z : Int)), .string tz, .int .i64 wt] 35) none) (by simp)).kept HGR.out HNB.out); have e11 := HB11.out.c0; have e11z := HB11.out.z 0; have z11 := HGR.out.size; clear hown hgrow hat))
            all_goals
              go_wp2_with fail
              go_meet
              have GT := grownBy_trans (grownBy_trans (grownBy_trans HG7.out G8.out) G9.out) G10.out
              have GA := World.grownBy_alloc w10 (.cells #[.int .i64 (a : Int), .int .i64 ((a : Int) + (Z : Int)), .string tz, .int .i64 wt] 35) none
              have GS := grown_set w11 w4.heap.size 0 (.slice (some ⟨g1, 0, none⟩) (D.size + 1) cap1)
              have hrow : ∀ r, (Value.slice av D.size cv).ownBlock = some r → w1.heap.size ≤ r := fun r e => (World.ownsRow.lt HO7.out r e).1
              have hw10 : w10.heap.size ≤ (w10.alloc (.cells #[.int .i64 (a : Int), .int .i64 ((a : Int) + (Z : Int)), .string tz, .int .i64 wt] 35)).heap.size := GA.size
              have hw11 : (w10.alloc (.cells #[.int .i64 (a : Int), .int .i64 ((a : Int) + (Z : Int)), .string tz, .int .i64 wt] 35)).heap.size ≤ w11.heap.size := HGR.out.size
              refine Lib.hid ⟨⟨a, (a : Int) + (Z : Int), tz, wt⟩, _, htz2, HB11.out.set _, ?_, by simp, ((HR10.out.alloc (.cells #[.int .i64 (a : Int), .int .i64 ((a : Int) + (Z : Int)), .string tz, .int .i64 wt] 35)).kept HGR.out (fun r e => by have := hrow r e; omega)).kept GS (fun r e => by cases e; omega), ?_, ?_, by simp [World.setCell]; omega⟩
              · have h5 := World.ownsRow.kept HOWN.out GS (.inr (HB11.out.not_row HOWN.out))
                unfold OwnsC
                rw [Array.toList_push, List.length_append, hDl, ← flatL_snoc]
                exact h5
              · exact ⟨GS.os.trans (HGR.out.os.trans (GA.os.trans GT.os)), GS.tape.trans (HGR.out.tape.trans (GA.tape.trans GT.tape)), GS.output.trans (HGR.out.output.trans (GA.output.trans GT.output)), by have := GT.size; have := GS.size; omega, fun q hq hne => by
                  have hs := GT.size
                  refine (GS.block q (by omega) (by simp; omega)).trans ((HGR.out.block q (by omega) (fun e => by have := hrow q e.symm; omega)).trans ((GA.block q (by omega) (by simp)).trans (GT.block q hq hne)))⟩
              · have h1 := ((RX7.out.kept G8.out (by simp; omega)).kept G9.out (by simp; omega)).kept G10.out (by simp; omega)
                exact ((h1.kept GA (by simp)).kept HGR.out (Ne.symm HNW.out)).kept GS (by simp; omega)
          case rest =>
            obtain ⟨c, v', hc2, hB8, hO8, hV8, hR8, hG8, hRX8, hz8⟩ := hcut.out
            have HB8 := Lib.hid hB8
            have HO8 := Lib.hid hO8
            have HV8 := Lib.hid hV8
            have RX8 := Lib.hid hRX8
            have HS8 := Lib.hid (HSk.out.push c hc2)
            have HG8 := Lib.hid hG8
            have HR8 := Lib.hid hR8
            clear hcut hB8 hO8 hV8 hR8 hG8 hRX8 hc2
            go_wp2_with fail
            refine (numLit_any g (p + 5 + 5 * k + 4) [0, 1, 0, 3, 6] _ HR8.out (by omega) (by simp) (by simp)).mono ?_
            rintro x w9 ⟨yy, hyy, rfl, hR9, hG9⟩
            have hyr : 0 ≤ yy ∧ yy ≤ 6 := by simp at hyy; omega
            obtain ⟨Y, rfl⟩ : ∃ Y : Nat, yy = Y := ⟨yy.toNat, by omega⟩
            have hY : Y ≤ 6 := by omega
            have hz9 := hG9.size
            have HR9 := Lib.hid hR9
            have HG9 := Lib.hid hG9
            clear hyy hyr hR9 hG9
            go_wp2_with fail
            go_roundw
            case rel =>
              exact ⟨k + 1, a + Z + 1 + Y, D.push c, v', by go_num, by go_num, by omega, by omega, HB8.out.kept HG9.out (by simp; omega), World.ownsRow.kept HO8.out HG9.out (.inr (fun e => by have := (World.ownsRow.lt HO8.out g e).1; omega)), HS8.out, HV8.out, HR9.out.le (by omega), grownBy_trans HG8.out HG9.out, RX8.out.kept HG9.out (by simp; omega), by omega⟩
            case measure => simp [intOf]; omega
      · have hki : ¬ (k : Int) < (N : Int) := by omega
        obtain ⟨gd, cd, rfl, hgd, hcd, hmd⟩ := owns_form HOk.out HVk.out
        have hDl : D.toList.length = D.size := Array.length_toList
        rw [hDl] at HBk HOk HVk
        have b0 := HBk.out.c0
        have b1 := HBk.out.c1
        have c0 := RXk.out.c0
        have c1 := RXk.out.c1
        have c2 := RXk.out.z 0
        have c3 := RXk.out.z 1
        have hbl := HBk.out.lt
        have hcl := RXk.out.lt
        obtain ⟨RZ, OZ, GZ⟩ := put_sw RXk.out HOk.out z
        have HRZ := Lib.hid RZ
        have HOZ := Lib.hid OZ
        have HGZ := Lib.hid GZ
        clear RZ OZ GZ hgd hcd hmd hDl
        go_wp2_with fail
        refine bodyPost_ret (v := .agg #[.slice (some ⟨gd, 0, none⟩) D.size cd, .int .i64 z]) (by simp [results, Tryd.results115, go_sem, HRZ.out.c0, HRZ.out.c1]) rfl (DrewSw.mk D z (HSk.out.mono (by omega)) ⟨_, rfl, owns_base HOZ.out (by omega), HVk.out⟩ ((HRk.out.kept HGZ.out (fun q e => by cases e; omega)).le (by omega)) ?_)
        have hG3 := HGk.out
        have hG4 := HGZ.out
        exact ⟨hG4.os.trans hG3.os, hG4.tape.trans hG3.tape, hG4.output.trans hG3.output, Nat.le_trans hG3.size hG4.size, fun q hq hne => (hG4.block q (Nat.lt_of_lt_of_le hq hG3.size) (by simp; omega)).trans (hG3.block q hq hne)⟩
end Go.Proofs.YtoiljohaicpncaaDoor
