/- FirstOther of the model; SameTargets of the program and the model. -/
import Derived.Test.YtlcekocbaffnnaaDoorKsOther
namespace Go.Proofs.YtlcekocbaffnnaaDoor
open Go.RowKit Go.Shelf Go.Lib Go.Sort

set_option maxRecDepth 100000 in
set_option maxHeartbeats 2000000 in
theorem specOther_any (b1 o1 c1 b2 o2 c2 : Nat) (da db : Array CaseD) (ra rb : Int) (w : World) (hA : RowC w b1 o1 da) (hB : RowC w b2 o2 db) (hc1 : da.size ≤ c1) (hm1 : c1 ≤ maxLen) (hc2 : db.size ≤ c2) (hm2 : c2 ≤ maxLen) :
    Calls Tryd.prog 49 #[.agg #[.slice (some ⟨b1, o1, none⟩) da.size c1, .int .i64 ra], .agg #[.slice (some ⟨b2, o2, none⟩) db.size c2, .int .i64 rb]] w fun x w' => x = .returned (.int .i64 (otherN da ra db rb)) ∧ RowKit.Below w.heap.size w w' := by
  have hva := fun W (hW : RowKit.Below w.heap.size w W) => specValid_any b1 o1 c1 da ra W (hA.below hW) hc1 hm1
  have hvb := fun W (hW : RowKit.Below w.heap.size w W) => specValid_any b2 o2 c2 db rb W (hB.below hW) hc2 hm2
  have RA := Lib.hid hA
  have RB := Lib.hid hB
  obtain ⟨wa, hwa⟩ : ∃ wa, wa = (w.alloc (.cells #[.slice (some ⟨b1, o1, none⟩) da.size c1, .int .i64 ra] 25)).alloc (.cells #[.slice (some ⟨b2, o2, none⟩) db.size c2, .int .i64 rb] 25) := ⟨_, rfl⟩
  have x0 : wa.cell? ⟨w.heap.size, 0, none⟩ = some (.slice (some ⟨b1, o1, none⟩) da.size c1) := by rw [hwa]; simp [go_sem]
  have x1 : wa.cell? ⟨w.heap.size, 1, none⟩ = some (.int .i64 ra) := by rw [hwa]; simp [go_sem]
  have y0 : wa.cell? ⟨w.heap.size + 1, 0, none⟩ = some (.slice (some ⟨b2, o2, none⟩) db.size c2) := by rw [hwa]; simp [go_sem]
  have y1 : wa.cell? ⟨w.heap.size + 1, 1, none⟩ = some (.int .i64 rb) := by rw [hwa]; simp [go_sem]
  have hz : wa.heap.size = w.heap.size + 2 := by rw [hwa]; simp
  have hba : RowKit.Below w.heap.size w wa := by rw [hwa]; exact ((Below.refl _ _).alloc (Nat.le_refl _) _).alloc (by simp) _
  have HA := Lib.hid hba
  have X0 := Lib.hid x0
  have X1 := Lib.hid x1
  have Y0 := Lib.hid y0
  have Y1 := Lib.hid y1
  have HWA := Lib.hid hwa
  clear hba x0 x1 y0 y1 hwa hA hB
  cases hsa : swB da ra <;> cases hsb : swB db rb
  all_goals
    simp only [hsa] at hva
    simp only [hsb] at hvb
    have VA := Lib.hid hva
    have VB := Lib.hid hvb
    have SA := Lib.hid hsa
    have SB := Lib.hid hsb
    clear hva hvb hsa hsb
    go_enter Tryd.func49, Tryd.ntmps49
    go_wp2_with fail
    rw [← HWA.out]
    refine (VA.out _ HA.out).mono ?_
    rintro x w1 ⟨rfl, hb⟩
    have B1 := Lib.hid (HA.out.trans (hb.mono (by omega)))
    have hz1 := hb.size
    have a0 := (hb.cell (p := ⟨w.heap.size, 0, none⟩) (by omega : w.heap.size < wa.heap.size)).trans X0.out
    have a1 := (hb.cell (p := ⟨w.heap.size, 1, none⟩) (by omega : w.heap.size < wa.heap.size)).trans X1.out
    have e0 := (hb.cell (p := ⟨w.heap.size + 1, 0, none⟩) (by omega : w.heap.size + 1 < wa.heap.size)).trans Y0.out
    have e1 := (hb.cell (p := ⟨w.heap.size + 1, 1, none⟩) (by omega : w.heap.size + 1 < wa.heap.size)).trans Y1.out
    clear hb
    go_wp2_with fail
  iterate 2
    · go_ret
      exact ⟨retI (by rw [otherN, if_neg (by rw [SA.out]; simp)]), B1.out⟩
  · refine (VB.out _ B1.out).mono ?_
    rintro x w2 ⟨rfl, hb⟩
    have B2 := Lib.hid (B1.out.trans (hb.mono B1.out.size))
    clear hb a0 a1 e0 e1
    go_wp2_with fail
    go_ret
    exact ⟨retI (by rw [otherN, if_neg (by rw [SB.out]; simp)]), B2.out⟩
  · refine (VB.out _ B1.out).mono ?_
    rintro x w2 ⟨rfl, hb⟩
    have B2 := Lib.hid (B1.out.trans (hb.mono B1.out.size))
    have hz2 := hb.size
    have a0' := (hb.cell (p := ⟨w.heap.size, 0, none⟩) (by omega : w.heap.size < w1.heap.size)).trans a0
    have a1' := (hb.cell (p := ⟨w.heap.size, 1, none⟩) (by omega : w.heap.size < w1.heap.size)).trans a1
    have e0' := (hb.cell (p := ⟨w.heap.size + 1, 0, none⟩) (by omega : w.heap.size + 1 < w1.heap.size)).trans e0
    have e1' := (hb.cell (p := ⟨w.heap.size + 1, 1, none⟩) (by omega : w.heap.size + 1 < w1.heap.size)).trans e1
    have OKA := Lib.hid ((swB_iff _ _).1 SA.out)
    have OKB := Lib.hid ((swB_iff _ _).1 SB.out)
    have E := Lib.hid (⟨a0', a1', e0', e1'⟩ : _ ∧ _ ∧ _ ∧ _)
    clear hb a0 a1 e0 e1 a0' a1' e0' e1'
    go_wp2_with fail
    go_loopw [5] (fun i wr => ∃ k : Nat, i = .int .i64 k ∧ k ≤ 32 ∧ Hid (∀ j, j < k → diffB da db j = false) ∧ Hid (RowKit.Below w2.heap.size w2 wr) ∧ w2.heap.size ≤ wr.heap.size) (fun i _ => 32 - (intOf i).toNat)
    case atStart => exact ⟨0, rfl, by omega, fun j hj => absurd hj (Nat.not_lt_zero j), Below.refl _ _, Nat.le_refl _⟩
    case round =>
      obtain ⟨k, rfl, hk, HD, HW, hw2⟩ := hrel
      by_cases hlt : k < 32
      · have hk0 : (0 : Int) ≤ (k : Int) := by omega
        have hk31 : (k : Int) ≤ 31 := by omega
        have HWW := Lib.hid (B2.out.trans (HW.out.mono B2.out.size))
        have f0 := fun p : BW wr => p.cell (a := ⟨w.heap.size, 0, none⟩) (by omega : w.heap.size < wr.heap.size) ((HW.out.cell (p := ⟨w.heap.size, 0, none⟩) (by omega : w.heap.size < w2.heap.size)).trans E.out.1)
        have f1 := fun p : BW wr => p.cell (a := ⟨w.heap.size, 1, none⟩) (by omega : w.heap.size < wr.heap.size) ((HW.out.cell (p := ⟨w.heap.size, 1, none⟩) (by omega : w.heap.size < w2.heap.size)).trans E.out.2.1)
        have f2 := fun p : BW wr => p.cell (a := ⟨w.heap.size + 1, 0, none⟩) (by omega : w.heap.size + 1 < wr.heap.size) ((HW.out.cell (p := ⟨w.heap.size + 1, 0, none⟩) (by omega : w.heap.size + 1 < w2.heap.size)).trans E.out.2.2.1)
        have f3 := fun p : BW wr => p.cell (a := ⟨w.heap.size + 1, 1, none⟩) (by omega : w.heap.size + 1 < wr.heap.size) ((HW.out.cell (p := ⟨w.heap.size + 1, 1, none⟩) (by omega : w.heap.size + 1 < w2.heap.size)).trans E.out.2.2.2)
        have ga := fun p : BW wr => l1Goes_any b1 o1 c1 da ra k p.W (RA.out.below (HWW.out.trans (p.h.mono HWW.out.size))) OKA.out.size
        have gb := fun p : BW wr => l1Goes_any b2 o2 c2 db rb k p.W (RB.out.below (HWW.out.trans (p.h.mono HWW.out.size))) OKB.out.size
        have HDK := Lib.hid (show diffB da db k = !((goesN da (k : Int)).toList == (goesN db (k : Int)).toList) from rfl)
        obtain ⟨s1, hs1⟩ : ∃ s, s = goesN da (k : Int) := ⟨_, rfl⟩
        obtain ⟨s2, hs2⟩ : ∃ s, s = goesN db (k : Int) := ⟨_, rfl⟩
        rw [← hs1] at ga HDK
        rw [← hs2] at gb HDK
        have GA := Lib.hid ga
        have GB := Lib.hid gb
        clear ga gb hs1 hs2
        cases hq : (s1.toList == s2.toList)
        all_goals
          have HQ := Lib.hid hq
          go_wp2_with fail
          refine wp_region_bw (by kernel_rfl) (by kernel_rfl) ?_
          repeat (go_big_quiet_step ((first | (go_at_call 72; (with_reducible refine bw_of (GA.out _))) | (go_at_call 72; (with_reducible refine bw_of (GB.out _))))))
          refine wpQuiet_nil ?_
          rintro _ ⟨p, rfl⟩
          go_wp2
        · go_ret
          refine ⟨retI ?_, HWW.out.trans (p.h.mono HWW.out.size)⟩
          rw [otherN, if_pos ⟨SA.out, SB.out⟩, firstB_hit (by rw [HDK.out, HQ.out]; rfl) HD.out 32 hlt]
        · go_roundw
          case rel =>
            refine ⟨k + 1, by go_num, by omega, (show Hid _ from fun j hj => ?_), HW.out.trans (p.h.mono hw2), Nat.le_trans hw2 p.h.size⟩
            by_cases e : j = k
            · subst e
              rw [HDK.out, HQ.out]
              rfl
            · exact HD.out j (by omega)
          case measure => simp [intOf]; omega
      · have hke : k = 32 := by omega
        subst hke
        go_wp2
        go_ret
        refine ⟨retI ?_, B2.out.trans (HW.out.mono B2.out.size)⟩
        rw [otherN, if_pos ⟨SA.out, SB.out⟩, firstB_miss 32 HD.out]
end Go.Proofs.YtlcekocbaffnnaaDoor
