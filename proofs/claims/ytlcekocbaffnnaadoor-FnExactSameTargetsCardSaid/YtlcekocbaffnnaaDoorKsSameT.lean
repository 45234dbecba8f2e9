/- SameTargets: the program's and the model's. -/
import Derived.Test.YtlcekocbaffnnaaDoorKsOtherS
namespace Go.Proofs.YtlcekocbaffnnaaDoor
open Go.RowKit Go.Shelf Go.Lib Go.Sort

theorem firstB_cases (f : Nat → Bool) : ∀ n, firstB f n = -1 ∨ 0 ≤ firstB f n
  | 0 => .inl rfl
  | n + 1 => by
    rcases firstB_cases f n with h | h
    · simp only [firstB, h]
      rw [if_neg (by omega)]
      split
      · exact .inr (by omega)
      · exact .inl rfl
    · simp only [firstB]
      rw [if_pos h]
      exact .inr h
theorem other_cases (da : Array CaseD) (ra : Int) (db : Array CaseD) (rb : Int) : otherN da ra db rb = -1 ∨ 0 ≤ otherN da ra db rb := by
  unfold otherN
  split
  · exact firstB_cases _ _
  · exact .inl rfl
noncomputable def sameT (da : Array CaseD) (ra : Int) (db : Array CaseD) (rb : Int) : Bool := swB da ra && (swB db rb && (otherN da ra db rb == -1))

set_option maxRecDepth 100000 in
set_option maxHeartbeats 2000000 in
theorem implSame_any (b1 o1 c1 b2 o2 c2 : Nat) (da db : Array CaseD) (ra rb : Int) (w : World) (hA : RowC w b1 o1 da) (hB : RowC w b2 o2 db) (hE : ErrAt w) (hc1 : da.size ≤ c1) (hm1 : c1 ≤ maxLen) (hc2 : db.size ≤ c2) (hm2 : c2 ≤ maxLen) :
    Calls Tryd.prog 42 #[.agg #[.slice (some ⟨b1, o1, none⟩) da.size c1, .int .i64 ra], .agg #[.slice (some ⟨b2, o2, none⟩) db.size c2, .int .i64 rb]] w fun x w' => x = .returned (.bool (sameT da ra db rb)) ∧ RowKit.Below w.heap.size w w' := by
  have hva := fun W (hW : RowKit.Below w.heap.size w W) => switchValid_any b1 o1 c1 da ra W (hA.below hW) (hE.below hW) hc1 hm1
  have hvb := fun W (hW : RowKit.Below w.heap.size w W) => switchValid_any b2 o2 c2 db rb W (hB.below hW) (hE.below hW) hc2 hm2
  have HOT := Lib.hid (fun W (hW : RowKit.Below w.heap.size w W) => implOther_any b1 o1 c1 b2 o2 c2 da db ra rb W (hA.below hW) (hB.below hW) (hE.below hW) hc1 hm1 hc2 hm2)
  obtain ⟨wa, hwa⟩ : ∃ wa, wa = (w.alloc (.cells #[.slice (some ⟨b1, o1, none⟩) da.size c1, .int .i64 ra] 25)).alloc (.cells #[.slice (some ⟨b2, o2, none⟩) db.size c2, .int .i64 rb] 25) := ⟨_, rfl⟩
  have x0 : wa.cell? ⟨w.heap.size, 0, none⟩ = some (.slice (some ⟨b1, o1, none⟩) da.size c1) := by rw [hwa]; simp [go_sem]
  have x1 : wa.cell? ⟨w.heap.size, 1, none⟩ = some (.int .i64 ra) := by rw [hwa]; simp [go_sem]
  have y0 : wa.cell? ⟨w.heap.size + 1, 0, none⟩ = some (.slice (some ⟨b2, o2, none⟩) db.size c2) := by rw [hwa]; simp [go_sem]
  have y1 : wa.cell? ⟨w.heap.size + 1, 1, none⟩ = some (.int .i64 rb) := by rw [hwa]; simp [go_sem]
  have hz : wa.heap.size = w.heap.size + 2 := by rw [hwa]; simp
  have hba : RowKit.Below w.heap.size w wa := by rw [hwa]; exact ((Below.refl _ _).alloc (Nat.le_refl _) _).alloc (by simp) _
  have HA := Lib.hid hba
  have X0 := Lib.hid x0
  have X1 := Lib.hid x1
  have Y0 := Lib.hid y0
  have Y1 := Lib.hid y1
  have HWA := Lib.hid hwa
  have HC := Lib.hid (other_cases da ra db rb)
  have HST := Lib.hid (show sameT da ra db rb = (swB da ra && (swB db rb && (otherN da ra db rb == -1))) from rfl)
  clear hba x0 x1 y0 y1 hwa hA hB
  cases hsa : swB da ra <;> cases hsb : swB db rb
  all_goals
    simp only [hsa] at hva
    simp only [hsb] at hvb
    have VA := Lib.hid hva
    have VB := Lib.hid hvb
    rw [hsa, hsb] at HST
    clear hva hvb hsa hsb
    go_enter Tryd.func42, Tryd.ntmps42
    go_wp2_with fail
    rw [← HWA.out]
    refine (VA.out _ HA.out).mono ?_
    rintro x w1 ⟨rfl, hb⟩
    have B1 := Lib.hid (HA.out.trans (hb.mono (by omega)))
    have hz1 := hb.size
    have a0 := (hb.cell (p := ⟨w.heap.size, 0, none⟩) (by omega : w.heap.size < wa.heap.size)).trans X0.out
    have a1 := (hb.cell (p := ⟨w.heap.size, 1, none⟩) (by omega : w.heap.size < wa.heap.size)).trans X1.out
    have e0 := (hb.cell (p := ⟨w.heap.size + 1, 0, none⟩) (by omega : w.heap.size + 1 < wa.heap.size)).trans Y0.out
    have e1 := (hb.cell (p := ⟨w.heap.size + 1, 1, none⟩) (by omega : w.heap.size + 1 < wa.heap.size)).trans Y1.out
    clear hb
    go_wp2_with fail
  iterate 2
    · go_ret
      exact ⟨retB (by rw [HST.out]; rfl), B1.out⟩
  · refine (VB.out _ B1.out).mono ?_
    rintro x w2 ⟨rfl, hb⟩
    have B2 := Lib.hid (B1.out.trans (hb.mono B1.out.size))
    clear hb a0 a1 e0 e1
    go_wp2_with fail
    go_ret
    exact ⟨retB (by rw [HST.out]; rfl), B2.out⟩
  · refine (VB.out _ B1.out).mono ?_
    rintro x w2 ⟨rfl, hb⟩
    have B2 := Lib.hid (B1.out.trans (hb.mono B1.out.size))
    have hz2 := hb.size
    have a0' := (hb.cell (p := ⟨w.heap.size, 0, none⟩) (by omega : w.heap.size < w1.heap.size)).trans a0
    have a1' := (hb.cell (p := ⟨w.heap.size, 1, none⟩) (by omega : w.heap.size < w1.heap.size)).trans a1
    have e0' := (hb.cell (p := ⟨w.heap.size + 1, 0, none⟩) (by omega : w.heap.size + 1 < w1.heap.size)).trans e0
    have e1' := (hb.cell (p := ⟨w.heap.size + 1, 1, none⟩) (by omega : w.heap.size + 1 < w1.heap.size)).trans e1
    clear hb a0 a1 e0 e1
    have hot := HOT.out _ B2.out
    obtain ⟨z, hzz⟩ : ∃ z, z = otherN da ra db rb := ⟨_, rfl⟩
    rw [← hzz] at hot HST HC
    have HO := Lib.hid hot
    clear hot hzz
    rcases HC.out with h0 | h0
    · subst h0
      go_wp2_with fail
      refine HO.out.mono ?_
      rintro x w3 ⟨rfl, hb⟩
      have B3 := Lib.hid (B2.out.trans (hb.mono B2.out.size))
      clear hb
      go_wp2
      go_ret
      exact ⟨retB (by rw [HST.out]; rfl), B3.out⟩
    · have hq : (z == -1) = false := by simp; omega
      have hq2 : decide (z < 0) = false := by simp; omega
      go_wp2_with fail
      refine HO.out.mono ?_
      rintro x w3 ⟨rfl, hb⟩
      have B3 := Lib.hid (B2.out.trans (hb.mono B2.out.size))
      clear hb
      go_wp2
      go_ret
      exact ⟨retB (by rw [HST.out, hq]; rfl), B3.out⟩

set_option maxRecDepth 100000 in
set_option maxHeartbeats 2000000 in
theorem specSame_any (b1 o1 c1 b2 o2 c2 : Nat) (da db : Array CaseD) (ra rb : Int) (w : World) (hA : RowC w b1 o1 da) (hB : RowC w b2 o2 db) (hc1 : da.size ≤ c1) (hm1 : c1 ≤ maxLen) (hc2 : db.size ≤ c2) (hm2 : c2 ≤ maxLen) :
    Calls Tryd.prog 50 #[.agg #[.slice (some ⟨b1, o1, none⟩) da.size c1, .int .i64 ra], .agg #[.slice (some ⟨b2, o2, none⟩) db.size c2, .int .i64 rb]] w fun x w' => x = .returned (.bool (sameT da ra db rb)) ∧ RowKit.Below w.heap.size w w' := by
  have hva := fun W (hW : RowKit.Below w.heap.size w W) => specValid_any b1 o1 c1 da ra W (hA.below hW) hc1 hm1
  have hvb := fun W (hW : RowKit.Below w.heap.size w W) => specValid_any b2 o2 c2 db rb W (hB.below hW) hc2 hm2
  have HOT := Lib.hid (fun W (hW : RowKit.Below w.heap.size w W) => specOther_any b1 o1 c1 b2 o2 c2 da db ra rb W (hA.below hW) (hB.below hW) hc1 hm1 hc2 hm2)
  obtain ⟨wa, hwa⟩ : ∃ wa, wa = (w.alloc (.cells #[.slice (some ⟨b1, o1, none⟩) da.size c1, .int .i64 ra] 25)).alloc (.cells #[.slice (some ⟨b2, o2, none⟩) db.size c2, .int .i64 rb] 25) := ⟨_, rfl⟩
  have x0 : wa.cell? ⟨w.heap.size, 0, none⟩ = some (.slice (some ⟨b1, o1, none⟩) da.size c1) := by rw [hwa]; simp [go_sem]
  have x1 : wa.cell? ⟨w.heap.size, 1, none⟩ = some (.int .i64 ra) := by rw [hwa]; simp [go_sem]
  have y0 : wa.cell? ⟨w.heap.size + 1, 0, none⟩ = some (.slice (some ⟨b2, o2, none⟩) db.size c2) := by rw [hwa]; simp [go_sem]
  have y1 : wa.cell? ⟨w.heap.size + 1, 1, none⟩ = some (.int .i64 rb) := by rw [hwa]; simp [go_sem]
  have hz : wa.heap.size = w.heap.size + 2 := by rw [hwa]; simp
  have hba : RowKit.Below w.heap.size w wa := by rw [hwa]; exact ((Below.refl _ _).alloc (Nat.le_refl _) _).alloc (by simp) _
  have HA := Lib.hid hba
  have X0 := Lib.hid x0
  have X1 := Lib.hid x1
  have Y0 := Lib.hid y0
  have Y1 := Lib.hid y1
  have HWA := Lib.hid hwa
  have HC := Lib.hid (other_cases da ra db rb)
  have HST := Lib.hid (show sameT da ra db rb = (swB da ra && (swB db rb && (otherN da ra db rb == -1))) from rfl)
  clear hba x0 x1 y0 y1 hwa hA hB
  cases hsa : swB da ra <;> cases hsb : swB db rb
  all_goals
    simp only [hsa] at hva
    simp only [hsb] at hvb
    have VA := Lib.hid hva
    have VB := Lib.hid hvb
    rw [hsa, hsb] at HST
    clear hva hvb hsa hsb
    go_enter Tryd.func50, Tryd.ntmps50
    go_wp2_with fail
    rw [← HWA.out]
    refine (VA.out _ HA.out).mono ?_
    rintro x w1 ⟨rfl, hb⟩
    have B1 := Lib.hid (HA.out.trans (hb.mono (by omega)))
    have hz1 := hb.size
    have a0 := (hb.cell (p := ⟨w.heap.size, 0, none⟩) (by omega : w.heap.size < wa.heap.size)).trans X0.out
    have a1 := (hb.cell (p := ⟨w.heap.size, 1, none⟩) (by omega : w.heap.size < wa.heap.size)).trans X1.out
    have e0 := (hb.cell (p := ⟨w.heap.size + 1, 0, none⟩) (by omega : w.heap.size + 1 < wa.heap.size)).trans Y0.out
    have e1 := (hb.cell (p := ⟨w.heap.size + 1, 1, none⟩) (by omega : w.heap.size + 1 < wa.heap.size)).trans Y1.out
    clear hb
    go_wp2_with fail
  iterate 2
    · go_ret
      exact ⟨retB (by rw [HST.out]; rfl), B1.out⟩
  · refine (VB.out _ B1.out).mono ?_
    rintro x w2 ⟨rfl, hb⟩
    have B2 := Lib.hid (B1.out.trans (hb.mono B1.out.size))
    clear hb a0 a1 e0 e1
    go_wp2_with fail
    go_ret
    exact ⟨retB (by rw [HST.out]; rfl), B2.out⟩
  · refine (VB.out _ B1.out).mono ?_
    rintro x w2 ⟨rfl, hb⟩
    have B2 := Lib.hid (B1.out.trans (hb.mono B1.out.size))
    have hz2 := hb.size
    have a0' := (hb.cell (p := ⟨w.heap.size, 0, none⟩) (by omega : w.heap.size < w1.heap.size)).trans a0
    have a1' := (hb.cell (p := ⟨w.heap.size, 1, none⟩) (by omega : w.heap.size < w1.heap.size)).trans a1
    have e0' := (hb.cell (p := ⟨w.heap.size + 1, 0, none⟩) (by omega : w.heap.size + 1 < w1.heap.size)).trans e0
    have e1' := (hb.cell (p := ⟨w.heap.size + 1, 1, none⟩) (by omega : w.heap.size + 1 < w1.heap.size)).trans e1
    clear hb a0 a1 e0 e1
    have hot := HOT.out _ B2.out
    obtain ⟨z, hzz⟩ : ∃ z, z = otherN da ra db rb := ⟨_, rfl⟩
    rw [← hzz] at hot HST HC
    have HO := Lib.hid hot
    clear hot hzz
    rcases HC.out with h0 | h0
    · subst h0
      go_wp2_with fail
      refine HO.out.mono ?_
      rintro x w3 ⟨rfl, hb⟩
      have B3 := Lib.hid (B2.out.trans (hb.mono B2.out.size))
      clear hb
      go_wp2
      go_ret
      exact ⟨retB (by rw [HST.out]; rfl), B3.out⟩
    · have hq : (z == -1) = false := by simp; omega
      have hq2 : decide (z < 0) = false := by simp; omega
      go_wp2_with fail
      refine HO.out.mono ?_
      rintro x w3 ⟨rfl, hb⟩
      have B3 := Lib.hid (B2.out.trans (hb.mono B2.out.size))
      clear hb
      go_wp2
      go_ret
      exact ⟨retB (by rw [HST.out, hq]; rfl), B3.out⟩
end Go.Proofs.YtlcekocbaffnnaaDoor
