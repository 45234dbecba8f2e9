/- IsComplete: the program's and the model's. -/
import Derived.Test.YtlcekocbaffnnaaDoorKsGaps
namespace Go.Proofs.YtlcekocbaffnnaaDoor
open Go.RowKit Go.Shelf Go.Lib Go.Sort

noncomputable def fullB (d : Array CaseD) (rest : Int) : Bool := gapsI d rest == 0
theorem fullB_off {d : Array CaseD} {rest : Int} (h : swB d rest = false) : fullB d rest = false := by
  unfold fullB gapsI
  rw [if_neg (by rw [h]; exact Bool.false_ne_true)]
  rfl
theorem fullB_on {d : Array CaseD} {rest : Int} (h : swB d rest = true) : fullB d rest = (sumTo (keyW d) d.size == 32) := by
  have hk := keys_all ((swB_iff _ _).1 h)
  unfold fullB gapsI
  rw [if_pos h, Bool.eq_iff_iff]
  simp only [beq_iff_eq]
  omega

set_option maxRecDepth 100000 in
set_option maxHeartbeats 1000000 in
theorem implFull_any (b off cap : Nat) (d : Array CaseD) (rest : Int) (w : World) (hR : RowC w b off d) (hE : ErrAt w) (hcap : d.size ≤ cap) (hmax : cap ≤ maxLen) :
    Calls Tryd.prog 36 #[.agg #[.slice (some ⟨b, off, none⟩) d.size cap, .int .i64 rest]] w fun x w' => x = .returned (.bool (fullB d rest)) ∧ RowKit.Below w.heap.size w w' := by
  have hba := (Below.refl w.heap.size w).alloc (Nat.le_refl _) (.cells #[.slice (some ⟨b, off, none⟩) d.size cap, .int .i64 rest] 25)
  have hg := implGaps_any b off cap d rest _ (hR.below hba) (hE.below hba) hcap hmax
  have HF := Lib.hid (show fullB d rest = (gapsI d rest == 0) from rfl)
  obtain ⟨z, hzz⟩ : ∃ z, z = gapsI d rest := ⟨_, rfl⟩
  rw [← hzz] at hg HF
  have HG := Lib.hid hg
  have HA := Lib.hid hba
  clear hg hba hR hE hzz
  by_cases h0 : z = 0
  · subst h0
    go_enter Tryd.func36, Tryd.ntmps36
    go_wp2_with (go_at_call 32; refine HG.out.mono ?_; rintro x w' ⟨rfl, hb⟩; have HB := Lib.hid hb; clear hb)
    go_ret
    exact ⟨retB HF.out.symm, HA.out.trans (HB.out.mono HA.out.size)⟩
  · have hq : (z == 0) = false := by simpa using h0
    go_enter Tryd.func36, Tryd.ntmps36
    go_wp2_with (go_at_call 32; refine HG.out.mono ?_; rintro x w' ⟨rfl, hb⟩; have HB := Lib.hid hb; clear hb)
    go_ret
    exact ⟨retB (by rw [HF.out, hq]), HA.out.trans (HB.out.mono HA.out.size)⟩

set_option maxRecDepth 100000 in
set_option maxHeartbeats 1000000 in
theorem specFull_any (b off cap : Nat) (d : Array CaseD) (rest : Int) (w : World) (hR : RowC w b off d) (hcap : d.size ≤ cap) (hmax : cap ≤ maxLen) :
    Calls Tryd.prog 37 #[.agg #[.slice (some ⟨b, off, none⟩) d.size cap, .int .i64 rest]] w fun x w' => x = .returned (.bool (fullB d rest)) ∧ RowKit.Below w.heap.size w w' := by
  have hv := fun W (hW : RowKit.Below w.heap.size w W) => specValid_any b off cap d rest W (hR.below hW) hcap hmax
  have hk := fun W (hW : RowKit.Below w.heap.size w W) (ho : SwOK d rest) => l1Keys_any b off cap d rest W (hR.below hW) ho
  have HK := Lib.hid hk
  clear hR hk
  obtain ⟨wa, hwa⟩ : ∃ wa, wa = w.alloc (.cells #[.slice (some ⟨b, off, none⟩) d.size cap, .int .i64 rest] 25) := ⟨_, rfl⟩
  have c0 : wa.cell? ⟨w.heap.size, 0, none⟩ = some (.slice (some ⟨b, off, none⟩) d.size cap) := by rw [hwa]; simp
  have c1 : wa.cell? ⟨w.heap.size, 1, none⟩ = some (.int .i64 rest) := by rw [hwa]; simp
  have hz : w.heap.size < wa.heap.size := by rw [hwa]; simp
  have hba : RowKit.Below w.heap.size w wa := by rw [hwa]; exact (Below.refl _ _).alloc (Nat.le_refl _) _
  have HA := Lib.hid hba
  have C0 := Lib.hid c0
  have C1 := Lib.hid c1
  have HWA := Lib.hid hwa
  clear hba c0 c1 hwa
  cases hs : swB d rest
  all_goals
    simp only [hs] at hv
    have HV := Lib.hid hv
    have HS := Lib.hid hs
    clear hv hs
    go_enter Tryd.func37, Tryd.ntmps37
    go_wp2_with fail
    rw [← HWA.out]
    refine (HV.out _ HA.out).mono ?_
    rintro x w1 ⟨rfl, hb⟩
    have HB := Lib.hid hb
    have hz1 := hb.size
    have a0 := (hb.cell (p := ⟨w.heap.size, 0, none⟩) hz).trans C0.out
    have a1 := (hb.cell (p := ⟨w.heap.size, 1, none⟩) hz).trans C1.out
    clear hb
  · go_wp2
    go_ret
    exact ⟨retB (fullB_off HS.out).symm, HA.out.trans (HB.out.mono (by omega))⟩
  · have HWB := Lib.hid (HA.out.trans (HB.out.mono (by omega)))
    have hsum := HK.out _ HWB.out ((swB_iff _ _).1 HS.out)
    have HF := Lib.hid (fullB_on HS.out)
    obtain ⟨z, hzz⟩ : ∃ z, z = sumTo (keyW d) d.size := ⟨_, rfl⟩
    rw [← hzz] at hsum HF
    have HSUM := Lib.hid hsum
    clear hsum hzz
    by_cases h0 : z = 32
    · subst h0
      go_wp2_with (go_at_call 78; refine HSUM.out.mono ?_; rintro x w2 ⟨rfl, hb2⟩; have HB2 := Lib.hid (HWB.out.trans (hb2.mono HWB.out.size)); clear hb2)
      go_ret
      exact ⟨retB HF.out.symm, HB2.out⟩
    · have hq : (z == 32) = false := by simpa using h0
      go_wp2_with (go_at_call 78; refine HSUM.out.mono ?_; rintro x w2 ⟨rfl, hb2⟩; have HB2 := Lib.hid (HWB.out.trans (hb2.mono HWB.out.size)); clear hb2)
      go_ret
      exact ⟨retB (by rw [HF.out, hq]), HB2.out⟩
end Go.Proofs.YtlcekocbaffnnaaDoor
