
/- The model's SwitchValid reports whether a switch is valid. -/
import Derived.Test.YtjpcpiffffobcaaGreatDoorKsOrderBase
namespace Go.Proofs.YtjpcpiffffobcaaGreatDoor
open Go.RowKit Go.Shelf Go.Lib Go.Sort

theorem inB_wgt (n : Int) : inB n 0 99 = wgtB n := rfl
theorem inB_key (n : Int) : inB n 0 31 = keyB n := rfl

set_option maxRecDepth 100000 in
set_option maxHeartbeats 1000000 in
theorem specValid_any (b off cap : Nat) (d : Array CaseD) (rest : Int) (w : World) (hR : RowC w b off d) (hcap : d.size ≤ cap) (hmax : cap ≤ maxLen) :
    Calls Tryz.prog 54 #[.agg #[.slice (some ⟨b, off, none⟩) d.size cap, .int .i64 rest]] w fun e w' => e = .returned (.bool (swB d rest)) ∧ RowKit.Below w.heap.size w w' := by
  unfold maxLen at hmax
  have b1 : (d.size : Int) ≤ 9223372036854775807 := by omega
  have HR := Lib.hid hR
  clear hR hmax
  go_enter Tryz.func54, Tryz.ntmps54
  go_wp2
  obtain ⟨wa, hwa⟩ : ∃ wa, wa = w.alloc (.cells #[.slice (some ⟨b, off, none⟩) d.size cap, .int .i64 rest] 32) := ⟨_, rfl⟩
  have c0 : wa.cell? ⟨w.heap.size, 0, none⟩ = some (.slice (some ⟨b, off, none⟩) d.size cap) := by rw [hwa]; simp
  have c1 : wa.cell? ⟨w.heap.size, 1, none⟩ = some (.int .i64 rest) := by rw [hwa]; simp
  have hz : w.heap.size < wa.heap.size := by rw [hwa]; simp
  have hba : RowKit.Below w.heap.size w wa := by rw [hwa]; exact (Below.refl _ _).alloc (Nat.le_refl _) _
  rw [← hwa]
  have HB := Lib.hid hba
  have C0 := Lib.hid c0
  have C1 := Lib.hid c1
  clear hwa hba c0 c1
  go_loopw [8] (fun i wr => ∃ k : Nat, i = .int .i64 k ∧ k ≤ d.size ∧ Hid (RowKit.Below wa.heap.size wa wr) ∧ wa.heap.size ≤ wr.heap.size ∧ Hid (∀ j, j < k → caseB d[j]! = true) ∧ Hid (∀ i, i + 1 < k → d[i]!.high < d[i + 1]!.low)) (fun i _ => d.size - (intOf i).toNat)
  case atStart => exact ⟨0, rfl, Nat.zero_le _, Below.refl _ _, Nat.le_refl _, fun j hj => absurd hj (Nat.not_lt_zero _), fun j hj => absurd hj (Nat.not_lt_zero _)⟩
  case round =>
    obtain ⟨k, rfl, hk, HW, hw2, HC, HN⟩ := hrel
    have HWW := Lib.hid (HB.out.trans (HW.out.mono (by omega)))
    have x9 := (HW.out.cell (p := ⟨w.heap.size, 0, none⟩) hz).trans C0.out
    by_cases hlt : k < d.size
    · have hx := HR.out.below HWW.out
      have x0 := hx.low k hlt
      have x1 := hx.high k hlt
      have x2 := hx.target k hlt
      have x3 := hx.weight k hlt
      have HX := Lib.hid hx
      clear hx
      obtain ⟨x, hxe⟩ : ∃ x, x = d[k]! := ⟨_, rfl⟩
      rw [← hxe] at x0 x1 x2 x3
      have XE := Lib.hid hxe
      clear hxe
      go_wp2
      obtain ⟨wb, hwb⟩ : ∃ wb, wb = wr.alloc (.cells #[.int .i64 x.low, .int .i64 x.high, .string x.target, .int .i64 x.weight] 67) := ⟨_, rfl⟩
      have d0 : wb.cell? ⟨wr.heap.size, 0, none⟩ = some (.int .i64 x.low) := by rw [hwb]; simp
      have d1 : wb.cell? ⟨wr.heap.size, 1, none⟩ = some (.int .i64 x.high) := by rw [hwb]; simp
      have d2 : wb.cell? ⟨wr.heap.size, 2, none⟩ = some (.string x.target) := by rw [hwb]; simp
      have d3 : wb.cell? ⟨wr.heap.size, 3, none⟩ = some (.int .i64 x.weight) := by rw [hwb]; simp
      have hzb : wr.heap.size < wb.heap.size := by rw [hwb]; simp
      have hbb : RowKit.Below wr.heap.size wr wb := by rw [hwb]; exact (Below.refl _ _).alloc (Nat.le_refl _) _
      rw [← hwb]
      clear hwb x0 x1 x2 x3
      have f0 := fun p : BW wb => p.cell (a := ⟨wr.heap.size, 0, none⟩) hzb d0
      have f1 := fun p : BW wb => p.cell (a := ⟨wr.heap.size, 1, none⟩) hzb d1
      have f2 := fun p : BW wb => p.cell (a := ⟨wr.heap.size, 2, none⟩) hzb d2
      have f3 := fun p : BW wb => p.cell (a := ⟨wr.heap.size, 3, none⟩) hzb d3
      clear d0 d1 d2 d3
      have f9 := fun p : BW wb => p.cell (a := ⟨w.heap.size, 0, none⟩) (by have := hbb.size; exact (by omega : w.heap.size < wb.heap.size)) ((hbb.cell (p := ⟨w.heap.size, 0, none⟩) (by omega : w.heap.size < wr.heap.size)).trans x9)
      clear x9
      have hBp : ∀ p : BW wb, RowKit.Below wr.heap.size wr p.W := fun p => hbb.trans (p.h.mono (by omega))
      have HBP := Lib.hid hBp
      have hcall := fun W => l1Case_any x W
      have hs1 : (0 : Int) ≤ (k : Int) := by omega
      clear hBp hbb
      cases hq : caseB x with
      | false =>
        simp only [hq] at hcall
        have HCL := Lib.hid hcall
        have HQ := Lib.hid hq
        clear hcall hq
        refine wp_region_bw (by kernel_rfl) (by kernel_rfl) ?_
        repeat (go_big_quiet_step ((go_at_call 80; refine bw_of (HCL.out _))))
        refine wpQuiet_nil ?_
        rintro _ ⟨p, rfl⟩
        go_wp2
        go_ret
        refine ⟨retB ?_, HWW.out.trans ((HBP.out p).mono (by omega))⟩
        symm
        rw [swB_not]
        intro h
        have := h.case k hlt
        rw [← XE.out, HQ.out] at this
        cases this
      | true =>
        simp only [hq] at hcall
        have HCL := Lib.hid hcall
        have HQ := Lib.hid hq
        clear hcall hq
        have hcase : Hid (∀ j, j < k + 1 → caseB d[j]! = true) := (show Hid _ from fun j hj => by
          by_cases e : j = k
          · subst e
            rw [← XE.out]
            exact HQ.out
          · exact HC.out j (by omega))
        by_cases hk0 : k = 0
        · have hd0 : decide (0 < k) = false := by simp; omega
          refine wp_region_bw (by kernel_rfl) (by kernel_rfl) ?_
          repeat (go_big_quiet_step ((go_at_call 80; refine bw_of (HCL.out _))))
          refine wpQuiet_nil ?_
          rintro _ ⟨p, rfl⟩
          go_wp2
          go_roundw
          case rel => exact ⟨k + 1, by go_num, by omega, HW.out.trans ((HBP.out p).mono hw2), by have := p.h.size; omega, hcase, fun i hi => by omega⟩
          case measure => simp [intOf]; omega
        · have hd0 : decide (0 < k) = true := by simp; omega
          have hs2 : IntKind.i64.wrap ((k : Int) - 1) = (k : Int) - 1 := IntWalk.i64_in _ (by omega)
          have hs3 : (0 : Int) ≤ (k : Int) - 1 := by omega
          have hs4 : ((k : Int) - 1).toNat = k - 1 := by omega
          have hs5 : (k : Int) - 1 < (d.size : Int) := by omega
          have hp := HX.out.high (k - 1) (by omega)
          obtain ⟨y, hye⟩ : ∃ y, y = d[k - 1]!.high := ⟨_, rfl⟩
          rw [← hye] at hp
          have YE := Lib.hid hye
          clear hye
          have g0 := fun p : BW wb => ((HBP.out p).cell (p := ⟨b, off + (k - 1) * 4 + 1, none⟩) HX.out.old).trans hp
          clear hp
          by_cases hxy : x.low ≤ y
          · have hd1 : decide (x.low ≤ y) = true := by simp; omega
            refine wp_region_bw (by kernel_rfl) (by kernel_rfl) ?_
            repeat (go_big_quiet_step ((go_at_call 80; refine bw_of (HCL.out _))))
            refine wpQuiet_nil ?_
            rintro _ ⟨p, rfl⟩
            go_wp2
            go_ret
            refine ⟨retB ?_, HWW.out.trans ((HBP.out p).mono (by omega))⟩
            symm
            rw [swB_not]
            intro h
            have := h.next (k - 1) (by omega)
            rw [show k - 1 + 1 = k by omega, ← XE.out, ← YE.out] at this
            omega
          · have hd1 : decide (x.low ≤ y) = false := by simp; omega
            refine wp_region_bw (by kernel_rfl) (by kernel_rfl) ?_
            repeat (go_big_quiet_step ((go_at_call 80; refine bw_of (HCL.out _))))
            refine wpQuiet_nil ?_
            rintro _ ⟨p, rfl⟩
            go_wp2
            go_roundw
            case rel =>
              refine ⟨k + 1, by go_num, by omega, HW.out.trans ((HBP.out p).mono hw2), by have := p.h.size; omega, hcase, (show Hid _ from fun i hi => ?_)⟩
              by_cases e : i + 1 = k
              · have e' : i = k - 1 := by omega
                rw [e, e', ← XE.out, ← YE.out]
                omega
              · exact HN.out i (by omega)
            case measure => simp [intOf]; omega
    · have x0 := (HW.out.cell (p := ⟨w.heap.size, 0, none⟩) hz).trans C0.out
      have x1 := (HW.out.cell (p := ⟨w.heap.size, 1, none⟩) hz).trans C1.out
      have hin := fun W => l1In_any rest 0 99 W
      clear x9
      by_cases h8 : d.size ≤ 8
      · have h8' : (d.size : Int) ≤ 8 := by omega
        cases hr : wgtB rest
        all_goals
          simp only [inB_wgt, hr] at hin
          have HIN := Lib.hid hin
          have HRR := Lib.hid hr
          clear hin hr
          go_wp2_with (go_at_call 35; refine (HIN.out _).mono ?_; rintro e w' ⟨rfl, rfl⟩)
          go_ret
          refine ⟨retB ?_, HWW.out⟩
          symm
        · rw [swB_not]
          intro h
          have := h.rest
          rw [HRR.out] at this
          cases this
        · rw [swB_iff]
          exact ⟨h8, HRR.out, fun j hj => HC.out j (by omega), fun i hi => HN.out i (by omega)⟩
      · have h8' : ¬ (d.size : Int) ≤ 8 := by omega
        go_wp2
        go_ret
        refine ⟨retB ?_, HWW.out⟩
        symm
        rw [swB_not]
        intro h
        exact h8 h.size
end Go.Proofs.YtjpcpiffffobcaaGreatDoor
