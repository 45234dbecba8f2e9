
/- DenseCases of the program. -/
import Derived.Test.YtbbejkimgkpfkaaDoorKsDenseC
namespace Go.Proofs.YtbbejkimgkpfkaaDoor
open Go.RowKit Go.Shelf Go.Lib Go.Sort

set_option maxRecDepth 100000 in
set_option maxHeartbeats 2000000 in
theorem implDense_any (b off cap : Nat) (d : Array CaseD) (rest key : Int) (w : World) (hR : RowC w b off d) (hE : ErrAt w) (hcap : d.size ≤ cap) (hmax : cap ≤ maxLen) :
    Calls Tryd.prog 33 #[.agg #[.slice (some ⟨b, off, none⟩) d.size cap, .int .i64 rest], .int .i64 key] w fun x w' => x = .returned (denseN d rest key) ∧ RowKit.Below w.heap.size w w' := by
  have hv := fun W (hW : RowKit.Below w.heap.size w W) => switchValid_any b off cap d rest W (hR.below hW) (hE.below hW) hcap hmax
  have HT := Lib.hid (fun (ho : SwOK d rest) W (hW : RowKit.Below w.heap.size w W) => densIn_any b off cap d rest W (hR.below hW) ho)
  have hcl : ∀ args W, Sem.run Tryd.prog (callFunc 123 args) W = .ok (.enter 123 args) W := fun args W => enters_of Tryd.func123 (by kernel_rfl) rfl args W
  have HR := Lib.hid hR
  clear hR hE
  obtain ⟨wa, hwa⟩ : ∃ wa, wa = w.alloc (.cells #[.slice (some ⟨b, off, none⟩) d.size cap, .int .i64 rest] 25) := ⟨_, rfl⟩
  have c0 : wa.cell? ⟨w.heap.size, 0, none⟩ = some (.slice (some ⟨b, off, none⟩) d.size cap) := by rw [hwa]; simp
  have c1 : wa.cell? ⟨w.heap.size, 1, none⟩ = some (.int .i64 rest) := by rw [hwa]; simp
  have hz : w.heap.size < wa.heap.size := by rw [hwa]; simp
  have hba : RowKit.Below w.heap.size w wa := by rw [hwa]; exact (Below.refl _ _).alloc (Nat.le_refl _) _
  have HA := Lib.hid hba
  have C0 := Lib.hid c0
  have C1 := Lib.hid c1
  have HWA := Lib.hid hwa
  clear hba c0 c1 hwa
  have HP := Lib.hid (show pctB key = decide (0 ≤ key ∧ key ≤ 100) from rfl)
  cases hs : swB d rest
  · simp only [hs] at hv
    have HV := Lib.hid hv
    have HS := Lib.hid hs
    clear hv hs
    go_enter Tryd.func33, Tryd.ntmps33
    go_wp2_with fail
    rw [← HWA.out]
    refine (HV.out _ HA.out).mono ?_
    rintro x w1 ⟨rfl, hb⟩
    have HWB := Lib.hid (HA.out.trans (hb.mono (by omega)))
    clear hb
    go_wp2_with fail
    go_ret3
    exact ⟨by rw [denseN_off (by rw [HS.out]; simp)]; rfl, HWB.out⟩
  · simp only [hs] at hv
    have HV := Lib.hid hv
    have HS := Lib.hid hs
    clear hv hs
    have HO := Lib.hid ((swB_iff _ _).1 HS.out)
    have h8 : (d.size : Int) ≤ 8 := by have := HO.out.size; omega
    by_cases hp0 : key < 0
    · go_enter Tryd.func33, Tryd.ntmps33
      go_wp2_with fail
      rw [← HWA.out]
      refine (HV.out _ HA.out).mono ?_
      rintro x w1 ⟨rfl, hb⟩
      have HWB := Lib.hid (HA.out.trans (hb.mono (by omega)))
      clear hb
      go_wp2_with fail
      go_ret3
      exact ⟨by rw [denseN_off (by rw [HP.out, decide_eq_true_eq]; omega)]; rfl, HWB.out⟩
    · by_cases hp1 : 100 < key
      · go_enter Tryd.func33, Tryd.ntmps33
        go_wp2_with fail
        rw [← HWA.out]
        refine (HV.out _ HA.out).mono ?_
        rintro x w1 ⟨rfl, hb⟩
        have HWB := Lib.hid (HA.out.trans (hb.mono (by omega)))
        clear hb
        go_wp2_with fail
        go_ret3
        exact ⟨by rw [denseN_off (by rw [HP.out, decide_eq_true_eq]; omega)]; rfl, HWB.out⟩
      · have HKB := Lib.hid (show pctB key = true by rw [HP.out, decide_eq_true_eq]; omega)
        go_enter Tryd.func33, Tryd.ntmps33
        go_wp2_with fail
        rw [← HWA.out]
        refine (HV.out _ HA.out).mono ?_
        rintro x w1 ⟨rfl, hb⟩
        have hz1 := hb.size
        have a0 := (hb.cell (p := ⟨w.heap.size, 0, none⟩) hz).trans C0.out
        have a1 := (hb.cell (p := ⟨w.heap.size, 1, none⟩) hz).trans C1.out
        have HWB := Lib.hid (HA.out.trans (hb.mono (by omega)))
        have A0 := Lib.hid a0
        have A1 := Lib.hid a1
        have hzw : w.heap.size < w1.heap.size := by omega
        clear hb
        go_wp2_with fail
        clear a0 a1
        refine (HT.out HO.out _ HWB.out).mono ?_
        rintro x w2 ⟨⟨S, hS0, rfl, hS⟩, hb2⟩
        have a0 := (hb2.cell (p := ⟨w.heap.size, 0, none⟩) hzw).trans A0.out
        have a1 := (hb2.cell (p := ⟨w.heap.size, 1, none⟩) hzw).trans A1.out
        have HW2 := Lib.hid (HWB.out.trans (hb2.mono HWB.out.size))
        have A20 := Lib.hid a0
        have A21 := Lib.hid a1
        have HSS := Lib.hid hS
        have hzw2 : w.heap.size < w2.heap.size := by have := hb2.size; omega
        clear hb2 hS
        go_wp2_with fail
        clear a0 a1
        go_loopw [8, 9, 10] (fun s _ _ wr => ∃ k : Nat, s = .int .i64 k ∧ k ≤ d.size ∧ Hid (∀ t j, k < t → j + t ≤ d.size → ¬ runOK d key j t) ∧ Hid (RowKit.Below w2.heap.size w2 wr)) (fun s _ _ _ => (intOf s).toNat)
        case atStart => exact ⟨d.size, rfl, Nat.le_refl _, fun t j h1 h2 => by omega, Below.refl _ _⟩
        case round =>
          obtain ⟨k, rfl, hk, HN, HW⟩ := hrel
          by_cases h0 : 0 < k
          · have h0i : (0 : Int) < (k : Int) := by omega
            have h1i : (1 : Int) ≤ (k : Int) := by omega
            have hk8 : (k : Int) ≤ 8 := by omega
            go_wp2_with fail
            obtain ⟨wo, rfl⟩ : ∃ wo, wo = wr := ⟨_, rfl⟩
            go_loopw [9, 10] (fun i _ wr => ∃ m j : Nat, i = .int .i64 m ∧ j + k = m + 1 ∧ m ≤ d.size ∧ Hid (∀ q, q < j → ¬ runOK d key q k) ∧ Hid (RowKit.Below w2.heap.size w2 wr)) (fun i _ _ => d.size - (intOf i).toNat)
            case atStart => exact ⟨k - 1, 0, by rw [show ((k - 1 : Nat) : Int) = (k : Int) - 1 by omega], by omega, by omega, fun q hq => absurd hq (Nat.not_lt_zero _), HW.out⟩
            case round =>
              obtain ⟨m, j, rfl, hj, hm, HJ, HWI⟩ := hrel
              have a0 := (HWI.out.cell (p := ⟨w.heap.size, 0, none⟩) hzw2).trans A20.out
              have a1 := (HWI.out.cell (p := ⟨w.heap.size, 1, none⟩) hzw2).trans A21.out
              have hwz := HWI.out.size
              by_cases hlt : m < d.size
              · have hjk : j + k ≤ d.size := by omega
                have hsp := case_span HO.out h0 hjk
                have HWW := Lib.hid (HW2.out.trans (HWI.out.mono HW2.out.size))
                have hx := HR.out.below HWW.out
                have x0 := hx.low j (by omega)
                have x1 := hx.high m hlt
                have hbs := hx.old
                have e1 : j + k - 1 = m := by omega
                rw [e1] at hsp
                have HQ := Lib.hid (show runOK d key j k ↔ key ≤ densZ d d[j]!.low.toNat (d[m]!.high - d[j]!.low + 1).toNat by rw [← e1]; exact Iff.rfl)
                have hcall := fun W (hW : RowKit.Below wr.heap.size wr W) => dens1_any d d[j]!.low.toNat (d[m]!.high - d[j]!.low + 1).toNat d[m]!.high S W (HSS.out.below (HWI.out.trans (hW.mono HWI.out.size))) (by omega) (by omega) hsp.2.2
                obtain ⟨ln, hln⟩ : ∃ ln : Nat, d[j]!.low = ln := ⟨d[j]!.low.toNat, by omega⟩
                obtain ⟨z, hz'⟩ : ∃ z, z = densZ d d[j]!.low.toNat (d[m]!.high - d[j]!.low + 1).toNat := ⟨_, rfl⟩
                obtain ⟨hh, hhe⟩ : ∃ hh, hh = d[m]!.high := ⟨_, rfl⟩
                rw [← hz'] at HQ hcall
                rw [← hhe] at x1 hcall
                rw [hln] at x0 hcall
                rw [Int.toNat_natCast] at hcall
                have HCALL := Lib.hid (fun W (hW : RowKit.Below wr.heap.size wr W) => (hcall W hW).mono fun _ w' ⟨h1, q, h2⟩ => (⟨h1, by rw [h2]; exact below_drewN (Below.refl _ _) q⟩ : _ ∧ RowKit.Below W.heap.size W w'))
                have q0 := fun p : BW wr => p.cell (a := ⟨w.heap.size, 0, none⟩) (Nat.lt_of_lt_of_le hzw2 hwz) a0
                have q1 := fun p : BW wr => p.cell (a := ⟨w.heap.size, 1, none⟩) (Nat.lt_of_lt_of_le hzw2 hwz) a1
                have q2 := fun p : BW wr => p.cell (a := ⟨b, off + j * 4, none⟩) hbs x0
                have q3 := fun p : BW wr => p.cell (a := ⟨b, off + m * 4 + 1, none⟩) hbs x1
                have hmi : (m : Int) < (d.size : Int) := by omega
                have hm8 : (m : Int) ≤ 8 := by omega
                have t3 : ((m : Int) + 1 - (k : Int)).toNat = j := by omega
                have t4 : 0 ≤ (m : Int) + 1 - (k : Int) := by omega
                have t5 : (m : Int) + 1 - (k : Int) < (d.size : Int) := by omega
                have HJI := Lib.hid (show (m : Int) + 1 - (k : Int) = (j : Int) by omega)
                have HMI := Lib.hid (show (m : Int) = (j : Int) + (k : Int) - 1 by omega)
                clear hln hz' hhe hcall hsp hx x0 x1 e1
                go_wp2_with fail
                clear a0 a1
                refine wp_region_bw (by kernel_rfl) (by kernel_rfl) ?_
                repeat (go_big_quiet_step (((go_at_call 123; refine bw_of (HCALL.out _ (BW.h _))))))
                refine wpQuiet_nil ?_
                rintro _ ⟨p, rfl⟩
                have HP' := Lib.hid (HWI.out.trans (p.h.mono HWI.out.size))
                clear q0 q1 q2 q3 t3 t4 t5
                by_cases hq : key ≤ z
                · go_wp2_with fail
                  go_ret3
                  refine ⟨?_, HW2.out.trans (HP'.out.mono HW2.out.size)⟩
                  rw [denseN_best HS.out HKB.out (i := j) (s := k) ⟨h0, hjk, HQ.out.2 hq, HJ.out, HN.out⟩, ← HMI.out, ← HJI.out]
                  rfl
                · go_wp2_with fail
                  go_roundw
                  case rel =>
                    refine ⟨m + 1, j + 1, by go_num, by omega, by omega, fun q hq' => ?_, HP'.out⟩
                    by_cases e : q = j
                    · subst e
                      exact fun h => absurd (HQ.out.1 h) (by omega)
                    · exact HJ.out q (by omega)
                  case measure => simp [intOf]; omega
              · have hlt' : ¬ ((m : Int) < (d.size : Int)) := by omega
                go_wp2_with fail
                go_roundw
                case rel =>
                  refine ⟨k - 1, by rw [show ((k - 1 : Nat) : Int) = (k : Int) - 1 by omega], by omega, fun t q h1 h2 => ?_, HWI.out⟩
                  by_cases e : t = k
                  · subst e
                    exact HJ.out q (by omega)
                  · exact HN.out t q (by omega) h2
                case measure => simp [intOf]; omega
          · have h0i : ¬ (0 : Int) < (k : Int) := by omega
            have hke : k = 0 := by omega
            go_wp2_with fail
            go_ret3
            refine ⟨?_, HW2.out.trans (HW.out.mono HW2.out.size)⟩
            rw [denseN_none fun t j h1 h2 => HN.out t j (by omega) h2]
            rfl

/-! the answer's three parts -/
theorem denseN_form (d : Array CaseD) (rest key : Int) : ∃ p : Int × Int × Bool, denseN d rest key = .tuple #[.int .i64 p.1, .int .i64 p.2.1, .bool p.2.2] := by
  unfold denseN
  split
  · exact ⟨(_, _, _), rfl⟩
  · exact ⟨(_, _, _), rfl⟩
noncomputable def denseP (d : Array CaseD) (rest key : Int) : Int × Int × Bool := Classical.choose (denseN_form d rest key)
theorem denseP_eq (d : Array CaseD) (rest key : Int) : denseN d rest key = .tuple #[.int .i64 (denseP d rest key).1, .int .i64 (denseP d rest key).2.1, .bool (denseP d rest key).2.2] := Classical.choose_spec (denseN_form d rest key)
theorem specDenseT_any (b off cap : Nat) (d : Array CaseD) (rest key : Int) (w : World) (hR : RowC w b off d) (hcap : d.size ≤ cap) (hmax : cap ≤ maxLen) :
    Calls Tryd.prog 34 #[.agg #[.slice (some ⟨b, off, none⟩) d.size cap, .int .i64 rest], .int .i64 key] w fun x w' => x = .returned (.tuple #[.int .i64 (denseP d rest key).1, .int .i64 (denseP d rest key).2.1, .bool (denseP d rest key).2.2]) ∧ RowKit.Below w.heap.size w w' := by
  rw [← denseP_eq]
  exact specDense_any b off cap d rest key w hR hcap hmax
theorem implDenseT_any (b off cap : Nat) (d : Array CaseD) (rest key : Int) (w : World) (hR : RowC w b off d) (hE : ErrAt w) (hcap : d.size ≤ cap) (hmax : cap ≤ maxLen) :
    Calls Tryd.prog 33 #[.agg #[.slice (some ⟨b, off, none⟩) d.size cap, .int .i64 rest], .int .i64 key] w fun x w' => x = .returned (.tuple #[.int .i64 (denseP d rest key).1, .int .i64 (denseP d rest key).2.1, .bool (denseP d rest key).2.2]) ∧ RowKit.Below w.heap.size w w' := by
  rw [← denseP_eq]
  exact implDense_any b off cap d rest key w hR hE hcap hmax
end Go.Proofs.YtbbejkimgkpfkaaDoor
