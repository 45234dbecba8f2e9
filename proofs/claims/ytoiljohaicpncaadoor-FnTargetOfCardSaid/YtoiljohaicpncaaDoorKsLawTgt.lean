
/- The law FnTargetOf, walked. -/
import Derived.Test.YtoiljohaicpncaaDoorKsDrawT
import Derived.Test.YtoiljohaicpncaaDoorKsHas
import Derived.Test.YtoiljohaicpncaaDoorKsTargetsImpl
namespace Go.Proofs.YtoiljohaicpncaaDoor
open Go.RowKit Go.Shelf Go.Lib Go.Sort

theorem targetN_in {d : Array CaseD} {rest : Int} (h : SwOK d rest) {n : Nat} (hn : n < 32) : targetN d rest (n : Int) = goesN d (n : Int) := by
  rw [targetN, if_pos]
  simp only [okN, keyB, Bool.and_eq_true, decide_eq_true_eq]
  exact ⟨(swB_iff _ _).2 h, by omega⟩
theorem targetsN_eq {d : Array CaseD} {rest : Int} (h : SwOK d rest) : targetsN d rest = strOf (lettersZ d (decide (keysN d rest < 32))) := by rw [targetsN, if_pos ((swB_iff _ _).2 h)]
theorem lettersZ_len (d : Array CaseD) (z : Bool) : (lettersZ d z).length ≤ 9 := by
  have := lettersTo_length d 8
  unfold lettersZ
  cases z <;> simp <;> omega
theorem lettersZ_range {d : Array CaseD} {rest : Int} (h : SwOK d rest) : ∀ y ∈ lettersZ d (decide (keysN d rest < 32)), 0 ≤ y ∧ y ≤ 255 := fun y hy => by
  obtain ⟨i, _, e⟩ := (all_mem h y).1 hy
  have := goB_range h i
  omega
theorem seenL_range {d : Array CaseD} {rest : Int} (h : SwOK d rest) (n : Nat) : ∀ y ∈ seenL d n, 0 ≤ y ∧ y ≤ 255 := fun y hy => by
  obtain ⟨i, _, e⟩ := (seenL_mem d y n).1 hy
  have := goB_range h i
  omega
theorem has_all {d : Array CaseD} {rest : Int} (h : SwOK d rest) {n : Nat} (hn : n < 32) : hasS (targetsN d rest) (goesN d (n : Int)) (targetsN d rest).size = true := by
  have hr := goB_range h n
  rw [targetsN_eq h, goesN_byte h n, hasS_strOf _ _ (lettersZ_range h) (by omega) (by omega), List.contains_iff_mem]
  exact (all_mem h _).2 ⟨n, hn, rfl⟩
theorem has_seen {d : Array CaseD} {rest : Int} (h : SwOK d rest) (n : Nat) : hasS (strOf (seenL d n)) (goesN d (n : Int)) (strOf (seenL d n)).size = (seenL d n).contains (goB d n) := by
  have hr := goB_range h n
  rw [goesN_byte h n, hasS_strOf _ _ (seenL_range h n) (by omega) (by omega)]
theorem seen_next {d : Array CaseD} {rest : Int} (h : SwOK d rest) (n : Nat) : strOf (seenL d (n + 1)) = if (seenL d n).contains (goB d n) = true then strOf (seenL d n) else strOf (seenL d n) ++ goesN d (n : Int) := by
  rw [seenL]
  split
  · rfl
  · rw [strOf_snoc, goesN_byte h n]
def sumW (d : Array CaseD) (rest : Int) : Nat → Int
  | 0 => rest
  | k + 1 => sumW d rest k + d[k]!.weight
theorem sumW_eq (d : Array CaseD) (rest : Int) : ∀ k, sumTo (wgtW d rest) (k + 1) = sumW d rest k
  | 0 => by simp [sumTo, sumW, wgtW]
  | k + 1 => by rw [sumTo, sumW_eq d rest k]; rfl
theorem sumW_le {d : Array CaseD} {rest : Int} (h : SwOK d rest) (k : Nat) (hk : k ≤ d.size) : 0 ≤ sumW d rest k ∧ sumW d rest k ≤ 900 := by
  rw [← sumW_eq]
  have := sumTo_le (wgtW_le h) (k + 1) (by omega)
  have := h.size
  omega

set_option maxRecDepth 100000 in
set_option maxHeartbeats 8000000 in
theorem lawTgt_any (v : Value) (m : Nat) (w : World) (hb : BytesAt w.heap.size w v m) (hform : ∃ a c, v = .slice a m c) (hE : ErrAt w) :
    Calls Tryd.prog 3 #[v] w fun x w' => x = .returned (.bool true) ∧ RowKit.Below w.heap.size w w' := by
  obtain ⟨av, cv, rfl⟩ := hform
  by_cases hm : m ≤ 1048576
  · have HDR := Lib.hid (drawTarget_any _ m w hb hm)
    have HE := Lib.hid hE
    have hmi : ¬ (1048576 : Int) < (m : Int) := by omega
    clear hb hE
    go_enter Tryd.func3, Tryd.ntmps3
    go_wp2_with fail
    refine HDR.out.mono ?_
    rintro x w1 ⟨D, r, key, b, cap, rfl, hR, hcap, hmax, hs, hb1⟩
    obtain ⟨w2, hw2⟩ : ∃ w2, w2 = w1.alloc (.cells #[.slice (some ⟨b, 0, none⟩) D.size cap, .int .i64 r] 25) := ⟨_, rfl⟩
    have HBX := Lib.hid (show BoxS w2 w1.heap.size (.slice (some ⟨b, 0, none⟩) D.size cap) r by rw [hw2]; exact BoxS.new _ _ _)
    have HB2 := Lib.hid (show RowKit.Below w.heap.size w w2 by rw [hw2]; exact hb1.alloc hb1.size _)
    have hR2 : RowC w2 b 0 D := by rw [hw2]; exact hR.below ((Below.refl _ _).alloc (Nat.le_refl _) _)
    have hE2 := HE.out.below HB2.out
    have hbl := HBX.out.lt
    have CX0 := Lib.hid (fun W (hW : RowKit.Below w2.heap.size w2 W) => (hW.cell (p := ⟨w1.heap.size, 0, none⟩) hbl).trans HBX.out.c0)
    have CX1 := Lib.hid (fun W (hW : RowKit.Below w2.heap.size w2 W) => (hW.cell (p := ⟨w1.heap.size, 1, none⟩) hbl).trans HBX.out.c1)
    have HIT := Lib.hid (fun k W (hW : RowKit.Below w2.heap.size w2 W) => implTarget_any b 0 cap D r k W (hR2.below hW) (hE2.below hW) hcap hmax)
    have HST := Lib.hid (fun k W (hW : RowKit.Below w2.heap.size w2 W) => specTarget_any b 0 cap D r k W (hR2.below hW) hcap hmax)
    have HIC := Lib.hid (fun k W (hW : RowKit.Below w2.heap.size w2 W) => implCase_any b 0 cap D r k W (hR2.below hW) (hE2.below hW) hcap hmax)
    have HSC := Lib.hid (fun k W (hW : RowKit.Below w2.heap.size w2 W) => specCase_any b 0 cap D r k W (hR2.below hW) hcap hmax)
    have HIA := Lib.hid (fun W (hW : RowKit.Below w2.heap.size w2 W) => implTargets_any b 0 cap D r W (hR2.below hW) (hE2.below hW) hcap hmax)
    have HSA := Lib.hid (fun W (hW : RowKit.Below w2.heap.size w2 W) => specTargets_any b 0 cap D r W (hR2.below hW) hcap hmax)
    have HIK := Lib.hid (fun W (hW : RowKit.Below w2.heap.size w2 W) => implKeys_any b 0 cap D r W (hR2.below hW) (hE2.below hW) hcap hmax)
    have HSK := Lib.hid (fun W (hW : RowKit.Below w2.heap.size w2 W) => specKeys_any b 0 cap D r W (hR2.below hW) hcap hmax)
    have HIW := Lib.hid (fun W (hW : RowKit.Below w2.heap.size w2 W) => implWeight_any b 0 cap D r W (hR2.below hW) (hE2.below hW) hcap hmax)
    have HSW := Lib.hid (fun W (hW : RowKit.Below w2.heap.size w2 W) => specWeight_any b 0 cap D r W (hR2.below hW) hcap hmax)
    have HR2 := Lib.hid hR2
    have HSM := Lib.hid hs
    have HW2 := Lib.hid hw2
    have b0 := HBX.out.c0
    have b1 := HBX.out.c1
    have hz2 : w.heap.size ≤ w2.heap.size := HB2.out.size
    clear hw2 hR hR2 hE2 hb1 hs
    go_wp2_with fail
    rw [← HW2.out]
    refine (HIT.out key _ (Below.refl _ _)).mono ?_
    rintro x w3 ⟨rfl, hb3⟩
    have HB3 := Lib.hid hb3
    have a0 := CX0.out _ HB3.out
    have a1 := CX1.out _ HB3.out
    have hz3 := hb3.size
    clear hb3 b0 b1
    go_wp2_with fail
    refine (HST.out key _ HB3.out).mono ?_
    rintro x w4 ⟨rfl, hb4⟩
    have HB4 := Lib.hid (HB3.out.trans (hb4.mono hz3))
    have b0 := CX0.out _ HB4.out
    have b1 := CX1.out _ HB4.out
    have hz4 := HB4.out.size
    clear hb4 a0 a1
    go_wp2_with fail
    refine (HIC.out key _ HB4.out).mono ?_
    rintro x w5 ⟨rfl, hb5⟩
    have HB5 := Lib.hid (HB4.out.trans (hb5.mono hz4))
    have a0 := CX0.out _ HB5.out
    have a1 := CX1.out _ HB5.out
    have hz5 := HB5.out.size
    clear hb5 b0 b1
    go_wp2_with fail
    refine (HIA.out _ HB5.out).mono ?_
    rintro x w6 ⟨rfl, hb6⟩
    have HB6 := Lib.hid (HB5.out.trans (hb6.mono hz5))
    have b0 := CX0.out _ HB6.out
    have b1 := CX1.out _ HB6.out
    have hz6 := HB6.out.size
    clear hb6 a0 a1
    go_wp2_with fail
    refine (HSA.out _ HB6.out).mono ?_
    rintro x w7 ⟨rfl, hb7⟩
    have HB7 := Lib.hid (HB6.out.trans (hb7.mono hz6))
    have a0 := CX0.out _ HB7.out
    have a1 := CX1.out _ HB7.out
    have hz7 := HB7.out.size
    clear hb7 b0 b1
    have HB7d := Lib.hid HB7.out.drew
    go_upto_region 9 with fail
    go_cut [14, 15] (fun k y wx => k = .int .i64 (keysN D r) ∧ y = .int .i64 (weightN D r) ∧ Hid (RowKit.Below w2.heap.size w2 wx))
    case first =>
      go_region_held3 (fun w' => w'.cell? ⟨w1.heap.size, 0, none⟩ = some (.slice (some ⟨b, 0, none⟩) D.size cap) ∧ w'.cell? ⟨w1.heap.size, 1, none⟩ = some (.int .i64 r)) (first | exact ⟨a0, a1⟩ | exact ⟨e0, e1⟩ | exact ⟨f0, f1⟩ | go_keep) (first
        | (go_at_call 15; (with_reducible refine (HIK.out _ HB7d.out).mono ?_); rintro _ w8 ⟨rfl, b8⟩; have HB8 := Lib.hid (HB7.out.trans (Below.mono (show RowKit.Below w7.heap.size w7 w8 from ⟨b8.os, b8.tape, b8.output, b8.size, b8.block⟩) hz7)); have e0 := CX0.out _ HB8.out; have e1 := CX1.out _ HB8.out; clear b8)
        | (go_at_call 16; (with_reducible refine (HIW.out _ HB8.out).mono ?_); rintro _ w9 ⟨rfl, b9⟩; have HB9 := Lib.hid (HB8.out.trans (b9.mono HB8.out.size)); have f0 := CX0.out _ HB9.out; have f1 := CX1.out _ HB9.out; clear b9))
      all_goals
        go_wp2_with fail
        go_meet
        exact ⟨rfl, rfl, HB9⟩
    case rest =>
      obtain ⟨rfl, rfl, HBc⟩ := hcut
      have c0 := CX0.out _ HBc.out
      have c1 := CX1.out _ HBc.out
      have hzc := HBc.out.size
      have HTT := Lib.hid (show ((targetN D r key).toList == (targetN D r key).toList) = true from beq_self_eq_true _)
      clear a0 a1
      go_wp2_with fail
      refine (HSC.out key _ HBc.out).mono ?_
      rintro x w8 ⟨rfl, hb8⟩
      have HB8 := Lib.hid (HBc.out.trans (hb8.mono hzc))
      have a0 := CX0.out _ HB8.out
      have a1 := CX1.out _ HB8.out
      have hz8 := HB8.out.size
      clear hb8 c0 c1
      go_wp2_with fail
      refine (HSK.out _ HB8.out).mono ?_
      rintro x w9 ⟨rfl, hb9⟩
      have HB9 := Lib.hid (HB8.out.trans (hb9.mono hz8))
      have c0 := CX0.out _ HB9.out
      have c1 := CX1.out _ HB9.out
      have hz9 := HB9.out.size
      clear hb9 a0 a1
      go_wp2_with fail
      refine (HSW.out _ HB9.out).mono ?_
      rintro x wA ⟨rfl, hbA⟩
      have HBA := Lib.hid (HB9.out.trans (hbA.mono hz9))
      have a0 := CX0.out _ HBA.out
      have a1 := CX1.out _ HBA.out
      have hzA := HBA.out.size
      have HFIN := Lib.hid (fun W (hW : RowKit.Below w2.heap.size w2 W) => HB2.out.trans (hW.mono hz2))
      clear hbA c0 c1
      cases hsw : swB D r with
      | false =>
        have hok : okN D r key = false := by rw [okN, hsw]; rfl
        have htn : targetN D r key = ⟨#[]⟩ := by rw [targetN, hok]; rfl
        have hcn : caseN D r key = -1 := by rw [caseN, hsw]; rfl
        rw [hok, htn, hcn]
        go_wp2_with fail
        go_ret
        exact ⟨rfl, HFIN.out _ HBA.out⟩
      | true =>
        have HSO := Lib.hid ((swB_iff _ _).1 hsw)
        go_upto_if 98 with fail
        go_cut [] (fun wx => Hid (RowKit.Below w2.heap.size w2 wx))
        case first =>
          go_wp2_with fail
          go_loopw [16, 17, 18] (fun sn ks i wr => ∃ n : Nat, i = .int .i64 n ∧ n ≤ 32 ∧ sn = .string (strOf (seenL D n)) ∧ ks = .int .i64 (cntK (covB D) n) ∧ Hid (RowKit.Below w2.heap.size w2 wr)) (fun _ _ i _ => 33 - (intOf i).toNat)
          case atStart => exact ⟨0, rfl, by omega, rfl, rfl, HBA⟩
          case round =>
            obtain ⟨n, rfl, hn, rfl, rfl, HBr⟩ := hrel
            have r0 := CX0.out _ HBr.out
            have r1 := CX1.out _ HBr.out
            have hzr := HBr.out.size
            by_cases hlt : n < 32
            · have hni : (n : Int) ≤ 31 := by omega
              have HTI := Lib.hid (targetN_in HSO.out hlt)
              have HHA := Lib.hid (has_all HSO.out hlt)
              have HHS := Lib.hid (has_seen HSO.out n)
              have HSN := Lib.hid (seen_next HSO.out n)
              have HCK := Lib.hid (show cntK (covB D) (n + 1) = cntK (covB D) n + (if covB D n = true then 1 else 0) from rfl)
              have HCL := Lib.hid (cntK_le (covB D) n)
              have HCN := Lib.hid (show caseN D r (n : Int) = atN D (n : Int) by rw [caseN, if_pos ((swB_iff _ _).2 HSO.out)])
              have HCV := Lib.hid (show covB D n = decide (0 ≤ atN D (n : Int)) from rfl)
              have HSZ := Lib.hid (show (strOf (seenL D n)).size ≤ 1000000 by rw [strOf_size]; have := seenL_length D n; omega)
              have HAZ := Lib.hid (show (targetsN D r).size ≤ 1000000 by rw [targetsN_eq HSO.out, strOf_size]; have := lettersZ_len D (decide (keysN D r < 32)); omega)
              have hcat : ((strOf (seenL D n)).size : Int) + ((goesN D (n : Int)).size : Int) ≤ 9223372036854775807 := by have := HSZ.out; have := goesN_size HSO.out (n : Int); omega
              have hcat2 : ¬ (9223372036854775807 : Int) < ((strOf (seenL D n)).size : Int) + ((goesN D (n : Int)).size : Int) := by omega
              obtain ⟨ks, hks⟩ : ∃ ks, ks = cntK (covB D) n := ⟨_, rfl⟩
              rw [← hks] at HCK HCL ⊢
              have hk0 := HCL.out.1
              have hk1 := HCL.out.2
              clear hks
              go_wp2_with fail
              refine (HIT.out n _ HBr.out).mono ?_
              rintro x wB ⟨rfl, hbB⟩
              rw [HTI.out]
              have HBB := Lib.hid (HBr.out.trans (hbB.mono hzr))
              have e0 := CX0.out _ HBB.out
              have e1 := CX1.out _ HBB.out
              have hzB := HBB.out.size
              have HH1 := Lib.hid (ksHas_any (targetsN D r) (goesN D n) HAZ.out wB)
              rw [HHA.out] at HH1
              clear hbB r0 r1
              go_wp2_with fail
              refine HH1.out.mono ?_
              rintro x wC ⟨rfl, hbC⟩
              have HBC := Lib.hid (HBB.out.trans (hbC.mono hzB))
              have r0 := CX0.out _ HBC.out
              have r1 := CX1.out _ HBC.out
              have hzC := HBC.out.size
              have HH2 := Lib.hid (ksHas_any (strOf (seenL D n)) (goesN D n) HSZ.out wC)
              rw [HHS.out] at HH2
              clear hbC e0 e1
              go_wp2_with fail
              refine HH2.out.mono ?_
              rintro x wD ⟨rfl, hbD⟩
              have HBD := Lib.hid (HBC.out.trans (hbD.mono hzC))
              have e0 := CX0.out _ HBD.out
              have e1 := CX1.out _ HBD.out
              have hzD := HBD.out.size
              have HICn := Lib.hid (HIC.out (n : Int) _ HBD.out)
              rw [HCN.out] at HICn
              clear hbD r0 r1
              cases hct : (seenL D n).contains (goB D n)
              all_goals
                have HSX := HSN.out
                rw [hct] at HSX
                have HSY := Lib.hid HSX
                clear HSX
                go_wp2_with fail
                refine HICn.out.mono ?_
                rintro x wE ⟨rfl, hbE⟩
                have HBE := Lib.hid (HBD.out.trans (hbE.mono hzD))
                clear hbE e0 e1
                by_cases hat : 0 ≤ atN D (n : Int)
                · have HKK := Lib.hid (show cntK (covB D) (n + 1) = ks + 1 by rw [HCK.out, HCV.out, decide_eq_true hat]; rfl)
                  go_wp2_with fail
                  go_roundw
                  case rel => exact ⟨n + 1, by go_num, by omega, by rw [HSY.out]; rfl, by rw [HKK.out], HBE⟩
                  case measure => simp [intOf]; omega
                · have HKK := Lib.hid (show cntK (covB D) (n + 1) = ks by rw [HCK.out, HCV.out, decide_eq_false hat]; simp)
                  go_wp2_with fail
                  go_roundw
                  case rel => exact ⟨n + 1, by go_num, by omega, by rw [HSY.out]; rfl, by rw [HKK.out], HBE⟩
                  case measure => simp [intOf]; omega
            · obtain rfl : n = 32 := by omega
              have hni : ¬ ((32 : Nat) : Int) ≤ 31 := by omega
              have HSO2 := Lib.hid (sumW_le HSO.out)
              go_wp2_with fail
              go_loopw [21, 131] (fun sm i wq => ∃ k : Nat, i = .int .i64 k ∧ k ≤ D.size ∧ sm = .int .i64 (sumW D r k) ∧ Hid (RowKit.Below w2.heap.size w2 wq)) (fun _ i _ => D.size + 1 - (intOf i).toNat)
              case atStart => exact ⟨0, rfl, Nat.zero_le _, rfl, HBr⟩
              case round =>
                obtain ⟨k, rfl, hk, rfl, HBq⟩ := hrel
                have q0 := CX0.out _ HBq.out
                have q1 := CX1.out _ HBq.out
                have hzq := HBq.out.size
                by_cases hkl : k < D.size
                · have hRq := HR2.out.below HBq.out
                  have y0 := hRq.low k hkl
                  have y1 := hRq.high k hkl
                  have y2 := hRq.target k hkl
                  have y3 := hRq.weight k hkl
                  simp only [Nat.zero_add] at y0 y1 y2 y3
                  have hs0 := HSO2.out k hk
                  have hs1 := HSO2.out (k + 1) hkl
                  have HSU := Lib.hid (show sumW D r (k + 1) = sumW D r k + D[k]!.weight from rfl)
                  rw [HSU.out] at hs1
                  have hki : (k : Int) < (D.size : Int) := by omega
                  have hd9 : (D.size : Int) ≤ 9 := by have := HSM.out.1; omega
                  obtain ⟨sv, hsv⟩ : ∃ sv, sv = sumW D r k := ⟨_, rfl⟩
                  rw [← hsv] at HSU hs0 hs1 ⊢
                  obtain ⟨c, hc⟩ : ∃ c, c = D[k]! := ⟨_, rfl⟩
                  rw [← hc] at y0 y1 y2 y3 HSU hs1
                  clear hsv hc hRq
                  go_wp2_with fail
                  go_roundw
                  case rel => exact ⟨k + 1, by go_num, by omega, by rw [HSU.out], HBq.out.alloc hzq _⟩
                  case measure => simp [intOf]; omega
                · obtain rfl : k = D.size := by omega
                  have hki : ¬ (D.size : Int) < (D.size : Int) := by omega
                  have h1 : (strOf (seenL D 32)).size = (targetsN D r).size := by rw [targetsN_eq HSO.out, strOf_size, strOf_size, seen_len HSO.out]
                  have h2 : cntK (covB D) 32 = keysN D r := cov_count HSO.out
                  have h3 : sumW D r D.size = weightN D r := by rw [weightN, if_pos ((swB_iff _ _).2 HSO.out), sumW_eq]
                  have h4 : ((strOf (seenL D 32)).size : Int) = ((targetsN D r).size : Int) := by rw [h1]
                  rw [h2, h3]
                  go_wp2_with fail
                  go_meet
                  exact HBq
        case rest =>
          have HBx := hcut
          have c0 := CX0.out _ HBx.out
          have c1 := CX1.out _ HBx.out
          have hzx := HBx.out.size
          clear a0 a1
          cases hkb : keyB key with
          | false =>
            have hok : okN D r key = false := by rw [okN, hkb, Bool.and_false]
            have htn : targetN D r key = ⟨#[]⟩ := by rw [targetN, hok]; rfl
            have hcn : caseN D r key = -1 := by rw [caseN, if_pos hsw]; exact atN_out HSO.out hkb
            rw [hok, htn, hcn]
            go_wp2_with fail
            go_ret
            exact ⟨rfl, HFIN.out _ HBx.out⟩
          | true =>
            have hok : okN D r key = true := by rw [okN, hkb, hsw]; rfl
            have htn : targetN D r key = goesN D key := by rw [targetN, hok]; rfl
            have hcn : caseN D r key = atN D key := by rw [caseN, if_pos hsw]
            rw [hok, htn, hcn]
            rcases atN_cases D key with ⟨k, h1, h2, h3, _⟩ | ⟨h1, _⟩
            · have hRx := HR2.out.below HBx.out
              have y0 := hRx.low k h1
              have y1 := hRx.high k h1
              have y2 := hRx.target k h1
              have y3 := hRx.weight k h1
              simp only [Nat.zero_add] at y0 y1 y2 y3
              rw [h2, goesN_hit h2]
              simp only [hasB, decide_eq_true_eq] at h3
              obtain ⟨c, hc⟩ : ∃ c, c = D[k]! := ⟨_, rfl⟩
              rw [← hc] at y0 y1 y2 y3 h3 ⊢
              obtain ⟨h3a, h3b⟩ := h3
              have hki : (k : Int) < (D.size : Int) := by omega
              have hk0 : (0 : Int) ≤ (k : Int) := by omega
              have hk1 : ¬ (k : Int) < 0 := by omega
              clear hc hRx
              go_wp2_with fail
              go_ret
              exact ⟨rfl, HFIN.out _ HBx.out⟩
            · have hzs : goesN D key = ⟨#[122]⟩ := goesN_miss h1
              rw [h1, hzs]
              go_wp2_with fail
              go_ret
              exact ⟨rfl, HFIN.out _ HBx.out⟩
  · have hmi : (1048576 : Int) < (m : Int) := by omega
    have HB := Lib.hid (RowKit.Below.refl w.heap.size w)
    go_enter Tryd.func3, Tryd.ntmps3
    go_wp2_with fail
    go_ret
    exact ⟨rfl, HB.out⟩
end Go.Proofs.YtoiljohaicpncaaDoor
