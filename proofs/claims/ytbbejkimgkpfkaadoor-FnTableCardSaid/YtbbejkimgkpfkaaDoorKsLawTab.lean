
/- The law FnTable, walked. -/
import Derived.Test.YtbbejkimgkpfkaaDoorKsDrawW
import Derived.Test.YtbbejkimgkpfkaaDoorKsTabW
namespace Go.Proofs.YtbbejkimgkpfkaaDoor
open Go.RowKit Go.Shelf Go.Lib Go.Sort

theorem bytes_up {w w' : World} {v : Value} {m : Nat} (h : BytesAt w.heap.size w v m) (hb : RowKit.Below w.heap.size w w') : BytesAt w'.heap.size w' v m := by
  rcases h with h1 | ⟨b, off, cap, h1, h2, h3, h4⟩
  · exact .inl h1
  · refine .inr ⟨b, off, cap, h1, h2, by have := hb.size; omega, fun j hj => ?_⟩
    obtain ⟨y, h5, h6⟩ := h4 j hj
    exact ⟨y, h5, (hb.cell (p := ⟨b, off + j, none⟩) h3).trans h6⟩
/-- Where a switch lies, and what its functions answer from there on. -/
theorem tab_two (d : Array CaseD) (rest lo hi : Int) : (tabB d rest lo hi = false ∧ densN d rest lo hi = -1) ∨ ∃ ln n : Nat, SwOK d rest ∧ lo = ln ∧ hi + 1 = (ln : Int) + n ∧ 0 < n ∧ ln + n ≤ 32 ∧ tabB d rest lo hi = true ∧ tabN d rest lo hi = tabS d ln n ∧ densN d rest lo hi = densZ d ln n := by
  cases hq : tabB d rest lo hi
  · exact .inl ⟨rfl, by rw [densN, if_neg (by rw [hq]; exact Bool.false_ne_true)]⟩
  · have hq2 := hq
    simp only [tabB, Bool.and_eq_true] at hq2
    obtain ⟨h1, h2⟩ := hq2
    obtain ⟨h3, h4, h5⟩ := (rangeB_iff _ _).1 h2
    refine .inr ⟨lo.toNat, (hi - lo + 1).toNat, (swB_iff _ _).1 h1, by omega, by omega, by omega, by omega, rfl, by rw [tabN, if_pos hq], by rw [densN, if_pos hq]⟩

set_option maxRecDepth 100000 in
set_option maxHeartbeats 8000000 in
theorem lawTab_any (v u : Value) (m k : Nat) (w : World) (hb : BytesAt w.heap.size w v m) (hform : ∃ a c, v = .slice a m c) (hb2 : BytesAt w.heap.size w u k) (hform2 : ∃ a c, u = .slice a k c) (hE : ErrAt w) :
    Calls Tryd.prog 4 #[v, u] w fun x w' => x = .returned (.bool true) ∧ RowKit.Below w.heap.size w w' := by
  obtain ⟨av, cv, rfl⟩ := hform
  obtain ⟨au, cu, rfl⟩ := hform2
  by_cases hm : m ≤ 1048576
  · have hmi : ¬ (1048576 : Int) < (m : Int) := by omega
    by_cases hk : k ≤ 1048576
    · have hki : ¬ (1048576 : Int) < (k : Int) := by omega
      have HDR := Lib.hid (drawTab_any _ m w hb hm)
      have HD2 := Lib.hid (fun W (hW : RowKit.Below w.heap.size w W) => drawLook_any _ k W (bytes_up hb2 hW) hk)
      have HE := Lib.hid hE
      clear hb hb2 hE
      go_enter Tryd.func4, Tryd.ntmps4
      go_wp2_with fail
      refine HDR.out.mono ?_
      rintro x w1 ⟨D, r, lo, hi, b, cap, rfl, hR, hcap, hmax, hs, hb1⟩
      obtain ⟨w2, hw2⟩ : ∃ w2, w2 = w1.alloc (.cells #[.slice (some ⟨b, 0, none⟩) D.size cap, .int .i64 r] 25) := ⟨_, rfl⟩
      have HBX := Lib.hid (show BoxS w2 w1.heap.size (.slice (some ⟨b, 0, none⟩) D.size cap) r by rw [hw2]; exact BoxS.new _ _ _)
      have HB2 := Lib.hid (show RowKit.Below w.heap.size w w2 by rw [hw2]; exact hb1.alloc hb1.size _)
      have hR2 : RowC w2 b 0 D := by rw [hw2]; exact hR.below ((Below.refl _ _).alloc (Nat.le_refl _) _)
      have hE2 := HE.out.below HB2.out
      have hbl := HBX.out.lt
      have CX0 := Lib.hid (fun W (hW : RowKit.Below w2.heap.size w2 W) => (hW.cell (p := ⟨w1.heap.size, 0, none⟩) hbl).trans HBX.out.c0)
      have CX1 := Lib.hid (fun W (hW : RowKit.Below w2.heap.size w2 W) => (hW.cell (p := ⟨w1.heap.size, 1, none⟩) hbl).trans HBX.out.c1)
      have HIT := Lib.hid (fun W (hW : RowKit.Below w2.heap.size w2 W) => implTable_any b 0 cap D r lo hi W (hR2.below hW) (hE2.below hW) hcap hmax)
      have HST := Lib.hid (fun W (hW : RowKit.Below w2.heap.size w2 W) => specTable_any b 0 cap D r lo hi W (hR2.below hW) hcap hmax)
      have HID := Lib.hid (fun W (hW : RowKit.Below w2.heap.size w2 W) => implDens_any b 0 cap D r lo hi W (hR2.below hW) (hE2.below hW) hcap hmax)
      have HSD := Lib.hid (fun W (hW : RowKit.Below w2.heap.size w2 W) => specDens_any b 0 cap D r lo hi W (hR2.below hW) hcap hmax)
      have HTG := Lib.hid (fun (key : Int) W (hW : RowKit.Below w2.heap.size w2 W) => implTarget_any b 0 cap D r key W (hR2.below hW) (hE2.below hW) hcap hmax)
      have HCS := Lib.hid (fun (key : Int) W (hW : RowKit.Below w2.heap.size w2 W) => implCase_any b 0 cap D r key W (hR2.below hW) (hE2.below hW) hcap hmax)
      have HW2 := Lib.hid hw2
      have b0 := HBX.out.c0
      have b1 := HBX.out.c1
      have hz2 : w.heap.size ≤ w2.heap.size := HB2.out.size
      have HFIN := Lib.hid (fun W (hW : RowKit.Below w2.heap.size w2 W) => HB2.out.trans (hW.mono hz2))
      clear hw2 hR hR2 hE2 hb1 hs
      go_wp2_with fail
      rw [← HW2.out]
      refine (HIT.out _ (Below.refl _ _)).mono ?_
      rintro x w3 ⟨rfl, hb3⟩
      have HB3 := Lib.hid hb3
      have hz3 := hb3.size
      clear hb3 b0 b1
      have a0 := CX0.out _ HB3.out
      have a1 := CX1.out _ HB3.out
      go_wp2_with fail
      refine (HST.out _ HB3.out).mono ?_
      rintro x w4 ⟨rfl, hb4⟩
      have HB4 := Lib.hid (HB3.out.trans (hb4.mono hz3))
      have hz4 := HB4.out.size
      clear hb4 a0 a1
      have a0 := CX0.out _ HB4.out
      have a1 := CX1.out _ HB4.out
      go_wp2_with fail
      refine (HID.out _ HB4.out).mono ?_
      rintro x w5 ⟨rfl, hb5⟩
      have HB5 := Lib.hid (HB4.out.trans (hb5.mono hz4))
      have hz5 := HB5.out.size
      clear hb5 a0 a1
      go_wp2_with fail
      refine (HD2.out _ (HFIN.out _ HB5.out)).mono ?_
      rintro x w6 ⟨t, fl, key, rfl, ht, hb6⟩
      have HB6 := Lib.hid (HB5.out.trans (hb6.mono hz5))
      have hz6 := HB6.out.size
      have HIL := Lib.hid (fun W => implLook_any t fl key W ht)
      have HSL := Lib.hid (fun W => specLook_any t fl key W ht)
      obtain ⟨ls, hls⟩ : ∃ ls, ls = lookS t fl key := ⟨_, rfl⟩
      obtain ⟨lk, hlk⟩ : ∃ lk, lk = lookOK t fl key := ⟨_, rfl⟩
      rw [← hls, ← hlk] at HIL HSL
      clear hb6 hls hlk
      go_wp2_with fail
      refine (HIL.out _).mono ?_
      rintro x w7 ⟨rfl, hb7⟩
      have HB7 := Lib.hid (HB6.out.trans (hb7.mono hz6))
      have hz7 := HB7.out.size
      clear hb7
      go_wp2_with fail
      refine (HSL.out _).mono ?_
      rintro x w8 ⟨rfl, rfl⟩
      have a0 := CX0.out _ HB7.out
      have a1 := CX1.out _ HB7.out
      rcases tab_two D r lo hi with ⟨h1, h2⟩ | ⟨ln, n, hok, rfl, hhi, hn, h32, h1, h2, h3⟩
      · rw [h1]
        rw [h2] at HSD ⊢
        obtain ⟨T, hT⟩ : ∃ T, T = tabN D r lo hi := ⟨_, rfl⟩
        rw [← hT]
        have HSD7 := Lib.hid (HSD.out _ HB7.out)
        have HSN := Lib.hid (fun W (hW : RowKit.Below w7.heap.size w7 W) => HSD.out _ (HB7.out.trans (hW.mono hz7)))
        clear hT h1 h2
        cases lk
        all_goals
          go_wp2_with (first
            | (go_at_call 29; (with_reducible refine HSD7.out.mono ?_); rintro _ w9 ⟨rfl, hb9⟩; have HB9 := Lib.hid (HB7.out.trans (hb9.mono hz7)); have hz9 := HB9.out.size; have HSD9 := Lib.hid (HSD.out _ HB9.out); have e0 := CX0.out _ HB9.out; have e1 := CX1.out _ HB9.out; clear hb9)
            | (go_at_call 29; (with_reducible refine HSD9.out.mono ?_); rintro _ w10 ⟨rfl, hb10⟩; have HB10 := Lib.hid (HB9.out.trans (hb10.mono hz9)); clear hb10))
          go_ret
          exact ⟨rfl, HFIN.out _ HB10.out⟩
      · rw [h1, h2]
        rw [h3] at HSD ⊢
        have HD3 := Lib.hid (show densZ D ln n = 100 * cntK (fun j => covB D (ln + j)) n / n from rfl)
        have hzb := densZ_bound D ln n
        obtain ⟨z, hz⟩ : ∃ z, z = densZ D ln n := ⟨_, rfl⟩
        rw [← hz] at HSD HD3 hzb ⊢
        have HSD7 := Lib.hid (HSD.out _ HB7.out)
        have HOK := Lib.hid hok
        have hTs := tabS_size D ln n
        have HLT := Lib.hid (fun i (hi : i < n) W => implLook_any (tabS D ln n) (ln : Int) ((ln + i : Nat) : Int) W (by omega))
        have HLE := Lib.hid (fun i (hi : i < n) => look_tab hok (lo := ln) hi h32)
        obtain ⟨T, hT⟩ : ∃ T, T = tabS D ln n := ⟨_, rfl⟩
        rw [← hT] at HLT HLE hTs ⊢
        have hTi : (T.size : Int) = (n : Int) := by omega
        have e1 : hi - (ln : Int) + 1 = (n : Int) := by omega
        have hln : (ln : Int) ≤ 31 := by omega
        have hh31 : hi ≤ 31 := by omega
        have hn32 : (n : Int) ≤ 32 := by omega
        have hn0 : (0 : Int) < (n : Int) := by omega
        have HHI := Lib.hid hhi
        clear hT h1 h2 h3 hz hok hTs
        cases lk
        all_goals
          go_wp2_with (first
            | (go_at_call 29; (with_reducible refine HSD7.out.mono ?_); rintro _ w9 ⟨rfl, hb9⟩; have HB9 := Lib.hid (HB7.out.trans (hb9.mono hz7)); clear hb9))
          clear a0 a1
          go_loopw [20, 21] (fun c i wr => ∃ q : Nat, i = .int .i64 ((ln + q : Nat) : Int) ∧ q ≤ n ∧ c = .int .i64 (cntK (fun j => covB D (ln + j)) q) ∧ Hid (RowKit.Below w2.heap.size w2 wr)) (fun _ i _ => ln + n - (intOf i).toNat)
          case atStart => exact ⟨0, rfl, Nat.zero_le _, rfl, HB9⟩
          case round =>
            obtain ⟨q, rfl, hq, rfl, HBr⟩ := hrel
            have r0 := CX0.out _ HBr.out
            have r1 := CX1.out _ HBr.out
            have hzr := HBr.out.size
            have hc := cntK_le (fun j => covB D (ln + j)) q
            have HCS1 := Lib.hid (show cntK (fun j => covB D (ln + j)) (q + 1) = cntK (fun j => covB D (ln + j)) q + (if covB D (ln + q) = true then 1 else 0) from rfl)
            by_cases hlt : q < n
            · have hki : ((ln + q : Nat) : Int) ≤ hi := by have := HHI.out; omega
              have HT1 := Lib.hid (HTG.out ((ln + q : Nat) : Int) _ HBr.out)
              rw [targetN_yes HOK.out (by omega : ln + q ≤ 31), okN_yes HOK.out (by omega : ln + q ≤ 31)] at HT1
              have HL1 := Lib.hid (fun W => HLT.out q hlt W)
              obtain ⟨l1, l2⟩ := HLE.out q hlt
              rw [l1, l2] at HL1
              obtain ⟨G, hG⟩ : ∃ G, G = goesN D ((ln + q : Nat) : Int) := ⟨_, rfl⟩
              rw [← hG] at HT1 HL1
              have hcv := caseN_yes HOK.out (ln + q)
              have HC1 := Lib.hid (fun W (hW : RowKit.Below w2.heap.size w2 W) => HCS.out ((ln + q : Nat) : Int) W hW)
              obtain ⟨cz, hcz⟩ : ∃ cz, cz = caseN D r ((ln + q : Nat) : Int) := ⟨_, rfl⟩
              rw [← hcz] at HC1 hcv
              obtain ⟨c, hcc⟩ : ∃ c, c = cntK (fun j => covB D (ln + j)) q := ⟨_, rfl⟩
              rw [← hcc] at hc HCS1 ⊢
              obtain ⟨K, hK⟩ : ∃ K, K = ln + q := ⟨_, rfl⟩
              rw [← hK] at hki HT1 HL1 HC1 hcv HCS1 ⊢
              have HK := Lib.hid hK
              have HHQ := Lib.hid (show (K : Int) + 1 = ((ln + (q + 1) : Nat) : Int) by omega)
              have hK31 : (K : Int) ≤ 31 := by omega
              have hc32 : c ≤ 32 := by omega
              have hc00 : 0 ≤ c := hc.1
              by_cases hcp : 0 ≤ cz
              · have HCT := Lib.hid (show cntK (fun j => covB D (ln + j)) (q + 1) = c + 1 by rw [HCS1.out, hcv]; simp [hcp])
                clear l1 l2 hG hcz hcc hK hcv hc
                go_wp2_with (first
                  | (go_at_call 30; (with_reducible refine HT1.out.mono ?_); rintro _ w10 ⟨rfl, hb10⟩; have HB10 := Lib.hid (HBr.out.trans (hb10.mono hzr)); have hz10 := HB10.out.size; have e0 := CX0.out _ HB10.out; have e1 := CX1.out _ HB10.out; clear hb10)
                  | (go_at_call 27; (refine (HL1.out _).mono ?_); rintro _ w11 ⟨rfl, hb11⟩; have HB11 := Lib.hid (HB10.out.trans (hb11.mono hz10)); have hz11 := HB11.out.size; have HC11 := Lib.hid (HC1.out _ HB11.out); have f0 := CX0.out _ HB11.out; have f1 := CX1.out _ HB11.out; clear hb11)
                  | (go_at_call 31; (with_reducible refine HC11.out.mono ?_); rintro _ w12 ⟨rfl, hb12⟩; have HB12 := Lib.hid (HB11.out.trans (hb12.mono hz11)); clear hb12))
                go_roundw
                case rel => exact ⟨q + 1, by rw [HHQ.out], by omega, by rw [HCT.out], HB12⟩
                case measure => have := HK.out; simp [intOf]; omega
              · have HCT := Lib.hid (show cntK (fun j => covB D (ln + j)) (q + 1) = c by rw [HCS1.out, hcv]; simp [hcp])
                clear l1 l2 hG hcz hcc hK hcv hc
                go_wp2_with (first
                  | (go_at_call 30; (with_reducible refine HT1.out.mono ?_); rintro _ w10 ⟨rfl, hb10⟩; have HB10 := Lib.hid (HBr.out.trans (hb10.mono hzr)); have hz10 := HB10.out.size; have e0 := CX0.out _ HB10.out; have e1 := CX1.out _ HB10.out; clear hb10)
                  | (go_at_call 27; (refine (HL1.out _).mono ?_); rintro _ w11 ⟨rfl, hb11⟩; have HB11 := Lib.hid (HB10.out.trans (hb11.mono hz10)); have hz11 := HB11.out.size; have HC11 := Lib.hid (HC1.out _ HB11.out); have f0 := CX0.out _ HB11.out; have f1 := CX1.out _ HB11.out; clear hb11)
                  | (go_at_call 31; (with_reducible refine HC11.out.mono ?_); rintro _ w12 ⟨rfl, hb12⟩; have HB12 := Lib.hid (HB11.out.trans (hb12.mono hz11)); clear hb12))
                go_roundw
                case rel => exact ⟨q + 1, by rw [HHQ.out], by omega, by rw [HCT.out], HB12⟩
                case measure => have := HK.out; simp [intOf]; omega
            · have hki : ¬ ((ln + q : Nat) : Int) ≤ hi := by have := HHI.out; omega
              obtain rfl : q = n := by omega
              have HZE := Lib.hid HD3.out
              obtain ⟨c, hcc⟩ : ∃ c, c = cntK (fun j => covB D (ln + j)) q := ⟨_, rfl⟩
              rw [← hcc] at hc HZE ⊢
              have hc32 : c ≤ 32 := by omega
              have hc00 : 0 ≤ c := hc.1
              clear hcc HCS1 hc
              have hd1 : 100 * c / (q : Int) = z := HZE.out.symm
              have hd2 : (100 * c).tdiv (q : Int) = z := by rw [Int.tdiv_eq_ediv_of_nonneg (by omega)]; exact hd1
              obtain ⟨K, hK⟩ : ∃ K : Nat, K = ln + q := ⟨_, rfl⟩
              rw [← hK] at hki ⊢
              clear hK
              go_wp2_with fail
              go_ret
              exact ⟨by simp, HFIN.out _ HBr.out⟩
    · have hki : (1048576 : Int) < (k : Int) := by omega
      have HB := Lib.hid (RowKit.Below.refl w.heap.size w)
      go_enter Tryd.func4, Tryd.ntmps4
      go_wp2_with fail
      go_ret
      exact ⟨rfl, HB.out⟩
  · have hmi : (1048576 : Int) < (m : Int) := by omega
    have HB := Lib.hid (RowKit.Below.refl w.heap.size w)
    go_enter Tryd.func4, Tryd.ntmps4
    go_wp2_with fail
    go_ret
    exact ⟨rfl, HB.out⟩
end Go.Proofs.YtbbejkimgkpfkaaDoor
