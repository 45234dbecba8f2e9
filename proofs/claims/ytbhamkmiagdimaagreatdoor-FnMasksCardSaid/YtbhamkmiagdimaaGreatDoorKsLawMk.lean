
/- The law FnMasks, walked. -/
import Derived.Test.YtbhamkmiagdimaaGreatDoorKsDrawM
import Derived.Test.YtbhamkmiagdimaaGreatDoorKsMkP
namespace Go.Proofs.YtbhamkmiagdimaaGreatDoor
open Go.RowKit Go.Shelf Go.Lib Go.Sort

theorem rowN_of_own {w : World} {base : Nat} {v : Value} {l : List Int} (h : w.ownsRow base 3 1 v l.length (l.map fun z => Value.int .i64 z)) (hl : l ≠ []) : ∃ g cap, v = .slice (some ⟨g, 0, none⟩) l.toArray.size cap ∧ RowN w g 0 l.toArray := by
  rcases h.2 with ⟨_, h1⟩ | ⟨g, cap, cur, h0, _, hh, _⟩
  · exact absurd (List.eq_nil_of_length_eq_zero h1) hl
  · refine ⟨g, cap, by rw [h0]; simp, (Array.getElem?_eq_some_iff.1 hh).1, fun j hj => ?_⟩
    have hj' : j < l.length := by simpa using hj
    subst h0
    rw [Nat.zero_add, World.ownsRow.cellAt h j (by simpa using hj')]
    simp [hj']
theorem tgL_ne {D : Array CaseD} {r : Int} (h : SwOK D r) : tgL D r ≠ [] := by
  intro e
  have := (all_mem h (goB D 0)).2 ⟨0, by omega, rfl⟩
  have h2 : goB D 0 ∈ tgL D r := this
  rw [e] at h2
  cases h2

set_option maxRecDepth 100000 in
set_option maxHeartbeats 8000000 in
theorem lawMk_any (v : Value) (m : Nat) (w : World) (hb : BytesAt w.heap.size w v m) (hform : ∃ a c, v = .slice a m c) (hE : ErrAt w) :
    Calls Tryz.prog 3 #[v] w fun x w' => x = .returned (.bool true) ∧ RowKit.Below w.heap.size w w' := by
  obtain ⟨av, cv, rfl⟩ := hform
  by_cases hm : m ≤ 1048576
  case neg =>
    have hmi : (1048576 : Int) < (m : Int) := by omega
    clear hb hE
    go_enter Tryz.func3, Tryz.ntmps3
    go_wp2
    go_ret
    exact ⟨rfl, Below.refl _ _⟩
  have HDR := Lib.hid (drawRun_any _ m w hb hm)
  have HE := Lib.hid hE
  have hmi : ¬ (1048576 : Int) < (m : Int) := by omega
  clear hb hE
  go_enter Tryz.func3, Tryz.ntmps3
  go_wp2_with fail
  refine HDR.out.mono ?_
  rintro x w1 ⟨D, r, key, t, b, cap, rfl, hts, hR, hcap, hmax, hs, hb1⟩
  obtain ⟨w2, hw2⟩ : ∃ w2, w2 = w1.alloc (.cells #[.slice (some ⟨b, 0, none⟩) D.size cap, .int .i64 r] 25) := ⟨_, rfl⟩
  have HBX := Lib.hid (show BoxS w2 w1.heap.size (.slice (some ⟨b, 0, none⟩) D.size cap) r by rw [hw2]; exact BoxS.new _ _ _)
  have HB2 := Lib.hid (show RowKit.Below w.heap.size w w2 by rw [hw2]; exact hb1.alloc hb1.size _)
  have hR2 : RowC w2 b 0 D := by rw [hw2]; exact hR.below ((Below.refl _ _).alloc (Nat.le_refl _) _)
  have hE2 := HE.out.below HB2.out
  have hbl := HBX.out.lt
  have CX0 := Lib.hid (fun W (hW : RowKit.Below w2.heap.size w2 W) => (hW.cell (p := ⟨w1.heap.size, 0, none⟩) hbl).trans HBX.out.c0)
  have CX1 := Lib.hid (fun W (hW : RowKit.Below w2.heap.size w2 W) => (hW.cell (p := ⟨w1.heap.size, 1, none⟩) hbl).trans HBX.out.c1)
  have HIR := Lib.hid (fun W (hW : RowKit.Below w2.heap.size w2 W) => implMRun_any b 0 cap D r key t W (hR2.below hW) (hE2.below hW) hcap hmax (by omega))
  have HSR := Lib.hid (fun W (hW : RowKit.Below w2.heap.size w2 W) => specMRun_any b 0 cap D r key t W (hR2.below hW) hcap hmax (by omega))
  have HIM := Lib.hid (fun s W (hW : RowKit.Below w2.heap.size w2 W) => implMask_any b 0 cap D r s W (hR2.below hW) (hE2.below hW) hcap hmax)
  have HSK := Lib.hid (fun s W (hW : RowKit.Below w2.heap.size w2 W) => specMask_any b 0 cap D r s W (hR2.below hW) hcap hmax)
  have HIA := Lib.hid (fun W (hW : RowKit.Below w2.heap.size w2 W) => implTargets_any b 0 cap D r W (hR2.below hW) (hE2.below hW) hcap hmax)
  have HIT := Lib.hid (fun W (hW : RowKit.Below w2.heap.size w2 W) => implTarget_any b 0 cap D r key W (hR2.below hW) (hE2.below hW) hcap hmax)
  have HW2 := Lib.hid hw2
  have b0 := HBX.out.c0
  have b1 := HBX.out.c1
  have hz2 : w.heap.size ≤ w2.heap.size := HB2.out.size
  have HFIN := Lib.hid (fun W (hW : RowKit.Below w2.heap.size w2 W) => HB2.out.trans (hW.mono hz2))
  have HGOES := Lib.hid (mrun_goes (D := D) (r := r) (key := key) (s := t))
  have HBAD := Lib.hid (mrun_bad (D := D) (r := r) (key := key) (s := t))
  have HMB := Lib.hid (show mrunB D r key t = (swB D r && ordWB D t && keyB key) from rfl)
  obtain ⟨B, hB⟩ : ∃ B, B = mrunB D r key t := ⟨_, rfl⟩
  obtain ⟨T, hT⟩ : ∃ T, T = mrunTN D r key t := ⟨_, rfl⟩
  obtain ⟨C, hC⟩ : ∃ C, C = mrunCN D r key t := ⟨_, rfl⟩
  rw [← hB, ← hT, ← hC] at HIR HSR
  rw [← hB, ← hT, ← hC] at HGOES
  rw [← hB, ← hT, ← hC] at HBAD
  rw [← hB] at HMB
  have HTT : (T.toList == T.toList) = true := beq_self_eq_true _
  clear hB hT hC hw2 hR hR2 hE2 hb1 hs
  go_wp2_with fail
  rw [← HW2.out]
  refine (HIR.out _ (Below.refl _ _)).mono ?_
  rintro x w3 ⟨rfl, hb3⟩
  have HB3 := Lib.hid hb3
  have a0 := CX0.out _ HB3.out
  have a1 := CX1.out _ HB3.out
  have hz3 := hb3.size
  clear hb3 b0 b1
  go_wp2_with fail
  refine (HSR.out _ HB3.out).mono ?_
  rintro x w4 ⟨rfl, hb4⟩
  have HB4 := Lib.hid (HB3.out.trans (hb4.mono hz3))
  have hz4 := HB4.out.size
  clear hb4 a0 a1
  obtain ⟨w5, hw5⟩ : ∃ w5, w5 = w4.alloc (.cells #[] 3) := ⟨_, rfl⟩
  have HB5 := Lib.hid (show RowKit.Below w2.heap.size w2 w5 by rw [hw5]; exact HB4.out.alloc hz4 _)
  have HM5 := Lib.hid (show w5.ownsRow w2.heap.size 3 1 (.slice (some ⟨w4.heap.size, 0, none⟩) 0 0) 0 [] by rw [hw5]; exact World.ownsRow_made (base := w2.heap.size) (e := 3) (size := 1) w4 #[] 0 hz4 (Nat.zero_le _) rfl)
  have HW5 := Lib.hid hw5
  have b0 := CX0.out _ HB4.out
  have b1 := CX1.out _ HB4.out
  have hz5 := HB5.out.size
  clear hw5
  have hbb : (B == B) = true := by cases B <;> rfl
  have hbl4 : w1.heap.size < w4.heap.size := by omega
  go_wp2_with fail
  rw [← HW5.out]
  refine (HIA.out _ HB5.out).mono ?_
  rintro x w6 ⟨rfl, hb6⟩
  have HB6 := Lib.hid (HB5.out.trans (hb6.mono hz5))
  have HM6 := Lib.hid (owns_below HM5.out hb6)
  have hz6 := HB6.out.size
  clear hb6 b0 b1
  cases hsw : swB D r
  · have hB : B = false := by rw [HMB.out, hsw]; rfl
    have htn : targetsN D r = ⟨#[]⟩ := by rw [targetsN, if_neg (by rw [hsw]; exact Bool.false_ne_true)]
    obtain ⟨hT, hC⟩ := HBAD.out hB
    subst hB hT hC
    rw [htn]
    clear hsw htn HBAD HGOES HMB HIR HSR
    go_wp2_with fail
    refine wp_loop_rounds 1 ?_
    rw [rounds_succ]
    go_wp2_with fail
    go_ret
    exact ⟨rfl, HFIN.out _ HB6.out⟩
  · have HO := Lib.hid ((swB_iff _ _).1 hsw)
    clear hsw
    have hts := tgL_str HO.out
    have hll := tgL_length D r
    have hso := strOf_size (tgL D r)
    have hown := ownL_full D r
    have hfit := fit_masks D r
    have HNE := Lib.hid (tgL_ne HO.out)
    have HMO := Lib.hid (fun x hx => mask_one (D := D) (r := r) (x := x) HO.out hx)
    have HWP := Lib.hid (fun x hx => word_pos (D := D) (r := r) (x := x) HO.out hx)
    have HTR := Lib.hid (fun x hx => tgL_range (D := D) (r := r) (x := x) hx)
    obtain ⟨L, hL⟩ : ∃ L, L = tgL D r := ⟨_, rfl⟩
    rw [← hL] at hts hll hso hown hfit HNE HMO HWP HTR
    obtain ⟨o, ho⟩ : ∃ o, o = strOf L := ⟨_, rfl⟩
    rw [← ho] at hts hso
    rw [hts]
    have HOE := Lib.hid ho
    have HOWN := Lib.hid hown
    have HFIT := Lib.hid hfit
    have hos : o.size ≤ 9 := by omega
    have hosi : (o.size : Int) ≤ 9 := by omega
    have HOS := Lib.hid hso
    obtain ⟨i0, hi, hi0, hi1, hi2⟩ := info_parts info3
    clear hL ho hts hso hown hfit hll
    go_wp2_with fail
    go_loopw [12, 13, 69] (fun a mk i wr => ∃ (k : Nat) (al : ByteArray), i = .int .i64 k ∧ k ≤ o.size ∧ a = .string al ∧ al.size ≤ k ∧ Hid (al = ownL L k) ∧ Hid (wr.ownsRow w2.heap.size 3 1 mk k ((mkL D (L.take k)).map fun z => Value.int .i64 z)) ∧ Hid (RowKit.Below w2.heap.size w2 wr)) (fun _ _ i _ => o.size - (intOf i).toNat)
    case atStart => exact ⟨0, ⟨#[]⟩, rfl, Nat.zero_le _, rfl, Nat.le_refl _, by simp [Hid, ownL_zero], HM6.out, HB6.out⟩
    case round =>
      obtain ⟨k, al, rfl, hk, rfl, hal, HAL, HMK, HBr⟩ := hrel
      have r0 := CX0.out _ HBr.out
      have r1 := CX1.out _ HBr.out
      have hzr := HBr.out.size
      by_cases hlt : k < o.size
      · have hki : (k : Int) < (o.size : Int) := by omega
        have hkL : k < L.length := by have := HOS.out; omega
        have hx : L[k] ∈ L := List.getElem_mem hkL
        have he2 : o.extract k (k + 1) = strOf [L[k]] := by rw [HOE.out]; exact strOf_atM L hkL
        have hm2 := HMO.out L[k] hx
        rw [← he2] at hm2
        have hwp := HWP.out L[k] hx
        have htr := HTR.out L[k] hx
        have hby : (o[k].toNat : Int) = L[k] := by
          rw [byteN_get hlt, HOE.out]
          exact byteN_strOf L (fun y hy => by have := HTR.out y hy; omega) hkL
        have hext : (o.extract k (k + 1)).size = 1 := by rw [he2, strOf_size]; rfl
        have HMS := Lib.hid (show mkL D (L.take (k + 1)) = mkL D (L.take k) ++ [((wordN D L[k] 32 : Nat) : Int)] by rw [List.take_succ_eq_append_getElem hkL, mkL, mkL, List.map_append]; rfl)
        have HOZ := Lib.hid (ownL_z (l := L) hkL)
        have HOL := Lib.hid (ownL_l (l := L) hkL)
        rw [← he2] at HOL
        have HEXT := Lib.hid hext
        obtain ⟨u, hu⟩ : ∃ u, u = wordN D L[k] 32 := ⟨_, rfl⟩
        rw [← hu] at hm2 hwp HMS
        have hui : ¬ (u : Int) = 0 := by omega
        have gi := fun p : BW wr => HIM.out (o.extract k (k + 1)) p.W (HBr.out.trans (p.h.mono hzr))
        rw [hm2.1, hm2.2] at gi
        have GI := Lib.hid gi
        have HMM := Lib.hid hm2
        obtain ⟨x, hxe⟩ : ∃ x, x = L[k] := ⟨_, rfl⟩
        rw [← hxe] at hby htr HOZ HOL
        have zr : w1.heap.size < wr.heap.size := by omega
        have q0 := fun p : BW wr => p.cell zr r0
        have q1 := fun p : BW wr => p.cell zr r1
        have HLT := Lib.hid hlt
        clear gi hm2 hu hx he2 hwp hxe hext r0 r1
        go_wp2_with fail
        refine wp_region_bw (by kernel_rfl) (by kernel_rfl) ?_
        repeat (go_big_quiet_step (with_reducible refine bw_of (GI.out _)))
        refine wpQuiet_nil ?_
        rintro _ ⟨p7, rfl⟩
        have hw7 := p7.h
        generalize p7.W = w7 at hw7 ⊢
        clear p7
        have HB7 := Lib.hid (HBr.out.trans (hw7.mono hzr))
        have HK7 := Lib.hid (owns_below HMK.out hw7)
        have hz7 := HB7.out.size
        have gs := fun p : BW w7 => HSK.out (o.extract k (k + 1)) p.W (HB7.out.trans (p.h.mono hz7))
        rw [HMM.out.1, HMM.out.2] at gs
        have GS := Lib.hid gs
        have z7 : w1.heap.size < w7.heap.size := by omega
        have s0 := fun p : BW w7 => p.cell z7 (CX0.out _ HB7.out)
        have s1 := fun p : BW w7 => p.cell z7 (CX1.out _ HB7.out)
        clear gs hw7 q0 q1
        go_wp2_with fail
        refine wp_region_bw (by kernel_rfl) (by kernel_rfl) ?_
        repeat (go_big_quiet_step (with_reducible refine bw_of (GS.out _)))
        refine wpQuiet_nil ?_
        rintro _ ⟨p8, rfl⟩
        have hw8 := p8.h
        generalize p8.W = w8 at hw8 ⊢
        clear p8
        have HB8 := Lib.hid (HB7.out.trans (hw8.mono hz7))
        have HK8 := Lib.hid (owns_below HK7.out hw8)
        have hz8 := HB8.out.size
        clear hw8 s0 s1
        have hal2 : (al.size : Int) + ((o.extract k (k + 1)).size : Int) ≤ 9223372036854775807 := by have := HEXT.out; omega
        have hal3 : ¬ (9223372036854775807 : Int) < (al.size : Int) + ((o.extract k (k + 1)).size : Int) := by omega
        by_cases hxz : x = 122
        · have hb1 := hby.trans hxz
          have HXZ := Lib.hid hxz
          clear hxz hby htr
          go_wp2_with (at_builtin; refine wpList_append_own _ rfl _ _ 30 rfl w2.heap.size 3 i0 (.int .i64 0) 1 8 Tryz.underlying30 hi hi0 hi1 hi2 rfl (by decide) _ _ _ rfl (HK8.out.alloc _) ⟨w8.heap.size, 0, none⟩ 1 1 [.int .i64 u] rfl rfl ?c1 ?c2 ?c3 ?c4 ?c5 ?_)
          case c2 => rfl
          case c3 => unfold maxLen; omega
          case c4 => omega
          case c5 => first | omega | (simp; omega)
          intro v' w9 hown9 hgrow _
          have HO9 := Lib.hid (show w9.ownsRow w2.heap.size 3 1 v' (k + 1) ((mkL D (L.take (k + 1))).map fun z => Value.int .i64 z) by rw [HMS.out, List.map_append]; exact hown9)
          have HB9 := Lib.hid ((HB8.out.alloc hz8 _).grown hgrow (by simp; omega) (fun q hq => (HK8.out.lt q hq).1))
          clear hown9 hgrow
          go_wp2_with fail
          go_roundw
          case rel => exact ⟨k + 1, al, by go_num, by have := HLT.out; omega, rfl, by omega, (show _ = _ by rw [HOZ.out HXZ.out]; exact HAL.out), HO9.out, HB9.out⟩
          case measure => simp [intOf]; omega
        · have hb1 : ¬ (_ = (122 : Int)) := fun e => hxz (hby.symm.trans e)
          have HXZ := Lib.hid hxz
          clear hxz hby htr
          go_wp2_with (at_builtin; refine wpList_append_own _ rfl _ _ 30 rfl w2.heap.size 3 i0 (.int .i64 0) 1 8 Tryz.underlying30 hi hi0 hi1 hi2 rfl (by decide) _ _ _ rfl (HK8.out.alloc _) ⟨w8.heap.size, 0, none⟩ 1 1 [.int .i64 u] rfl rfl ?c1 ?c2 ?c3 ?c4 ?c5 ?_)
          case c2 => rfl
          case c3 => unfold maxLen; omega
          case c4 => omega
          case c5 => first | omega | (simp; omega)
          intro v' w9 hown9 hgrow _
          have HO9 := Lib.hid (show w9.ownsRow w2.heap.size 3 1 v' (k + 1) ((mkL D (L.take (k + 1))).map fun z => Value.int .i64 z) by rw [HMS.out, List.map_append]; exact hown9)
          have HB9 := Lib.hid ((HB8.out.alloc hz8 _).grown hgrow (by simp; omega) (fun q hq => (HK8.out.lt q hq).1))
          clear hown9 hgrow
          go_wp2_with fail
          go_roundw
          case rel => exact ⟨k + 1, _, by go_num, by have := HLT.out; omega, rfl, by rw [ByteArray.size_append, HEXT.out]; omega, (show _ = _ by rw [HOL.out HXZ.out, HAL.out]), HO9.out, HB9.out⟩
          case measure => simp [intOf]; omega
      · have hke : k = o.size := by omega
        subst hke
        have htk : L.take o.size = L := by rw [HOS.out]; exact List.take_length
        have hmk := HMK.out
        rw [htk] at hmk
        have hfo := HOWN.out
        rw [← HOS.out, ← HAL.out] at hfo
        have HALF := Lib.hid hfo
        have hlen : o.size = (mkL D L).length := by rw [mkL_length, HOS.out]
        have hmne : mkL D L ≠ [] := by
          intro e
          rw [e] at hlen
          exact HNE.out (List.eq_nil_of_length_eq_zero (by rw [← HOS.out]; exact hlen))
        rw [hlen] at hmk
        obtain ⟨gm, cm, rfl, hRN⟩ := rowN_of_own hmk hmne
        have hfit := implFit_any gm 0 cm (mkL D L).toArray wr hRN (by have : (mkL D L).toArray.size = o.size := by rw [hlen]; simp
                                                                      omega)
        rw [HFIT.out] at hfit
        have HFT := Lib.hid hfit
        clear hfo hmk hfit htk hmne
        cases hBB : B
        · obtain ⟨hT, hC⟩ := HBAD.out hBB
          subst hT hC
          clear HGOES HBAD HMB HIR HSR
          go_wp2_with (go_at_call 12; refine HFT.out.mono ?_; rintro y wF ⟨rfl, rfl⟩)
          go_ret
          exact ⟨rfl, HFIN.out _ HBr.out⟩
        · have hg := HGOES.out hBB
          have hit := HIT.out _ HBr.out
          have hok : okN D r key = true := by
            have h := HMB.out
            rw [hBB] at h
            have h2 := h.symm
            rw [Bool.and_eq_true, Bool.and_eq_true] at h2
            rw [okN, h2.1.1, h2.2]
            rfl
          rw [← hg.1, hok] at hit
          have hal3 : al.size = (strOf (lettersTo D 8)).size := by rw [HALF.out]
          have hc1 : C ≤ (al.size : Int) := by rw [hal3]; exact hg.2.1
          have ht1 : (t.size : Int) = (al.size : Int) := by rw [hal3]; omega
          have HITT := Lib.hid hit
          clear HGOES HBAD HMB HIR HSR hit hg hok hal3
          go_wp2_with (first
            | (go_at_call 12; refine HFT.out.mono ?_; rintro y wF ⟨rfl, rfl⟩)
            | (go_at_call 13; refine HITT.out.mono ?_; rintro y wG ⟨rfl, hbG⟩; have HBG := Lib.hid (HBr.out.trans (hbG.mono hzr)); clear hbG))
          go_ret
          exact ⟨rfl, HFIN.out _ HBG.out⟩
end Go.Proofs.YtbhamkmiagdimaaGreatDoor
