
/- The law FnBestMasks, walked. -/
import Derived.Test.YtbhamkmiagdimaaGreatDoorKsDrawN
import Derived.Test.YtbhamkmiagdimaaGreatDoorKsBmP
namespace Go.Proofs.YtbhamkmiagdimaaGreatDoor
open Go.RowKit Go.Shelf Go.Lib Go.Sort

theorem bytes_upM {w W : World} {v : Value} {m : Nat} (h : BytesAt w.heap.size w v m) (hb : RowKit.Below w.heap.size w W) : BytesAt W.heap.size W v m := by
  rcases h with h1 | ⟨b, off, cap, h1, h2, h3, h4⟩
  · exact .inl h1
  · have := hb.size
    refine .inr ⟨b, off, cap, h1, h2, by omega, fun j hj => ?_⟩
    obtain ⟨y, h5, h6⟩ := h4 j hj
    exact ⟨y, h5, (hb.cell (p := ⟨b, off + j, none⟩) h3).trans h6⟩
theorem mwgt_one {D : Array CaseD} {r x : Int} (h : swB D r = true) (hx : 97 ≤ x ∧ x ≤ 104) : mwgtN D r (strOf [x]) = wgtT D r x := by
  have e : tg0 (strOf [x]) = x := strOf_tg (by omega) (by omega)
  have s : (strOf [x]).size = 1 := by rw [strOf_size]; rfl
  have hl : letN (strOf [x]) = true := by
    rw [letN, e, decide_eq_true s, Bool.true_and, Bool.or_eq_true]
    left
    simp only [tgtB, decide_eq_true_eq]
    omega
  rw [mwgtN, if_pos (by rw [maskB, h, hl]; rfl), e]

set_option maxRecDepth 100000 in
set_option maxHeartbeats 8000000 in
theorem lawBm_any (v u : Value) (m k : Nat) (w : World) (hb : BytesAt w.heap.size w v m) (hform : ∃ a c, v = .slice a m c) (hb2 : BytesAt w.heap.size w u k) (hform2 : ∃ a c, u = .slice a k c) (hE : ErrAt w) :
    Calls Tryz.prog 4 #[v, u] w fun x w' => x = .returned (.bool true) ∧ RowKit.Below w.heap.size w w' := by
  obtain ⟨av, cv, rfl⟩ := hform
  obtain ⟨au, cu, rfl⟩ := hform2
  by_cases hm : m ≤ 1048576
  case neg =>
    have hmi : (1048576 : Int) < (m : Int) := by omega
    clear hb hb2 hE
    go_enter Tryz.func4, Tryz.ntmps4
    go_wp2
    go_ret
    exact ⟨rfl, Below.refl _ _⟩
  by_cases hk : k ≤ 1048576
  case neg =>
    have hmi : ¬ (1048576 : Int) < (m : Int) := by omega
    have hki : (1048576 : Int) < (k : Int) := by omega
    clear hb hb2 hE
    go_enter Tryz.func4, Tryz.ntmps4
    go_wp2
    go_ret
    exact ⟨rfl, Below.refl _ _⟩
  have hmi : ¬ (1048576 : Int) < (m : Int) := by omega
  have hki : ¬ (1048576 : Int) < (k : Int) := by omega
  have HDR := Lib.hid (drawCost_any _ m w hb hm)
  have HD2 := Lib.hid (fun W (hW : RowKit.Below w.heap.size w W) => drawMW_any _ k W (bytes_upM hb2 hW) hk)
  have HE := Lib.hid hE
  clear hb hb2 hE
  go_enter Tryz.func4, Tryz.ntmps4
  go_wp2_with fail
  refine HDR.out.mono ?_
  rintro x w1 ⟨D, r, t, b, cap, rfl, hts, _, hR, hcap, hmax, hs, hb1⟩
  obtain ⟨w2, hw2⟩ : ∃ w2, w2 = w1.alloc (.cells #[.slice (some ⟨b, 0, none⟩) D.size cap, .int .i64 r] 25) := ⟨_, rfl⟩
  have HBX := Lib.hid (show BoxS w2 w1.heap.size (.slice (some ⟨b, 0, none⟩) D.size cap) r by rw [hw2]; exact BoxS.new _ _ _)
  have HB2 := Lib.hid (show RowKit.Below w.heap.size w w2 by rw [hw2]; exact hb1.alloc hb1.size _)
  have hR2 : RowC w2 b 0 D := by rw [hw2]; exact hR.below ((Below.refl _ _).alloc (Nat.le_refl _) _)
  have hE2 := HE.out.below HB2.out
  have hbl := HBX.out.lt
  have CX0 := Lib.hid (fun W (hW : RowKit.Below w2.heap.size w2 W) => (hW.cell (p := ⟨w1.heap.size, 0, none⟩) hbl).trans HBX.out.c0)
  have CX1 := Lib.hid (fun W (hW : RowKit.Below w2.heap.size w2 W) => (hW.cell (p := ⟨w1.heap.size, 1, none⟩) hbl).trans HBX.out.c1)
  have HIB := Lib.hid (fun W (hW : RowKit.Below w2.heap.size w2 W) => implBestM_any b 0 cap D r W (hR2.below hW) (hE2.below hW) hcap hmax)
  have HSB := Lib.hid (fun W (hW : RowKit.Below w2.heap.size w2 W) => specBestM_any b 0 cap D r W (hR2.below hW) hcap hmax)
  have HIC := Lib.hid (fun s (hs : s.size ≤ 1048576) W (hW : RowKit.Below w2.heap.size w2 W) => implMCost_any b 0 cap D r s W (hR2.below hW) (hE2.below hW) hcap hmax hs)
  have HSC := Lib.hid (fun s (hs : s.size ≤ 1048576) W (hW : RowKit.Below w2.heap.size w2 W) => specMCost_any b 0 cap D r s W (hR2.below hW) hcap hmax hs)
  have HIW := Lib.hid (fun s W (hW : RowKit.Below w2.heap.size w2 W) => implWgt_any b 0 cap D r s W (hR2.below hW) (hE2.below hW) hcap hmax)
  have HE2 := Lib.hid (fun W (hW : RowKit.Below w2.heap.size w2 W) => hE2.below hW)
  have HW2 := Lib.hid hw2
  have b0 := HBX.out.c0
  have b1 := HBX.out.c1
  have hz2 : w.heap.size ≤ w2.heap.size := HB2.out.size
  have HFIN := Lib.hid (fun W (hW : RowKit.Below w2.heap.size w2 W) => HB2.out.trans (hW.mono hz2))
  have HTS := Lib.hid (show t.size ≤ 1048576 by omega)
  have HBST := Lib.hid (fun h : swB D r = true => bestMN_str h)
  obtain ⟨bs, hbs⟩ : ∃ bs, bs = bestMN D r := ⟨_, rfl⟩
  rw [← hbs] at HIB HSB HBST
  have HTT : (bs.toList == bs.toList) = true := beq_self_eq_true _
  have HLEAST := Lib.hid (fun h : swB D r = true => best_least h t)
  obtain ⟨n, hn⟩ : ∃ n, n = mcostN D r t := ⟨_, rfl⟩
  have HN := Lib.hid hn
  rw [← hn] at HLEAST
  clear hbs hn hw2 hR hR2 hE2 hb1 hs
  go_wp2_with fail
  rw [← HW2.out]
  refine (HIB.out _ (Below.refl _ _)).mono ?_
  rintro x w3 ⟨rfl, hb3⟩
  have HB3 := Lib.hid hb3
  have hz3 := hb3.size
  clear hb3 b0 b1
  have a0 := CX0.out _ HB3.out
  have a1 := CX1.out _ HB3.out
  go_wp2_with fail
  refine (HSB.out _ HB3.out).mono ?_
  rintro x w4 ⟨rfl, hb4⟩
  have HB4 := Lib.hid (HB3.out.trans (hb4.mono hz3))
  have hz4 := HB4.out.size
  clear hb4 a0 a1
  have b0 := CX0.out _ HB4.out
  have b1 := CX1.out _ HB4.out
  go_wp2_with fail
  refine (HIC.out t HTS.out _ HB4.out).mono ?_
  rintro x w5 ⟨rfl, hb5⟩
  rw [← HN.out]
  have HB5 := Lib.hid (HB4.out.trans (hb5.mono hz4))
  have hz5 := HB5.out.size
  clear hb5 b0 b1
  go_wp2_with fail
  refine (HD2.out _ (HFIN.out _ HB5.out)).mono ?_
  rintro x w6 ⟨D2, r2, t2, b2, cap2, rfl, hts2, _, hR6, hcap2, hmax2, hs2, hb6⟩
  have HB6 := Lib.hid (HB5.out.trans (hb6.mono hz5))
  have hz6 := HB6.out.size
  obtain ⟨w7, hw7⟩ : ∃ w7, w7 = w6.alloc (.cells #[.slice (some ⟨b2, 0, none⟩) D2.size cap2, .int .i64 r2] 25) := ⟨_, rfl⟩
  have HBY := Lib.hid (show BoxS w7 w6.heap.size (.slice (some ⟨b2, 0, none⟩) D2.size cap2) r2 by rw [hw7]; exact BoxS.new _ _ _)
  have HB7 := Lib.hid (show RowKit.Below w2.heap.size w2 w7 by rw [hw7]; exact HB6.out.alloc hz6 _)
  have hR7 : RowC w7 b2 0 D2 := by rw [hw7]; exact hR6.below ((Below.refl _ _).alloc (Nat.le_refl _) _)
  have hyl := HBY.out.lt
  have hz7 := HB7.out.size
  have z7 : w1.heap.size < w7.heap.size := by omega
  have HW7 := Lib.hid hw7
  have gs := fun p : BW w7 => HSC.out t HTS.out p.W (HB7.out.trans (p.h.mono hz7))
  have gi := fun p : BW w7 => implWgt_any b2 0 cap2 D2 r2 t2 p.W (hR7.below p.h) (HE2.out _ (HB7.out.trans (p.h.mono hz7))) hcap2 hmax2
  have gw := fun p : BW w7 => specWgt_any b2 0 cap2 D2 r2 t2 p.W (hR7.below p.h) hcap2 hmax2
  rw [← HN.out] at gs
  obtain ⟨mw, hmw⟩ : ∃ mw, mw = mwgtN D2 r2 t2 := ⟨_, rfl⟩
  rw [← hmw] at gi gw
  have GS := Lib.hid gs
  have GI := Lib.hid gi
  have GW := Lib.hid gw
  have q0 := fun p : BW w7 => p.cell z7 (CX0.out _ HB7.out)
  have q1 := fun p : BW w7 => p.cell z7 (CX1.out _ HB7.out)
  have q2 := fun p : BW w7 => p.cell hyl HBY.out.c0
  have q3 := fun p : BW w7 => p.cell hyl HBY.out.c1
  clear hmw gs gi gw hw7 hR6 hR7 hb6 hs2 hts2
  cases hsw : swB D r
  · have hbb : (false == false) = true := rfl
    go_wp2_with fail
    rw [← HW7.out]
    refine wp_region_bw (by kernel_rfl) (by kernel_rfl) ?_
    repeat (go_big_quiet_step (first | (with_reducible refine bw_of (GS.out _)) | (with_reducible refine bw_of (GI.out _)) | (with_reducible refine bw_of (GW.out _))))
    refine wpQuiet_nil ?_
    rintro _ ⟨p8, rfl⟩
    have hw8 := p8.h
    generalize p8.W = w8 at hw8 ⊢
    clear p8
    have HB8 := Lib.hid (HB7.out.trans (hw8.mono hz7))
    have r0 : ∀ p : BW w8, p.W.cell? ⟨w1.heap.size, 0, none⟩ = some (.slice (some ⟨b, 0, none⟩) D.size cap) := fun p => q0 ⟨p.W, hw8.trans (p.h.mono hw8.size)⟩
    have r1 : ∀ p : BW w8, p.W.cell? ⟨w1.heap.size, 1, none⟩ = some (.int .i64 r) := fun p => q1 ⟨p.W, hw8.trans (p.h.mono hw8.size)⟩
    have r2' : ∀ p : BW w8, p.W.cell? ⟨w6.heap.size, 0, none⟩ = some (.slice (some ⟨b2, 0, none⟩) D2.size cap2) := fun p => q2 ⟨p.W, hw8.trans (p.h.mono hw8.size)⟩
    have r3 : ∀ p : BW w8, p.W.cell? ⟨w6.heap.size, 1, none⟩ = some (.int .i64 r2) := fun p => q3 ⟨p.W, hw8.trans (p.h.mono hw8.size)⟩
    have GS8 := Lib.hid (fun p : BW w8 => (show Calls Tryz.prog 19 #[.agg #[.slice (some ⟨b, 0, none⟩) D.size cap, .int .i64 r], .string t] p.W _ from GS.out ⟨p.W, hw8.trans (p.h.mono hw8.size)⟩))
    have GI8 := Lib.hid (fun p : BW w8 => (show Calls Tryz.prog 20 #[.agg #[.slice (some ⟨b2, 0, none⟩) D2.size cap2, .int .i64 r2], .string t2] p.W _ from GI.out ⟨p.W, hw8.trans (p.h.mono hw8.size)⟩))
    have GW8 := Lib.hid (fun p : BW w8 => (show Calls Tryz.prog 21 #[.agg #[.slice (some ⟨b2, 0, none⟩) D2.size cap2, .int .i64 r2], .string t2] p.W _ from GW.out ⟨p.W, hw8.trans (p.h.mono hw8.size)⟩))
    clear q0 q1 q2 q3
    go_wp2_with fail
    refine wp_region_bw (by kernel_rfl) (by kernel_rfl) ?_
    repeat (go_big_quiet_step (first | (with_reducible refine bw_of (GS8.out _)) | (with_reducible refine bw_of (GI8.out _)) | (with_reducible refine bw_of (GW8.out _))))
    refine wpQuiet_nil ?_
    rintro _ ⟨p9, rfl⟩
    have HB9 := Lib.hid (HB8.out.trans (p9.h.mono HB8.out.size))
    go_wp2_with fail
    go_ret
    exact ⟨rfl, HFIN.out _ HB9.out⟩
  · have hbb : (true == true) = true := rfl
    have hbe := HBST.out hsw
    have HLS := Lib.hid (HLEAST.out hsw)
    have HSW := Lib.hid hsw
    rw [← hbe] at HLS
    have hlen : (bestLs D r).length ≤ 8 := by
      have := (bestLs_perm D r).length_eq
      have := lettersTo_length D 8
      omega
    have hbsz : bs.size = (bestLs D r).length := by rw [hbe, strOf_size]
    have hb8 : (bs.size : Int) ≤ 8 := by omega
    have HBSZ := Lib.hid hbsz
    have HBE := Lib.hid hbe
    obtain ⟨ls, hls⟩ : ∃ ls, ls = mcostN D r bs := ⟨_, rfl⟩
    have HLE := Lib.hid hls
    rw [← hls] at HLS
    clear hbe hbsz hlen hls hsw
    go_wp2_with fail
    rw [← HW7.out]
    refine wp_region_bw (by kernel_rfl) (by kernel_rfl) ?_
    repeat (go_big_quiet_step (first | (with_reducible refine bw_of (GS.out _)) | (with_reducible refine bw_of (GI.out _)) | (with_reducible refine bw_of (GW.out _))))
    refine wpQuiet_nil ?_
    rintro _ ⟨p8, rfl⟩
    have hw8 := p8.h
    generalize p8.W = w8 at hw8 ⊢
    clear p8
    have HB8 := Lib.hid (HB7.out.trans (hw8.mono hz7))
    clear q0 q1 q2 q3 hw8 GS GI GW
    go_wp2_with fail
    go_loopw [14] (fun i wr => ∃ q : Nat, i = .int .i64 q ∧ q ≤ bs.size ∧ Hid (RowKit.Below w2.heap.size w2 wr)) (fun i _ => bs.size - (intOf i).toNat)
    case atStart => exact ⟨0, rfl, Nat.zero_le _, HB8.out⟩
    case round =>
      obtain ⟨q, rfl, hq, HBr⟩ := hrel
      have hzr := HBr.out.size
      have zr : w1.heap.size < wr.heap.size := by omega
      by_cases hlt : q + 1 < bs.size
      · have hqi : (q : Int) + 1 < (bs.size : Int) := by omega
        have hq0 : q < bs.size := by omega
        have hL : q + 1 < (bestLs D r).length := by have := HBSZ.out; omega
        have hA := best_next hL
        have hr1 := bestLs_range (List.getElem_mem (show q < (bestLs D r).length by omega))
        have hr2 := bestLs_range (List.getElem_mem hL)
        have e1 : bs.extract q (q + 1) = strOf [(bestLs D r)[q]] := by rw [HBE.out]; exact strOf_at _ (by omega)
        have e2 : bs.extract (q + 1) (q + 2) = strOf [(bestLs D r)[q + 1]] := by rw [HBE.out]; exact strOf_at _ hL
        have m1 := mwgt_one HSW.out hr1
        have m2 := mwgt_one HSW.out hr2
        rw [← e1] at m1
        rw [← e2] at m2
        have g1 := fun p : BW wr => HIW.out (bs.extract q (q + 1)) p.W (HBr.out.trans (p.h.mono hzr))
        have g2 := fun p : BW wr => HIW.out (bs.extract (q + 1) (q + 2)) p.W (HBr.out.trans (p.h.mono hzr))
        rw [m1] at g1
        rw [m2] at g2
        have hrange : ∀ y ∈ bestLs D r, 0 ≤ y ∧ y ≤ 255 := fun y hy => by have := bestLs_range hy; omega
        have hy1 : (bs[q].toNat : Int) = (bestLs D r)[q] := by rw [byteN_get hq0, HBE.out]; exact byteN_strOf _ hrange (by omega)
        have hy2 : (bs[q + 1].toNat : Int) = (bestLs D r)[q + 1] := by rw [byteN_get hlt, HBE.out]; exact byteN_strOf _ hrange hL
        obtain ⟨x1, hx1⟩ : ∃ x1, x1 = (bestLs D r)[q] := ⟨_, rfl⟩
        obtain ⟨x2, hx2⟩ : ∃ x2, x2 = (bestLs D r)[q + 1] := ⟨_, rfl⟩
        rw [← hx1] at g1 hy1 hA
        rw [← hx2] at g2 hy2 hA
        unfold AheadW at hA
        obtain ⟨y1, hwy1⟩ : ∃ y1, y1 = wgtT D r x1 := ⟨_, rfl⟩
        obtain ⟨y2, hwy2⟩ : ∃ y2, y2 = wgtT D r x2 := ⟨_, rfl⟩
        rw [← hwy1] at g1 hA
        rw [← hwy2] at g2 hA
        have G1 := Lib.hid g1
        have G2 := Lib.hid g2
        have q0 := fun p : BW wr => p.cell zr (CX0.out _ HBr.out)
        have q1 := fun p : BW wr => p.cell zr (CX1.out _ HBr.out)
        have HLT := Lib.hid hlt
        clear g1 g2 m1 m2 e1 e2 hwy1 hwy2 hx1 hx2 hr1 hr2 hrange
        rcases hA with hA | ⟨hA, hA2⟩
        · have n1 : ¬ y1 < y2 := by omega
          have n2 : ¬ y1 = y2 := by omega
          clear hA hy1 hy2
          go_wp2_with fail
          refine wp_region_bw (by kernel_rfl) (by kernel_rfl) ?_
          repeat (go_big_quiet_step (first | (with_reducible refine bw_of (G1.out _)) | (with_reducible refine bw_of (G2.out _))))
          refine wpQuiet_nil ?_
          rintro _ ⟨p9, rfl⟩
          have HB9 := Lib.hid (HBr.out.trans (p9.h.mono hzr))
          generalize p9.W = w9 at HB9 ⊢
          clear p9
          go_wp2_with fail
          go_quiet (fail)
          go_wp2_with fail
          go_roundw
          case rel => exact ⟨q + 1, by go_num, by have := HLT.out; omega, below_drewN HB9.out _⟩
          case measure => simp [intOf]; omega
        · have n1 : ¬ y1 < y2 := by omega
          have n2 : y1 = y2 := hA.symm
          have n3 : ¬ x2 < x1 := by omega
          subst n2
          clear hA hA2
          go_wp2_with fail
          refine wp_region_bw (by kernel_rfl) (by kernel_rfl) ?_
          repeat (go_big_quiet_step (first | (with_reducible refine bw_of (G1.out _)) | (with_reducible refine bw_of (G2.out _))))
          refine wpQuiet_nil ?_
          rintro _ ⟨p9, rfl⟩
          have HB9 := Lib.hid (HBr.out.trans (p9.h.mono hzr))
          generalize p9.W = w9 at HB9 ⊢
          clear p9
          go_wp2_with fail
          go_quiet (fail)
          go_wp2_with fail
          go_roundw
          case rel => exact ⟨q + 1, by go_num, by have := HLT.out; omega, below_drewN HB9.out _⟩
          case measure => simp [intOf]; omega
      · have hqi : ¬ (q : Int) + 1 < (bs.size : Int) := by omega
        have r0 := CX0.out _ HBr.out
        have r1 := CX1.out _ HBr.out
        have hc := HIC.out bs (by omega) _ HBr.out
        rw [← HLE.out] at hc
        have HC := Lib.hid hc
        have l0 := HLS.out.1
        have l1 := HLS.out.2
        clear hc HLS
        go_wp2_with fail
        refine HC.out.mono ?_
        rintro x wE ⟨rfl, hbE⟩
        have HBE2 := Lib.hid (HBr.out.trans (hbE.mono hzr))
        clear hbE r0 r1
        rcases l1 with l1 | l1
        · go_wp2_with fail
          go_ret
          exact ⟨rfl, HFIN.out _ HBE2.out⟩
        · by_cases hn0 : n < 0
          · go_wp2_with fail
            go_ret
            exact ⟨rfl, HFIN.out _ HBE2.out⟩
          · go_wp2_with fail
            go_ret
            exact ⟨rfl, HFIN.out _ HBE2.out⟩
end Go.Proofs.YtbhamkmiagdimaaGreatDoor
