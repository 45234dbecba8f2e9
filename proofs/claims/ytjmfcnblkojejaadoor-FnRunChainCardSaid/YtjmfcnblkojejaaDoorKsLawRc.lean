
/- The law FnRunChain, walked. -/
import Derived.Test.YtjmfcnblkojejaaDoorKsDrawC3
import Derived.Test.YtjmfcnblkojejaaDoorKsRunD
import Derived.Test.YtjmfcnblkojejaaDoorKsBcS
namespace Go.Proofs.YtjmfcnblkojejaaDoor
open Go.RowKit Go.Shelf Go.Lib Go.Sort

theorem bytes_upR {w W : World} {v : Value} {m : Nat} (h : BytesAt w.heap.size w v m) (hb : RowKit.Below w.heap.size w W) : BytesAt W.heap.size W v m := by
  rcases h with h1 | ⟨b, off, cap, h1, h2, h3, h4⟩
  · exact .inl h1
  · have := hb.size
    refine .inr ⟨b, off, cap, h1, h2, by omega, fun j hj => ?_⟩
    obtain ⟨y, h5, h6⟩ := h4 j hj
    exact ⟨y, h5, (hb.cell (p := ⟨b, off + j, none⟩) h3).trans h6⟩
theorem ownsN_belowR {B : Nat} {v : Value} {l : List Int} {w w' : World} (h : OwnsN B v l w) (hb : RowKit.Below w.heap.size w w') : OwnsN B v l w' :=
  World.ownsRow.kept h (grown_of_below hb) (by cases hv : v.ownBlock with
    | none => exact .inl rfl
    | some q => exact .inr (by simp))
theorem reach_len {d : Array CaseD} {rest : Int} {o : Array Int} (ho : o.size ≤ 1048576) : (reachN d rest o).length ≤ 1048576 := by
  cases h : ordS d rest o with
  | false => rw [reachN_off h]; exact Nat.zero_le _
  | true => rw [reachN_on h, Array.length_toList, reachA_size]; exact ho

set_option maxRecDepth 100000 in
set_option maxHeartbeats 8000000 in
theorem lawRc_any (v u : Value) (m k : Nat) (w : World) (hb : BytesAt w.heap.size w v m) (hform : ∃ a c, v = .slice a m c) (hb2 : BytesAt w.heap.size w u k) (hform2 : ∃ a c, u = .slice a k c) (hE : ErrAt w) :
    Calls Tryd.prog 5 #[v, u] w fun x w' => x = .returned (.bool true) ∧ RowKit.Below w.heap.size w w' := by
  obtain ⟨av, cv, rfl⟩ := hform
  obtain ⟨au, cu, rfl⟩ := hform2
  by_cases hm : m ≤ 1048576
  case neg =>
    have hmi : (1048576 : Int) < (m : Int) := by omega
    clear hb hb2 hE
    go_enter Tryd.func5, Tryd.ntmps5
    go_wp2
    go_ret
    exact ⟨rfl, Below.refl _ _⟩
  by_cases hk : k ≤ 1048576
  case neg =>
    have hmi : ¬ (1048576 : Int) < (m : Int) := by omega
    have hki : (1048576 : Int) < (k : Int) := by omega
    clear hb hb2 hE
    go_enter Tryd.func5, Tryd.ntmps5
    go_wp2
    go_ret
    exact ⟨rfl, Below.refl _ _⟩
  have hmi : ¬ (1048576 : Int) < (m : Int) := by omega
  have hki : ¬ (1048576 : Int) < (k : Int) := by omega
  have HDR := Lib.hid (drawChain_any _ m w hb hm)
  have HD2 := Lib.hid (fun W (hW : RowKit.Below w.heap.size w W) => drawTest_any _ k W (bytes_upR hb2 hW) hk)
  have HE := Lib.hid hE
  clear hb hb2 hE
  go_enter Tryd.func5, Tryd.ntmps5
  go_wp2_with fail
  refine HDR.out.mono ?_
  rintro x w1 ⟨D, r, key, L, b, cap, go, co, rfl, hLl, hR, hcap, hmax, hs, hOL, hb1⟩
  obtain ⟨o, rfl⟩ : ∃ o : Array Int, L = o.toList := ⟨L.toArray, by simp⟩
  have hO1 : RowN w1 go 0 o := by
    rcases ownsN_rowB hOL with ⟨h, _⟩ | ⟨g', c', h, hrow⟩
    · cases h
    · cases h
      rwa [Array.toArray_toList] at hrow
  clear hOL
  simp only [Array.length_toList] at hLl ⊢
  obtain ⟨w2, hw2⟩ : ∃ w2, w2 = w1.alloc (.cells #[.slice (some ⟨b, 0, none⟩) D.size cap, .int .i64 r] 25) := ⟨_, rfl⟩
  have HBX := Lib.hid (show BoxS w2 w1.heap.size (.slice (some ⟨b, 0, none⟩) D.size cap) r by rw [hw2]; exact BoxS.new _ _ _)
  have HB2 := Lib.hid (show RowKit.Below w.heap.size w w2 by rw [hw2]; exact hb1.alloc hb1.size _)
  have hR2 : RowC w2 b 0 D := by rw [hw2]; exact hR.below ((Below.refl _ _).alloc (Nat.le_refl _) _)
  have hO2 : RowN w2 go 0 o := by rw [hw2]; exact hO1.below ((Below.refl _ _).alloc (Nat.le_refl _) _)
  have hE2 := HE.out.below HB2.out
  have hos : o.size ≤ 1048576 := by omega
  have hbl := HBX.out.lt
  have CX0 := Lib.hid (fun W (hW : RowKit.Below w2.heap.size w2 W) => (hW.cell (p := ⟨w1.heap.size, 0, none⟩) hbl).trans HBX.out.c0)
  have CX1 := Lib.hid (fun W (hW : RowKit.Below w2.heap.size w2 W) => (hW.cell (p := ⟨w1.heap.size, 1, none⟩) hbl).trans HBX.out.c1)
  have HIR := Lib.hid (fun W (hW : RowKit.Below w2.heap.size w2 W) => implRun_any b 0 cap D r key go co o W (hR2.below hW) (hE2.below hW) hcap hmax (hO2.below hW) hos)
  have HSR := Lib.hid (fun W (hW : RowKit.Below w2.heap.size w2 W) => specRun_any b 0 cap D r key go co o W (hR2.below hW) hcap hmax (hO2.below hW) hos)
  have HIC := Lib.hid (fun W (hW : RowKit.Below w2.heap.size w2 W) => implReach_any b 0 cap D r go co o W (hR2.below hW) (hE2.below hW) hcap hmax (hO2.below hW) hos)
  have HSC := Lib.hid (fun W (hW : RowKit.Below w2.heap.size w2 W) => specReach_any b 0 cap D r go co o W (hR2.below hW) hcap hmax (hO2.below hW) hos)
  have HIO := Lib.hid (fun W (hW : RowKit.Below w2.heap.size w2 W) => implOrder_any b 0 cap D r go co o W (hR2.below hW) (hE2.below hW) hcap hmax (hO2.below hW) hos)
  have HSO := Lib.hid (fun W (hW : RowKit.Below w2.heap.size w2 W) => specOrder_any b 0 cap D r go co o W (hR2.below hW) hcap hmax (hO2.below hW) hos)
  have HIT := Lib.hid (fun (i : Int) W (hW : RowKit.Below w2.heap.size w2 W) => implTest_any b 0 cap D r i W (hR2.below hW) (hE2.below hW) hcap hmax)
  have HIG := Lib.hid (fun W (hW : RowKit.Below w2.heap.size w2 W) => implTarget_any b 0 cap D r key W (hR2.below hW) (hE2.below hW) hcap hmax)
  have HIK := Lib.hid (fun W (hW : RowKit.Below w2.heap.size w2 W) => implCase_any b 0 cap D r key W (hR2.below hW) (hE2.below hW) hcap hmax)
  have HE2 := Lib.hid (fun W (hW : RowKit.Below w2.heap.size w2 W) => hE2.below hW)
  have HW2 := Lib.hid hw2
  have b0 := HBX.out.c0
  have b1 := HBX.out.c1
  have hz2 : w.heap.size ≤ w2.heap.size := HB2.out.size
  have HFIN := Lib.hid (fun W (hW : RowKit.Below w2.heap.size w2 W) => HB2.out.trans (hW.mono hz2))
  have HSAY := Lib.hid (fun h : runB D r o key = true => run_says h)
  have HBND := Lib.hid (fun (h : runB D r o key = true) (t : Nat) (ht : t < D.size) => run_bounds (o := o) (ordS_on (by rw [runB, Bool.and_eq_true] at h; exact h.1)).2 ht)
  have HORD := Lib.hid (fun h : runB D r o key = true => (show ordS D r o = true by rw [runB, Bool.and_eq_true] at h; exact h.1))
  have HSMALL := Lib.hid hs.1
  have HSWB := Lib.hid (fun h : runB D r o key = true => (show swB D r = true by rw [runB, Bool.and_eq_true] at h; exact (swB_iff _ _).2 (ordS_on h.1).1))
  have HLEN := Lib.hid (reach_len (d := D) (rest := r) hos)
  obtain ⟨T, hT⟩ : ∃ T, T = runTN D r o key := ⟨_, rfl⟩
  obtain ⟨C, hC⟩ : ∃ C, C = runCN D r o key := ⟨_, rfl⟩
  obtain ⟨R, hRR⟩ : ∃ R, R = reachN D r o := ⟨_, rfl⟩
  obtain ⟨B, hBB⟩ : ∃ B, B = runB D r o key := ⟨_, rfl⟩
  obtain ⟨F, hFF⟩ : ∃ F, F = ordS D r o := ⟨_, rfl⟩
  rw [← hT, ← hC, ← hBB] at HIR HSR HSAY
  rw [← hRR] at HIC HSC HLEN HSAY
  rw [← hFF] at HIC HSC HIO HSO HORD
  rw [← hBB] at HBND HORD HSWB
  have HTT : (T.toList == T.toList) = true := beq_self_eq_true _
  clear hT hC hRR hBB hFF hw2 hR hR2 hO1 hO2 hE2 hb1 hs
  go_wp2_with fail
  rw [← HW2.out]
  refine (HIR.out _ (Below.refl _ _)).mono ?_
  rintro x w3 ⟨rfl, hb3⟩
  have HB3 := Lib.hid hb3
  have hz3 := hb3.size
  clear hb3 b0 b1
  have a0 := CX0.out _ HB3.out
  have a1 := CX1.out _ HB3.out
  go_wp2_with fail
  refine (HSR.out _ HB3.out).mono ?_
  rintro x w4 ⟨rfl, hb4⟩
  have HB4 := Lib.hid (HB3.out.trans (hb4.mono hz3))
  have hz4 := HB4.out.size
  clear hb4 a0 a1
  have b0 := CX0.out _ HB4.out
  have b1 := CX1.out _ HB4.out
  go_wp2_with fail
  refine (HIC.out _ HB4.out).mono ?_
  rintro x w5 ⟨v1, rfl, ho1, hb5⟩
  have HB5 := Lib.hid (HB4.out.trans (hb5.mono hz4))
  have hz5 := HB5.out.size
  have HV5 := Lib.hid ho1
  clear hb5 b0 b1 ho1
  have a0 := CX0.out _ HB5.out
  have a1 := CX1.out _ HB5.out
  go_wp2_with fail
  refine (HSC.out _ HB5.out).mono ?_
  rintro x w5b ⟨v2, rfl, ho2, hb5b⟩
  have HB5b := Lib.hid (HB5.out.trans (hb5b.mono hz5))
  have hz5b := HB5b.out.size
  have HV6 := Lib.hid (ownsN_belowR HV5.out (hb5b.mono (Nat.le_refl _)))
  have HU6 := Lib.hid ho2
  clear hb5b a0 a1 ho2
  go_wp2_with fail
  refine (HD2.out _ (HFIN.out _ HB5b.out)).mono ?_
  rintro x w6 ⟨D2, r2, k2, b2, cap2, rfl, hR6, hcap2, hmax2, hs2, hb6⟩
  have HB6 := Lib.hid (HB5b.out.trans (hb6.mono hz5b))
  have HV7 := Lib.hid (ownsN_belowR HV6.out (hb6.mono (Nat.le_refl _)))
  have HU7 := Lib.hid (ownsN_belowR HU6.out (hb6.mono (Nat.le_refl _)))
  have hz6 := HB6.out.size
  obtain ⟨w7, hw7⟩ : ∃ w7, w7 = w6.alloc (.cells #[.slice (some ⟨b2, 0, none⟩) D2.size cap2, .int .i64 r2] 25) := ⟨_, rfl⟩
  have HBY := Lib.hid (show BoxS w7 w6.heap.size (.slice (some ⟨b2, 0, none⟩) D2.size cap2) r2 by rw [hw7]; exact BoxS.new _ _ _)
  have hb7 : RowKit.Below w6.heap.size w6 w7 := by rw [hw7]; exact (Below.refl _ _).alloc (Nat.le_refl _) _
  have HB7 := Lib.hid (show RowKit.Below w2.heap.size w2 w7 from HB6.out.trans (hb7.mono hz6))
  have HV8 := Lib.hid (ownsN_belowR HV7.out hb7)
  have HU8 := Lib.hid (ownsN_belowR HU7.out hb7)
  have hR7 : RowC w7 b2 0 D2 := by rw [hw7]; exact hR6.below ((Below.refl _ _).alloc (Nat.le_refl _) _)
  have hyl := HBY.out.lt
  have hz7 := HB7.out.size
  have z7 : w1.heap.size < w7.heap.size := by omega
  have HW7 := Lib.hid hw7
  have gk := fun p : BW w7 => ksSame_any (ownsN_belowR HV8.out p.h) (ownsN_belowR HU8.out p.h) HLEN.out
  have gi := fun p : BW w7 => HIO.out p.W (HB7.out.trans (p.h.mono hz7))
  have gs := fun p : BW w7 => HSO.out p.W (HB7.out.trans (p.h.mono hz7))
  have ga := fun p : BW w7 => implTest_any b2 0 cap2 D2 r2 k2 p.W (hR7.below p.h) (HE2.out _ (HB7.out.trans (p.h.mono hz7))) hcap2 hmax2
  have gb := fun p : BW w7 => specTest_any b2 0 cap2 D2 r2 k2 p.W (hR7.below p.h) hcap2 hmax2
  obtain ⟨mw, hmw⟩ : ∃ mw, mw = testN D2 r2 k2 := ⟨_, rfl⟩
  rw [← hmw] at ga gb
  have GK := Lib.hid gk
  have GI := Lib.hid gi
  have GS := Lib.hid gs
  have GA := Lib.hid ga
  have GB := Lib.hid gb
  have q0 := fun p : BW w7 => p.cell z7 (CX0.out _ HB7.out)
  have q1 := fun p : BW w7 => p.cell z7 (CX1.out _ HB7.out)
  have q2 := fun p : BW w7 => p.cell hyl HBY.out.c0
  have q3 := fun p : BW w7 => p.cell hyl HBY.out.c1
  clear hmw gk gi gs ga gb hw7 hR6 hR7 hb6 hb7 hs2
  cases B
  · cases F
    all_goals
      have hbb : (false == false) = true := rfl
      have htt : (true == true) = true := rfl
      go_wp2_with fail
      rw [← HW7.out]
      refine wp_region_bw (by kernel_rfl) (by kernel_rfl) ?_
      repeat (go_big_quiet_step (first | (with_reducible refine bw_of (GK.out _)) | (with_reducible refine bw_of (GI.out _)) | (with_reducible refine bw_of (GS.out _)) | (with_reducible refine bw_of (GA.out _)) | (with_reducible refine bw_of (GB.out _))))
      refine wpQuiet_nil ?_
      rintro _ ⟨p8, rfl⟩
      have hw8 := p8.h
      generalize p8.W = w8 at hw8 ⊢
      clear p8
      have HB8 := Lib.hid (HB7.out.trans (hw8.mono hz7))
      have r0 : ∀ p : BW w8, p.W.cell? ⟨w1.heap.size, 0, none⟩ = some (.slice (some ⟨b, 0, none⟩) D.size cap) := fun p => q0 ⟨p.W, hw8.trans (p.h.mono hw8.size)⟩
      have r1 : ∀ p : BW w8, p.W.cell? ⟨w1.heap.size, 1, none⟩ = some (.int .i64 r) := fun p => q1 ⟨p.W, hw8.trans (p.h.mono hw8.size)⟩
      have r2' : ∀ p : BW w8, p.W.cell? ⟨w6.heap.size, 0, none⟩ = some (.slice (some ⟨b2, 0, none⟩) D2.size cap2) := fun p => q2 ⟨p.W, hw8.trans (p.h.mono hw8.size)⟩
      have r3 : ∀ p : BW w8, p.W.cell? ⟨w6.heap.size, 1, none⟩ = some (.int .i64 r2) := fun p => q3 ⟨p.W, hw8.trans (p.h.mono hw8.size)⟩
      have GK8 := Lib.hid (fun p : BW w8 => (show Calls Tryd.prog 33 #[v1, v2] p.W _ from GK.out ⟨p.W, hw8.trans (p.h.mono hw8.size)⟩))
      have GI8 := Lib.hid (fun p : BW w8 => (show Calls Tryd.prog 34 #[.agg #[.slice (some ⟨b, 0, none⟩) D.size cap, .int .i64 r], .slice (some ⟨go, 0, none⟩) o.size co] p.W _ from GI.out ⟨p.W, hw8.trans (p.h.mono hw8.size)⟩))
      have GS8 := Lib.hid (fun p : BW w8 => (show Calls Tryd.prog 35 #[.agg #[.slice (some ⟨b, 0, none⟩) D.size cap, .int .i64 r], .slice (some ⟨go, 0, none⟩) o.size co] p.W _ from GS.out ⟨p.W, hw8.trans (p.h.mono hw8.size)⟩))
      have GA8 := Lib.hid (fun p : BW w8 => (show Calls Tryd.prog 36 #[.agg #[.slice (some ⟨b2, 0, none⟩) D2.size cap2, .int .i64 r2], .int .i64 k2] p.W _ from GA.out ⟨p.W, hw8.trans (p.h.mono hw8.size)⟩))
      have GB8 := Lib.hid (fun p : BW w8 => (show Calls Tryd.prog 37 #[.agg #[.slice (some ⟨b2, 0, none⟩) D2.size cap2, .int .i64 r2], .int .i64 k2] p.W _ from GB.out ⟨p.W, hw8.trans (p.h.mono hw8.size)⟩))
      clear q0 q1 q2 q3
      go_wp2_with fail
      refine wp_region_bw (by kernel_rfl) (by kernel_rfl) ?_
      repeat (go_big_quiet_step (first | (with_reducible refine bw_of (GK8.out _)) | (with_reducible refine bw_of (GI8.out _)) | (with_reducible refine bw_of (GS8.out _)) | (with_reducible refine bw_of (GA8.out _)) | (with_reducible refine bw_of (GB8.out _))))
      refine wpQuiet_nil ?_
      rintro _ ⟨p9, rfl⟩
      have HB9 := Lib.hid (HB8.out.trans (p9.h.mono HB8.out.size))
      go_wp2_with fail
      go_ret
      exact ⟨rfl, HFIN.out _ HB9.out⟩
  · have hF := HORD.out rfl
    subst hF
    have htt : (true == true) = true := rfl
    have hsay := HSAY.out rfl
    have HBD := Lib.hid (HBND.out rfl)
    have HSAY2 := Lib.hid hsay
    have HSW := Lib.hid (HSWB.out rfl)
    clear hsay
    go_wp2_with fail
    rw [← HW7.out]
    refine wp_region_bw (by kernel_rfl) (by kernel_rfl) ?_
    repeat (go_big_quiet_step (first | (with_reducible refine bw_of (GK.out _)) | (with_reducible refine bw_of (GI.out _)) | (with_reducible refine bw_of (GS.out _)) | (with_reducible refine bw_of (GA.out _)) | (with_reducible refine bw_of (GB.out _))))
    refine wpQuiet_nil ?_
    rintro _ ⟨p8, rfl⟩
    have hw8 := p8.h
    generalize p8.W = w8 at hw8 ⊢
    clear p8
    have HB8 := Lib.hid (HB7.out.trans (hw8.mono hz7))
    have HVV := Lib.hid (ownsN_belowR HV8.out hw8)
    clear q0 q1 q2 q3 hw8 GK GI GS GA GB
    have x0 := CX0.out _ HB8.out
    have x1 := CX1.out _ HB8.out
    have hz8 := HB8.out.size
    go_wp2_with fail
    have hg := HIG.out _ HB8.out
    rw [← HSAY2.out.1] at hg
    refine hg.mono ?_
    rintro x w9 ⟨rfl, hb9⟩
    have HB9 := Lib.hid (HB8.out.trans (hb9.mono hz8))
    have HVW := Lib.hid (ownsN_belowR HVV.out hb9)
    have hz9 := HB9.out.size
    clear hg hb9 x0 x1
    have y0 := CX0.out _ HB9.out
    have y1 := CX1.out _ HB9.out
    obtain ⟨kk, hkk⟩ : ∃ kk, kk = caseN D r key := ⟨_, rfl⟩
    have hck := HIK.out _ HB9.out
    rw [← hkk] at hck HSAY2
    go_wp2_with fail
    refine hck.mono ?_
    rintro x w10 ⟨rfl, hb10⟩
    have HB10 := Lib.hid (HB9.out.trans (hb10.mono hz9))
    have HVX := Lib.hid (ownsN_belowR HVW.out hb10)
    have hz10 := HB10.out.size
    clear hck hb10 y0 y1 hkk
    have x0 := CX0.out _ HB10.out
    have x1 := CX1.out _ HB10.out
    go_wp2_with fail
    have h9 := HSMALL.out
    go_loopw [23, 24, 181] (fun al _ ci wr => ∃ q : Nat, ci = .int .i64 q ∧ q ≤ D.size ∧ al = .int .i64 (testsT D q) ∧ Hid (RowKit.Below w10.heap.size w10 wr)) (fun _ _ ci _ => D.size - (intOf ci).toNat)
    case atStart => exact ⟨0, rfl, Nat.zero_le _, rfl, Below.refl _ _⟩
    case round =>
      obtain ⟨q, rfl, hq, rfl, HBr⟩ := hrel
      have HBR := Lib.hid (HB10.out.trans (HBr.out.mono hz10))
      have hzr := HBR.out.size
      have r0 := CX0.out _ HBR.out
      have r1 := CX1.out _ HBR.out
      have hbq := testsT_le D q
      by_cases hlt : q < D.size
      · have hqi : (q : Int) < (D.size : Int) := by omega
        have ht := HIT.out q _ HBR.out
        rw [testN_in HSW.out hlt] at ht
        have hcb := tcost_bounds D[q]!
        have hsum : testsT D (q + 1) = testsT D q + tcost D[q]! := rfl
        obtain ⟨c, hc⟩ : ∃ c, c = tcost D[q]! := ⟨_, rfl⟩
        rw [← hc] at ht hcb hsum
        obtain ⟨tq, htq⟩ : ∃ tq, tq = testsT D q := ⟨_, rfl⟩
        rw [← htq] at hbq hsum ⊢
        have HT := Lib.hid ht
        have HSUM := Lib.hid hsum
        clear ht hc htq hsum
        go_wp2_with fail
        refine HT.out.mono ?_
        rintro x wz ⟨rfl, hbz⟩
        have HBZ := Lib.hid (HBr.out.trans (hbz.mono HBr.out.size))
        clear hbz
        go_wp2_with fail
        go_roundw
        case rel => exact ⟨q + 1, by go_num, hlt, by rw [HSUM.out], HBZ.out⟩
        case measure => simp [intOf]; omega
      · have hqe : q = D.size := by omega
        subst hqe
        have HVR := Lib.hid (ownsN_belowR HVX.out HBr.out)
        rcases HSAY2.out.2 with ⟨hk1, hC⟩ | ⟨t, ht, hk1, hC, hRt⟩
        · subst hC
          subst hk1
          go_wp2_with fail
          go_ret
          exact ⟨rfl, HFIN.out _ HBR.out⟩
        · have hbd := HBD.out t ht
          have htR : t < R.length := (List.getElem?_eq_some_iff.1 hRt).1
          have htRi : (t : Int) < (R.length : Int) := by omega
          have ht0 : (0 : Int) ≤ (t : Int) := by omega
          rcases ownsN_rowB HVR.out with ⟨_, h0⟩ | ⟨g1, c1, hv1, hrow⟩
          · omega
          · subst hv1
            have hcell := hrow.cell t (by simpa using htR)
            have hval : R.toArray[t]! = (reachA D o)[t]! := by
              rw [getElem!_def]
              simp [hRt]
            rw [Nat.zero_add, hval, ← hC] at hcell
            rw [← hC] at hbd
            have htc := HIT.out t _ HBR.out
            rw [testN_in HSW.out ht] at htc
            obtain ⟨c, hc⟩ : ∃ c, c = tcost D[t]! := ⟨_, rfl⟩
            rw [← hc] at htc hbd
            obtain ⟨A, hA⟩ : ∃ A, A = testsT D D.size := ⟨_, rfl⟩
            rw [← hA] at hbd hbq ⊢
            have HT := Lib.hid htc
            have hg1 := hbd.1
            have hg2 := hbd.2
            subst hk1
            clear htc hc hA hC hrow hval hbd
            go_wp2_with (go_at_call 36; refine HT.out.mono ?_; rintro x wz ⟨rfl, hbz⟩; have HBZ := Lib.hid (HBR.out.trans (hbz.mono hzr)); clear hbz)
            go_ret
            exact ⟨rfl, HFIN.out _ HBZ.out⟩
end Go.Proofs.YtjmfcnblkojejaaDoor
