
/- The law FnRunPlan, walked. -/
import Derived.Test.YtjpcpiffffobcaaGreatDoorKsDrawP
import Derived.Test.YtjpcpiffffobcaaGreatDoorKsRunP
import Derived.Test.YtjpcpiffffobcaaGreatDoorKsKind
namespace Go.Proofs.YtjpcpiffffobcaaGreatDoor
open Go.RowKit Go.Shelf Go.Lib Go.Sort

theorem find_or8 (d : Array CaseD) (q : Array CluD) (key : Int) : (findQ d q key = -1 ∧ ∀ j, j < q.size → spanQ d q[j]! key = false) ∨ ∃ j, j < q.size ∧ findQ d q key = j ∧ spanQ d q[j]! key = true := by
  cases h : (List.range q.size).find? (fun j => spanQ d q[j]! key) with
  | none =>
    have hb : ∀ j, j < q.size → spanQ d q[j]! key = false := fun j hj => by
      have := (List.find?_eq_none.1 h) j (List.mem_range.2 hj)
      simpa using this
    exact .inl ⟨findQ_miss hb, hb⟩
  | some j =>
    have h1 := List.find?_some h
    have h2 := List.mem_range.1 (List.mem_of_find?_eq_some h)
    exact .inr ⟨j, h2, by rw [findQ, h], h1⟩
/-- What the law asks of a run that says true. -/
theorem runQ_says {d : Array CaseD} {rest : Int} {q : Array CluD} {key : Int} (h : runOkQ d rest q key = true) :
    targetN d rest key = runTQ d rest q key ∧ ((caseN d rest key = -1 ∧ runKQ d rest q key = -1 ∧ runTQ d rest q key = zS) ∨ (∃ j : Nat, j < q.size ∧ runKQ d rest q key = j ∧ (caseN d rest key = -1 ∨ ∃ c : Nat, c < d.size ∧ caseN d rest key = c ∧ q[j]!.first ≤ c ∧ (c : Int) ≤ q[j]!.last))) := by
  have h0 := h
  rw [runOkQ, Bool.and_eq_true] at h0
  obtain ⟨hp, hk⟩ := h0
  obtain ⟨h1, h2, h3⟩ := (planB_iff _ _ _).1 hp
  have hsw : swB d rest = true := (swB_iff _ _).2 h2
  have hok : okN d rest key = true := by rw [okN, hsw, hk]; rfl
  have hT : runTQ d rest q key = goesN d key := by rw [runTQ, if_pos h]
  have hK : runKQ d rest q key = findQ d q key := by rw [runKQ, if_pos h]
  have hC : caseN d rest key = atN d key := by rw [caseN, hsw]; rfl
  refine ⟨by rw [targetN, if_pos hok, hT], ?_⟩
  rw [hC, hK, hT]
  rcases find_or8 d q key with ⟨hm, hb⟩ | ⟨j, hj, hf, hs⟩
  · refine .inl ⟨?_, hm, goes_none8 hp hb⟩
    rcases atN_cases d key with ⟨c, hc, hat, hh, _⟩ | ⟨hat, _⟩
    · obtain ⟨i, hi, h4, h5⟩ := cover8 h1 c (by rw [h3]; omega)
      have h6 := hb i hi
      obtain ⟨_, a, b, ha, hb', _, hbk, hat', hbt⟩ := hasB8_inQ (priceN_has (h1 i hi).2)
      have m1 := low_mono h2 (a := a) (b := c) (by omega) hc
      have m2 := low_mono h2 (a := c) (b := b) (by omega) hbk
      simp only [hasB, decide_eq_true_eq] at hh
      rw [spanQ, hat', hbt, decide_eq_false_iff_not] at h6
      omega
    · exact hat
  · refine .inr ⟨j, hj, hf, ?_⟩
    rcases atN_cases d key with ⟨c, hc, hat, hh, _⟩ | ⟨hat, _⟩
    · refine .inr ⟨c, hc, hat, ?_⟩
      obtain ⟨_, a, b, ha, hb', hab, hbk, hat', hbt⟩ := hasB8_inQ (priceN_has (h1 j hj).2)
      rw [spanQ, hat', hbt, decide_eq_true_eq] at hs
      simp only [hasB, decide_eq_true_eq] at hh
      constructor
      · by_cases hca : c < a
        · have := h2.before hca (by omega)
          omega
        · omega
      · by_cases hbc : b < c
        · have := h2.before hbc hc
          omega
        · omega
    · exact .inl hat

set_option maxRecDepth 100000 in
set_option maxHeartbeats 8000000 in
theorem lawRpl_any (v u : Value) (m k : Nat) (w : World) (hb : BytesAt w.heap.size w v m) (hform : ∃ a c, v = .slice a m c) (hb2 : BytesAt w.heap.size w u k) (hform2 : ∃ a c, u = .slice a k c) (hE : ErrAt w) :
    Calls Tryz.prog 5 #[v, u] w fun x w' => x = .returned (.bool true) ∧ RowKit.Below w.heap.size w w' := by
  obtain ⟨av, cv, rfl⟩ := hform
  obtain ⟨au, cu, rfl⟩ := hform2
  by_cases hm : m ≤ 1048576
  case neg =>
    have hmi : (1048576 : Int) < (m : Int) := by omega
    clear hb hb2 hE
    go_enter Tryz.func5, Tryz.ntmps5
    go_wp2
    go_ret
    exact ⟨rfl, Below.refl _ _⟩
  by_cases hk : k ≤ 1048576
  case neg =>
    have hmi : ¬ (1048576 : Int) < (m : Int) := by omega
    have hki : (1048576 : Int) < (k : Int) := by omega
    clear hb hb2 hE
    go_enter Tryz.func5, Tryz.ntmps5
    go_wp2
    go_ret
    exact ⟨rfl, Below.refl _ _⟩
  have hmi : ¬ (1048576 : Int) < (m : Int) := by omega
  have hki : ¬ (1048576 : Int) < (k : Int) := by omega
  have HDR := Lib.hid (drawRunP_any _ m w hb hm)
  have HD2 := Lib.hid (fun W (hW : RowKit.Below w.heap.size w W) => drawKind_any _ k W (bytes_upQ hb2 hW) hk)
  have HE := Lib.hid hE
  clear hb hb2 hE
  go_enter Tryz.func5, Tryz.ntmps5
  go_wp2_with fail
  refine HDR.out.mono ?_
  rintro x w1 ⟨D, r, key, b, cap, pv, l, ⟨hs, hll, _⟩, rfl, ⟨hR, _, hcap, hmax⟩, ⟨hOL, hne⟩, hb1⟩
  obtain ⟨go, co, rfl⟩ : ∃ g c, pv = .slice (some ⟨g, 0, none⟩) l.length c := by
    rcases owns_formQ hOL with ⟨h, _⟩ | h
    · exact absurd h hne
    · exact h
  obtain ⟨q, hq⟩ : ∃ q, q = (l.map cluOf).toArray := ⟨_, rfl⟩
  have hlq : l.length = q.size := by rw [hq]; simp
  have hQ1 : RowQ w1 go 0 q := by rw [hq]; exact ownsQ_row hOL
  clear hOL hne hq
  rw [hlq] at hll
  simp only [hlq]
  obtain ⟨w2, hw2⟩ : ∃ w2, w2 = w1.alloc (.cells #[.slice (some ⟨b, 0, none⟩) D.size cap, .int .i64 r] 32) := ⟨_, rfl⟩
  have HBX := Lib.hid (show BoxS w2 w1.heap.size (.slice (some ⟨b, 0, none⟩) D.size cap) r by rw [hw2]; exact BoxS.new _ _ _)
  have HB2 := Lib.hid (show RowKit.Below w.heap.size w w2 by rw [hw2]; exact hb1.alloc hb1.size _)
  have hR2 : RowC w2 b 0 D := by rw [hw2]; exact hR.below ((Below.refl _ _).alloc (Nat.le_refl _) _)
  have hQ2 : RowQ w2 go 0 q := by rw [hw2]; exact hQ1.below ((Below.refl _ _).alloc (Nat.le_refl _) _)
  have hE2 := HE.out.below HB2.out
  have hqs : q.size ≤ 1048576 := by omega
  have hbl := HBX.out.lt
  have CX0 := Lib.hid (fun W (hW : RowKit.Below w2.heap.size w2 W) => (hW.cell (p := ⟨w1.heap.size, 0, none⟩) hbl).trans HBX.out.c0)
  have CX1 := Lib.hid (fun W (hW : RowKit.Below w2.heap.size w2 W) => (hW.cell (p := ⟨w1.heap.size, 1, none⟩) hbl).trans HBX.out.c1)
  have HIR := Lib.hid (fun W (hW : RowKit.Below w2.heap.size w2 W) => implRunP_any b 0 cap D r go 0 co q key W (hR2.below hW) (hE2.below hW) hcap hmax (hQ2.below hW) hqs)
  have HSR := Lib.hid (fun W (hW : RowKit.Below w2.heap.size w2 W) => specRunP_any b 0 cap D r go 0 co q key W (hR2.below hW) hcap hmax (hQ2.below hW) hqs)
  have HIG := Lib.hid (fun W (hW : RowKit.Below w2.heap.size w2 W) => implTarget_any b 0 cap D r key W (hR2.below hW) (hE2.below hW) hcap hmax)
  have HIK := Lib.hid (fun W (hW : RowKit.Below w2.heap.size w2 W) => implCase_any b 0 cap D r key W (hR2.below hW) (hE2.below hW) hcap hmax)
  have HQW := Lib.hid (fun W (hW : RowKit.Below w2.heap.size w2 W) => hQ2.below hW)
  have HE2 := Lib.hid (fun W (hW : RowKit.Below w2.heap.size w2 W) => hE2.below hW)
  have HW2 := Lib.hid hw2
  have b0 := HBX.out.c0
  have b1 := HBX.out.c1
  have hz2 : w.heap.size ≤ w2.heap.size := HB2.out.size
  have HFIN := Lib.hid (fun W (hW : RowKit.Below w2.heap.size w2 W) => HB2.out.trans (hW.mono hz2))
  have HSAY := Lib.hid (fun h : runOkQ D r q key = true => runQ_says h)
  have HOKN := Lib.hid (fun h : runOkQ D r q key = true => (show okN D r key = true by
    rw [runOkQ, Bool.and_eq_true] at h
    rw [okN, (swB_iff _ _).2 ((planB_iff _ _ _).1 h.1).2.1, h.2]
    rfl))
  obtain ⟨T, hT⟩ : ∃ T, T = runTQ D r q key := ⟨_, rfl⟩
  obtain ⟨C, hC⟩ : ∃ C, C = runKQ D r q key := ⟨_, rfl⟩
  obtain ⟨B, hBB⟩ : ∃ B, B = runOkQ D r q key := ⟨_, rfl⟩
  rw [← hT, ← hC, ← hBB] at HIR HSR HSAY
  rw [← hBB] at HOKN
  have HTT : (T.toList == T.toList) = true := beq_self_eq_true _
  clear hT hC hBB hw2 hR hR2 hQ1 hQ2 hE2 hb1 hs
  go_wp2_with fail
  rw [← HW2.out]
  refine (HIR.out _ (Below.refl _ _)).mono ?_
  rintro x w3 ⟨rfl, hb3⟩
  have HB3 := Lib.hid hb3
  have hz3 := hb3.size
  clear hb3 b0 b1
  have a0 := CX0.out _ HB3.out
  have a1 := CX1.out _ HB3.out
  go_wp2_with fail
  refine (HSR.out _ HB3.out).mono ?_
  rintro x w4 ⟨rfl, hb4⟩
  have HB4 := Lib.hid (HB3.out.trans (hb4.mono hz3))
  have hz4 := HB4.out.size
  clear hb4 a0 a1
  go_wp2_with fail
  refine (HD2.out _ (HFIN.out _ HB4.out)).mono ?_
  rintro x w6 ⟨D2, r2, f2, l2, b2, cap2, rfl, _, hR6, hcap2, hmax2, _, hb6⟩
  have HB6 := Lib.hid (HB4.out.trans (hb6.mono hz4))
  have hz6 := HB6.out.size
  obtain ⟨w7, hw7⟩ : ∃ w7, w7 = w6.alloc (.cells #[.slice (some ⟨b2, 0, none⟩) D2.size cap2, .int .i64 r2] 32) := ⟨_, rfl⟩
  have HBY := Lib.hid (show BoxS w7 w6.heap.size (.slice (some ⟨b2, 0, none⟩) D2.size cap2) r2 by rw [hw7]; exact BoxS.new _ _ _)
  have hb7 : RowKit.Below w6.heap.size w6 w7 := by rw [hw7]; exact (Below.refl _ _).alloc (Nat.le_refl _) _
  have HB7 := Lib.hid (show RowKit.Below w2.heap.size w2 w7 from HB6.out.trans (hb7.mono hz6))
  have hR7 : RowC w7 b2 0 D2 := hR6.below hb7
  have hyl := HBY.out.lt
  have hz7 := HB7.out.size
  have HW7 := Lib.hid hw7
  have HKI := Lib.hid (implKind_any b2 0 cap2 D2 r2 f2 l2 w7 hR7 (HE2.out _ HB7.out) hcap2 hmax2)
  have HKS := Lib.hid (fun W (hW : RowKit.Below w7.heap.size w7 W) => specKind_any b2 0 cap2 D2 r2 f2 l2 W (hR7.below hW) hcap2 hmax2)
  obtain ⟨KN, hKN⟩ : ∃ KN, KN = kindN D2 r2 f2 l2 := ⟨_, rfl⟩
  obtain ⟨KB, hKB⟩ : ∃ KB, KB = hasB8 D2 r2 f2 l2 := ⟨_, rfl⟩
  rw [← hKN, ← hKB] at HKI HKS
  have HKK : (KN.toList == KN.toList) = true := beq_self_eq_true _
  have y0 := HBY.out.c0
  have y1 := HBY.out.c1
  clear hw7 hR6 hR7 hb6 hb7 hKN hKB
  go_wp2_with fail
  rw [← HW7.out]
  refine HKI.out.mono ?_
  rintro x w8 ⟨rfl, hb8⟩
  have HB8 := Lib.hid hb8
  have z0 := (hb8.cell (p := ⟨w6.heap.size, 0, none⟩) hyl).trans y0
  have z1 := (hb8.cell (p := ⟨w6.heap.size, 1, none⟩) hyl).trans y1
  clear hb8 y0 y1
  go_wp2_with fail
  refine (HKS.out _ HB8.out).mono ?_
  rintro x w9 ⟨rfl, hb9⟩
  have HB9 := Lib.hid (HB7.out.trans ((HB8.out.trans (hb9.mono HB8.out.size)).mono hz7))
  have hz9 := HB9.out.size
  have hbb : (KB == KB) = true := beq_self_eq_true _
  clear hb9 z0 z1
  cases B
  · have hb0 : (false == false) = true := rfl
    go_wp2_with fail
    go_ret
    exact ⟨rfl, HFIN.out _ HB9.out⟩
  · have hb0 : (true == true) = true := rfl
    have a0 := CX0.out _ HB9.out
    have a1 := CX1.out _ HB9.out
    obtain ⟨hsT, hsK⟩ := HSAY.out rfl
    have hok := HOKN.out rfl
    have HSK := Lib.hid hsK
    have hg := HIG.out _ HB9.out
    rw [hsT, hok] at hg
    have HG := Lib.hid hg
    clear hsT hsK hg hok
    go_wp2_with fail
    refine HG.out.mono ?_
    rintro x w10 ⟨rfl, hb10⟩
    have HB10 := Lib.hid (HB9.out.trans (hb10.mono hz9))
    have hz10 := HB10.out.size
    clear hb10 a0 a1
    have a0 := CX0.out _ HB10.out
    have a1 := CX1.out _ HB10.out
    have hck := HIK.out _ HB10.out
    obtain ⟨kk, hkk⟩ : ∃ kk, kk = caseN D r key := ⟨_, rfl⟩
    rw [← hkk] at hck HSK
    have HCK := Lib.hid hck
    clear hck hkk
    go_wp2_with fail
    refine HCK.out.mono ?_
    rintro x w11 ⟨rfl, hb11⟩
    have HB11 := Lib.hid (HB10.out.trans (hb11.mono hz10))
    have HQ := Lib.hid (HQW.out _ HB11.out)
    clear hb11 a0 a1
    rcases HSK.out with ⟨hk1, hC1, hT1⟩ | ⟨j, hj, hC1, hc⟩
    · subst hk1
      subst hC1
      subst hT1
      have hzz : (zS.toList == [122]) = true := by first | rfl | (unfold zS; simp; done) | decide +kernel
      go_wp2_with fail
      go_ret
      exact ⟨rfl, HFIN.out _ HB11.out⟩
    · subst hC1
      have hj0 : (0 : Int) ≤ (j : Int) := by omega
      have hji : (j : Int) < (q.size : Int) := by omega
      rcases hc with hk1 | ⟨c, _, hk1, hc1, hc2⟩
      · subst hk1
        go_wp2_with fail
        go_ret
        exact ⟨rfl, HFIN.out _ HB11.out⟩
      · subst hk1
        have x0 := HQ.out.first j hj
        have x1 := HQ.out.last j hj
        have hc0 : ¬ (c : Int) < 0 := by omega
        obtain ⟨e, he⟩ : ∃ e, e = q[j]! := ⟨_, rfl⟩
        rw [← he, Nat.zero_add] at x0 x1
        rw [← he] at hc1 hc2
        clear he
        go_wp2_with fail
        go_ret
        exact ⟨rfl, HFIN.out _ HB11.out⟩
end Go.Proofs.YtjpcpiffffobcaaGreatDoor
