
/- The law FnDense, walked. -/
import Derived.Test.YtbbejkimgkpfkaaDoorKsDrawD
import Derived.Test.YtbbejkimgkpfkaaDoorKsDenseI
namespace Go.Proofs.YtbbejkimgkpfkaaDoor
open Go.RowKit Go.Shelf Go.Lib Go.Sort

/-- Of one case all keys have a case. -/
theorem one_dense {d : Array CaseD} {rest : Int} (h : SwOK d rest) {j : Nat} (hj : j < d.size) : densZ d d[j]!.low.toNat (d[j]!.high - d[j]!.low + 1).toNat = 100 := by
  have hc := h.case j hj
  have h1 := caseB_le hc
  have h2 := caseB_low hc
  have h3 := caseB_high hc
  obtain ⟨n, hn⟩ : ∃ n : Nat, (d[j]!.high - d[j]!.low + 1).toNat = n + 1 := ⟨(d[j]!.high - d[j]!.low).toNat, by omega⟩
  rw [hn]
  have hall : ∀ i, i < n + 1 → covB d (d[j]!.low.toNat + i) = true := fun i hi => by
    have := atN_in h hj (key := ((d[j]!.low.toNat + i : Nat) : Int)) (by simp only [hasB, decide_eq_true_eq]; omega)
    rw [covB, this]
    simp
  have hcnt : ∀ m, m ≤ n + 1 → cntK (fun i => covB d (d[j]!.low.toNat + i)) m = m := by
    intro m
    induction m with
    | zero => intro _; rfl
    | succ m ih =>
      intro hm
      rw [cntK, ih (by omega), hall m (by omega)]
      simp
  rw [densZ, hcnt _ (Nat.le_refl _), Int.mul_ediv_cancel _ (by omega)]
theorem run_single {d : Array CaseD} {rest pct : Int} (h : SwOK d rest) (hp : pctB pct = true) (h0 : 0 < d.size) : runOK d pct 0 1 := by
  simp only [pctB, decide_eq_true_eq] at hp
  have e : 0 + 1 - 1 = 0 := rfl
  rw [runOK, e, one_dense h h0]
  exact hp.2
theorem least_of {p : Nat → Prop} : ∀ n, p n → ∃ i, p i ∧ ∀ j, j < i → ¬ p j := fun n => by
  induction n using Nat.strongRecOn with
  | ind n ih =>
    intro hn
    by_cases h : ∃ j, j < n ∧ p j
    · obtain ⟨j, hj, hpj⟩ := h
      exact ih j hj hpj
    · exact ⟨n, hn, fun j hj hp => h ⟨j, hj, hp⟩⟩
theorem most_of {p : Nat → Prop} (N : Nat) (hN : ∀ n, p n → n ≤ N) : ∀ n, p n → ∃ s, p s ∧ ∀ t, s < t → ¬ p t := fun n hn => by
  obtain ⟨i, h1, h2⟩ := least_of (p := fun k => p (N - k)) (N - n) (by have := hN n hn; rw [show N - (N - n) = n by omega]; exact hn)
  refine ⟨N - i, h1, fun t ht hp => ?_⟩
  have := hN t hp
  exact h2 (N - t) (by omega) (by rw [show N - (N - t) = t by omega]; exact hp)
theorem best_ex {d : Array CaseD} {rest pct : Int} (h : SwOK d rest) (hp : pctB pct = true) (h0 : 0 < d.size) : ∃ i s, BestD d pct i s := by
  obtain ⟨s, ⟨hs1, i, hi, hr⟩, hmax⟩ := most_of (p := fun s => 1 ≤ s ∧ ∃ i, i + s ≤ d.size ∧ runOK d pct i s) d.size (fun n ⟨_, i, hi, _⟩ => by omega) 1 ⟨Nat.le_refl _, 0, by omega, run_single h hp h0⟩
  obtain ⟨j, ⟨hj, hrj⟩, hmin⟩ := least_of (p := fun i => i + s ≤ d.size ∧ runOK d pct i s) i ⟨hi, hr⟩
  exact ⟨j, s, hs1, hj, hrj, fun q hq hrq => hmin q hq ⟨by omega, hrq⟩, fun t q ht hqt hrq => hmax t ht ⟨by omega, q, hqt, hrq⟩⟩
theorem dense_two {d : Array CaseD} {rest pct : Int} : (denseN d rest pct = .tuple #[.int .i64 0, .int .i64 0, .bool false] ∧ ¬ (swB d rest = true ∧ pctB pct = true ∧ 0 < d.size)) ∨
    ∃ i s, swB d rest = true ∧ pctB pct = true ∧ BestD d pct i s ∧ denseN d rest pct = .tuple #[.int .i64 i, .int .i64 ((i : Int) + s - 1), .bool true] := by
  by_cases h : swB d rest = true ∧ pctB pct = true ∧ 0 < d.size
  · obtain ⟨i, s, hb⟩ := best_ex ((swB_iff _ _).1 h.1) h.2.1 h.2.2
    exact .inr ⟨i, s, h.1, h.2.1, hb, denseN_best h.1 h.2.1 hb⟩
  · refine .inl ⟨?_, h⟩
    by_cases h2 : swB d rest = true ∧ pctB pct = true
    · exact denseN_none fun t j h3 h4 => absurd ⟨h2.1, h2.2, by omega⟩ h
    · exact denseN_off h2
theorem densN_case {d : Array CaseD} {rest : Int} (h : SwOK d rest) {i k : Nat} (hik : i ≤ k) (hk : k < d.size) : densN d rest d[i]!.low d[k]!.high = densZ d d[i]!.low.toNat (d[k]!.high - d[i]!.low + 1).toNat := by
  have := case_span h (i := i) (s := k + 1 - i) (by omega) (by omega)
  rw [show i + (k + 1 - i) - 1 = k by omega] at this
  rw [densN, if_pos]
  simp only [tabB, Bool.and_eq_true]
  exact ⟨(swB_iff _ _).2 h, (rangeB_iff _ _).2 ⟨this.1, this.2.1, this.2.2⟩⟩

set_option maxRecDepth 100000 in
set_option maxHeartbeats 8000000 in
theorem lawDn_any (v : Value) (m : Nat) (w : World) (hb : BytesAt w.heap.size w v m) (hform : ∃ a c, v = .slice a m c) (hE : ErrAt w) :
    Calls Tryd.prog 5 #[v] w fun x w' => x = .returned (.bool true) ∧ RowKit.Below w.heap.size w w' := by
  obtain ⟨av, cv, rfl⟩ := hform
  by_cases hm : m ≤ 1048576
  · have HDR := Lib.hid (drawDense_any _ m w hb hm)
    have HE := Lib.hid hE
    have hmi : ¬ (1048576 : Int) < (m : Int) := by omega
    clear hb hE
    go_enter Tryd.func5, Tryd.ntmps5
    go_wp2_with fail
    refine HDR.out.mono ?_
    rintro x w1 ⟨D, r, key, b, cap, rfl, hR, hcap, hmax, hs, hb1⟩
    obtain ⟨w2, hw2⟩ : ∃ w2, w2 = w1.alloc (.cells #[.slice (some ⟨b, 0, none⟩) D.size cap, .int .i64 r] 25) := ⟨_, rfl⟩
    have HBX := Lib.hid (show BoxS w2 w1.heap.size (.slice (some ⟨b, 0, none⟩) D.size cap) r by rw [hw2]; exact BoxS.new _ _ _)
    have HB2 := Lib.hid (show RowKit.Below w.heap.size w w2 by rw [hw2]; exact hb1.alloc hb1.size _)
    have hR2 : RowC w2 b 0 D := by rw [hw2]; exact hR.below ((Below.refl _ _).alloc (Nat.le_refl _) _)
    have hE2 := HE.out.below HB2.out
    have hbl := HBX.out.lt
    have CX0 := Lib.hid (fun W (hW : RowKit.Below w2.heap.size w2 W) => (hW.cell (p := ⟨w1.heap.size, 0, none⟩) hbl).trans HBX.out.c0)
    have CX1 := Lib.hid (fun W (hW : RowKit.Below w2.heap.size w2 W) => (hW.cell (p := ⟨w1.heap.size, 1, none⟩) hbl).trans HBX.out.c1)
    have HID := Lib.hid (fun W (hW : RowKit.Below w2.heap.size w2 W) => implDense_any b 0 cap D r key W (hR2.below hW) (hE2.below hW) hcap hmax)
    have HSD := Lib.hid (fun W (hW : RowKit.Below w2.heap.size w2 W) => specDense_any b 0 cap D r key W (hR2.below hW) hcap hmax)
    have HDN := Lib.hid (fun lo hi W (hW : RowKit.Below w2.heap.size w2 W) => implDens_any b 0 cap D r lo hi W (hR2.below hW) (hE2.below hW) hcap hmax)
    have HSV := Lib.hid (fun W (hW : RowKit.Below w2.heap.size w2 W) => switchValid_any b 0 cap D r W (hR2.below hW) (hE2.below hW) hcap hmax)
    have HR2 := Lib.hid hR2
    have HSM := Lib.hid hs
    have HW2 := Lib.hid hw2
    have b0 := HBX.out.c0
    have b1 := HBX.out.c1
    have hz2 : w.heap.size ≤ w2.heap.size := HB2.out.size
    clear hw2 hR hR2 hE2 hb1 hs
    go_wp2_with fail
    rw [← HW2.out]
    refine (HID.out _ (Below.refl _ _)).mono ?_
    rintro x w3 ⟨rfl, hb3⟩
    have HB3 := Lib.hid hb3
    have a0 := CX0.out _ HB3.out
    have a1 := CX1.out _ HB3.out
    have hz3 := hb3.size
    clear hb3 b0 b1
    rcases dense_two (d := D) (rest := r) (pct := key) with ⟨hdn, hno⟩ | ⟨i, s, hsw, hpc, hbest, hdn⟩
    · rw [hdn] at HSD ⊢
      have HNO := Lib.hid hno
      clear hno
      go_wp2_with fail
      refine (HSD.out _ HB3.out).mono ?_
      rintro x w4 ⟨rfl, hb4⟩
      have HB4 := Lib.hid (HB3.out.trans (hb4.mono hz3))
      have b0 := CX0.out _ HB4.out
      have b1 := CX1.out _ HB4.out
      have hz4 := HB4.out.size
      have HSV4 := Lib.hid (HSV.out _ HB4.out)
      clear hb4 a0 a1 hdn
      have HFIN := Lib.hid (fun W (hW : RowKit.Below w2.heap.size w2 W) => HB2.out.trans (hW.mono hz2))
      cases hsw : swB D r
      · rw [hsw] at HSV4
        go_wp2_with (go_at_call 35; (with_reducible refine HSV4.out.mono ?_); rintro _ w5 ⟨rfl, hb5⟩; have HB5 := Lib.hid (HB4.out.trans (hb5.mono hz4)); clear hb5)
        go_ret
        exact ⟨rfl, HFIN.out _ HB5.out⟩
      · rw [hsw] at HSV4
        have hor : key < 0 ∨ 100 < key ∨ D.size = 0 := by
          have := HNO.out
          simp only [pctB, decide_eq_true_eq, hsw, true_and] at this
          omega
        have HB5b := Lib.hid (fun W (hW : RowKit.Below w4.heap.size w4 W) => CX0.out _ (HB4.out.trans (hW.mono hz4)))
        by_cases k0 : key < 0
        · go_wp2_with (go_at_call 35; (with_reducible refine HSV4.out.mono ?_); rintro _ w5 ⟨rfl, hb5⟩; have HB5 := Lib.hid (HB4.out.trans (hb5.mono hz4)); clear hb5)
          go_ret
          exact ⟨rfl, HFIN.out _ HB5.out⟩
        · by_cases k1 : 100 < key
          · go_wp2_with (go_at_call 35; (with_reducible refine HSV4.out.mono ?_); rintro _ w5 ⟨rfl, hb5⟩; have HB5 := Lib.hid (HB4.out.trans (hb5.mono hz4)); clear hb5)
            go_ret
            exact ⟨rfl, HFIN.out _ HB5.out⟩
          · have hd0 : D.size = 0 := by omega
            have hdi : ((D.size : Nat) : Int) = 0 := by omega
            have HD0 := Lib.hid hd0
            clear hd0 hor
            go_wp2_with (go_at_call 35; (with_reducible refine HSV4.out.mono ?_); rintro _ w5 ⟨rfl, hb5⟩; have HB5 := Lib.hid (HB4.out.trans (hb5.mono hz4)); have e0 := HB5b.out _ hb5; clear hb5)
            go_ret
            exact ⟨rfl, HFIN.out _ HB5.out⟩
    · obtain ⟨e, he⟩ : ∃ e : Nat, i + s = e + 1 := ⟨i + s - 1, by have := hbest.1; omega⟩
      have hei : (i : Int) + (s : Int) - 1 = (e : Int) := by omega
      rw [hei] at hdn
      rw [hdn] at HSD ⊢
      have HO := Lib.hid ((swB_iff _ _).1 hsw)
      have HBS := Lib.hid hbest
      have HE2 := Lib.hid he
      have h8 : (D.size : Int) ≤ 8 := by have := HO.out.size; omega
      have hie : (i : Int) ≤ (e : Int) := by have := hbest.1; omega
      have hed : (e : Int) < (D.size : Int) := by have := hbest.2.1; omega
      have HFIN := Lib.hid (fun W (hW : RowKit.Below w2.heap.size w2 W) => HB2.out.trans (hW.mono hz2))
      clear hbest hei hdn hsw hpc he
      go_wp2_with fail
      refine (HSD.out _ HB3.out).mono ?_
      rintro x w4 ⟨rfl, hb4⟩
      have HB4 := Lib.hid (HB3.out.trans (hb4.mono hz3))
      have b0 := CX0.out _ HB4.out
      have b1 := CX1.out _ HB4.out
      have hz4 := HB4.out.size
      clear hb4 a0 a1
      go_wp2_with fail
      clear b0 b1
      go_loopw [88] (fun c wr => ∃ p : Nat, c = .int .i64 p ∧ p ≤ D.size ∧ Hid (RowKit.Below w2.heap.size w2 wr)) (fun c _ => D.size - (intOf c).toNat)
      case atStart => exact ⟨0, rfl, Nat.zero_le _, HB4⟩
      case round =>
        obtain ⟨p, rfl, hp, HBr⟩ := hrel
        have r0 := CX0.out _ HBr.out
        have r1 := CX1.out _ HBr.out
        by_cases hlt : p < D.size
        · have hpi : (p : Int) < (D.size : Int) := by omega
          go_wp2_with fail
          clear r0 r1
          obtain ⟨wo, rfl⟩ : ∃ wo, wo = wr := ⟨_, rfl⟩
          go_loopw [12] (fun c wr => ∃ k : Nat, c = .int .i64 k ∧ p ≤ k ∧ k ≤ D.size ∧ Hid (RowKit.Below w2.heap.size w2 wr)) (fun c _ => D.size - (intOf c).toNat)
          case atStart => exact ⟨p, rfl, Nat.le_refl _, hp, HBr⟩
          case round =>
            obtain ⟨k, rfl, hpk, hk, HBk⟩ := hrel
            have r0 := CX0.out _ HBk.out
            have r1 := CX1.out _ HBk.out
            have hzk := HBk.out.size
            by_cases hlk : k < D.size
            · have hki : (k : Int) < (D.size : Int) := by omega
              have hRk := HR2.out.below HBk.out
              have x0 := hRk.low p hlt
              have x1 := hRk.high k hlk
              have hbs := hRk.old
              simp only [Nat.zero_add] at x0 x1
              have HQ := Lib.hid (show runOK D key p (k + 1 - p) ↔ key ≤ densN D r D[p]!.low D[k]!.high by
                rw [densN_case HO.out hpk hlk, runOK, show p + (k + 1 - p) - 1 = k by omega])
              obtain ⟨lo, hlo⟩ : ∃ lo, lo = D[p]!.low := ⟨_, rfl⟩
              obtain ⟨hh, hhe⟩ : ∃ hh, hh = D[k]!.high := ⟨_, rfl⟩
              rw [← hlo] at x0 HQ
              rw [← hhe] at x1 HQ
              have hcall := fun W (hW : RowKit.Below wr.heap.size wr W) => HDN.out lo hh W (HBk.out.trans (hW.mono hzk))
              obtain ⟨z, hz⟩ : ∃ z, z = densN D r lo hh := ⟨_, rfl⟩
              rw [← hz] at HQ hcall
              have HCALL := Lib.hid hcall
              have hbl2 : w1.heap.size < wr.heap.size := by omega
              have q0 := fun p : BW wr => p.cell (a := ⟨w1.heap.size, 0, none⟩) hbl2 r0
              have q1 := fun p : BW wr => p.cell (a := ⟨w1.heap.size, 1, none⟩) hbl2 r1
              have q2 := fun q : BW wr => q.cell (a := ⟨b, p * 4, none⟩) hbs x0
              have q3 := fun q : BW wr => q.cell (a := ⟨b, k * 4 + 1, none⟩) hbs x1
              clear hz hlo hhe hcall hRk x0 x1
              go_wp2_with fail
              clear r0 r1
              refine wp_region_bw (by kernel_rfl) (by kernel_rfl) ?_
              repeat (go_big_quiet_step (((go_at_call 25; refine bw_of (HCALL.out _ (BW.h _))))))
              refine wpQuiet_nil ?_
              rintro _ ⟨q, rfl⟩
              have HQ2 := Lib.hid (HBk.out.trans (q.h.mono hzk))
              clear q0 q1 q2 q3
              have hk8 : (k : Int) ≤ 8 := by omega
              have hp8 : (p : Int) ≤ 8 := by omega
              have he8 : (e : Int) ≤ 8 := by omega
              have hi8 : (i : Int) ≤ 8 := by omega
              by_cases hq : key ≤ z
              · have hrun := HQ.out.2 hq
                have hle : k + 1 - p ≤ s := by
                  by_cases hs2 : s < k + 1 - p
                  · exact absurd hrun (HBS.out.2.2.2.2 _ p hs2 (by omega))
                  · omega
                by_cases hs3 : k + 1 - p = s
                · have hpi2 : ¬ p < i := fun h => HBS.out.2.2.2.1 p h (hs3 ▸ hrun)
                  have g1 : (k : Int) - (p : Int) = (e : Int) - (i : Int) := by have := HE2.out; omega
                  have G1 := Lib.hid g1
                  have g2 : ¬ (p : Int) < (i : Int) := by omega
                  have g3 : ¬ (e : Int) - (i : Int) < (k : Int) - (p : Int) := by omega
                  have g4 : (((k : Int) - (p : Int)) == ((e : Int) - (i : Int))) = true := by simpa using g1
                  clear g1 hs3 hrun hle
                  go_wp2_with fail
                  go_roundw
                  case rel => exact ⟨k + 1, by go_num, by omega, by omega, HQ2⟩
                  case measure => simp [intOf]; omega
                · have g3 : ¬ (e : Int) - (i : Int) < (k : Int) - (p : Int) := by have := HE2.out; omega
                  have g4 : (((k : Int) - (p : Int)) == ((e : Int) - (i : Int))) = false := by
                    have := HE2.out
                    simp only [beq_eq_false_iff_ne, ne_eq]
                    omega
                  clear hs3 hrun hle
                  go_wp2_with fail
                  go_roundw
                  case rel => exact ⟨k + 1, by go_num, by omega, by omega, HQ2⟩
                  case measure => simp [intOf]; omega
              · go_wp2_with fail
                go_roundw
                case rel => exact ⟨k + 1, by go_num, by omega, by omega, HQ2⟩
                case measure => simp [intOf]; omega
            · have hki : ¬ (k : Int) < (D.size : Int) := by omega
              go_wp2_with fail
              go_roundw
              case rel => exact ⟨p + 1, by go_num, by omega, HBk⟩
              case measure => simp [intOf]; omega
        · have hpi : ¬ (p : Int) < (D.size : Int) := by omega
          go_wp2_with fail
          have hRr := HR2.out.below HBr.out
          have hzr := HBr.out.size
          have hiD : i < D.size := by omega
          have heD : e < D.size := by omega
          have x0 := hRr.low i hiD
          have x1 := hRr.high e heD
          have hbs := hRr.old
          simp only [Nat.zero_add] at x0 x1
          have HQ := Lib.hid (show key ≤ densN D r D[i]!.low D[e]!.high by
            have h1 := HBS.out.2.2.1
            rw [runOK, show i + s - 1 = e by have := HE2.out; omega] at h1
            rw [densN_case HO.out (by omega) heD]
            exact h1)
          obtain ⟨lo, hlo⟩ : ∃ lo, lo = D[i]!.low := ⟨_, rfl⟩
          obtain ⟨hh, hhe⟩ : ∃ hh, hh = D[e]!.high := ⟨_, rfl⟩
          rw [← hlo] at x0 HQ
          rw [← hhe] at x1 HQ
          have hcall := fun W (hW : RowKit.Below wr.heap.size wr W) => HDN.out lo hh W (HBr.out.trans (hW.mono hzr))
          obtain ⟨z, hz⟩ : ∃ z, z = densN D r lo hh := ⟨_, rfl⟩
          rw [← hz] at HQ hcall
          have HCALL := Lib.hid hcall
          have hbl2 : w1.heap.size < wr.heap.size := by omega
          have q0 := fun p : BW wr => p.cell (a := ⟨w1.heap.size, 0, none⟩) hbl2 r0
          have q1 := fun p : BW wr => p.cell (a := ⟨w1.heap.size, 1, none⟩) hbl2 r1
          have q2 := fun q : BW wr => q.cell (a := ⟨b, i * 4, none⟩) hbs x0
          have q3 := fun q : BW wr => q.cell (a := ⟨b, e * 4 + 1, none⟩) hbs x1
          have hii : (i : Int) < (D.size : Int) := by omega
          have hgd : decide ((i : Int) ≤ (e : Int)) = true := by simpa using hie
          clear hz hlo hhe hcall hRr x0 x1 r0 r1
          refine wp_region_bw (by kernel_rfl) (by kernel_rfl) ?_
          repeat (go_big_quiet_step (((go_at_call 25; refine bw_of (HCALL.out _ (BW.h _))))))
          refine wpQuiet_nil ?_
          rintro _ ⟨q, rfl⟩
          have HQ2 := Lib.hid (HBr.out.trans (q.h.mono hzr))
          have hkz : key ≤ z := HQ.out
          clear q0 q1 q2 q3
          go_wp2_with fail

          go_ret
          exact ⟨by simp [hkz], HFIN.out _ HQ2.out⟩
  · have hmi : (1048576 : Int) < (m : Int) := by omega
    have HB := Lib.hid (RowKit.Below.refl w.heap.size w)
    go_enter Tryd.func5, Tryd.ntmps5
    go_wp2_with fail
    go_ret
    exact ⟨rfl, HB.out⟩
end Go.Proofs.YtbbejkimgkpfkaaDoor
