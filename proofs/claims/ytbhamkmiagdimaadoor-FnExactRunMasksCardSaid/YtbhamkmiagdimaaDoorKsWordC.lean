
/- MasksCost: the model's and the program's. -/
import Derived.Test.YtbhamkmiagdimaaDoorKsWordM
import Derived.Test.YtbhamkmiagdimaaDoorKsWordJ
import Derived.IntWalk
namespace Go.Proofs.YtbhamkmiagdimaaDoor
open Go.RowKit Go.Shelf Go.Lib Go.Sort

/-- The cost behind k words. -/
def costW (d : Array CaseD) (rest : Int) (s : ByteArray) : Nat → Int
  | 0 => rest * s.size
  | k + 1 => costW d rest s k + wgtT d rest (byteN s k : Int) * ((k : Int) + 1)
theorem mul_range {g : Int} {k : Nat} (h0 : 0 ≤ g) (h1 : g ≤ 800) (hk : k < 8) : 0 ≤ g * ((k : Int) + 1) ∧ g * ((k : Int) + 1) ≤ 6400 := by
  constructor
  · exact Int.mul_nonneg h0 (by omega)
  · have := Int.mul_le_mul h1 (show (k : Int) + 1 ≤ 8 by omega) (by omega) (by omega)
    omega
theorem costW_le {d : Array CaseD} {rest : Int} (h : SwOK d rest) (s : ByteArray) (hs : s.size ≤ 8) : ∀ k, k ≤ s.size → 0 ≤ costW d rest s k ∧ costW d rest s k ≤ 800 + 6400 * k
  | 0, _ => by
    have h3 := h.rest
    simp only [wgtB, decide_eq_true_eq] at h3
    unfold costW
    constructor
    · exact Int.mul_nonneg h3.1 (by omega)
    · have := Int.mul_le_mul h3.2 (show (s.size : Int) ≤ 8 by omega) (by omega) (by omega)
      omega
  | k + 1, hk => by
    have ih := costW_le h s hs k (by omega)
    have hw := wgtT_le h (byteN s k : Int)
    have := mul_range hw.1 hw.2 (show k < 8 by omega)
    simp only [costW]
    omega
noncomputable def mcostB (d : Array CaseD) (rest : Int) (s : ByteArray) : Bool := swB d rest && ordWB d s
noncomputable def mcostN (d : Array CaseD) (rest : Int) (s : ByteArray) : Int := if mcostB d rest s = true then costW d rest s s.size else -1
theorem ordW_small {d : Array CaseD} {s : ByteArray} (h : OrdW d s) : s.size ≤ 8 := by
  have := h.1
  have := lettersTo_length d 8
  omega
theorem extract_size1 {s : ByteArray} {k : Nat} (hk : k < s.size) : (s.extract k (k + 1)).size = 1 := by
  rw [ByteArray.size_extract]
  omega
theorem extract_tg {s : ByteArray} {k : Nat} (hk : k < s.size) : tg0 (s.extract k (k + 1)) = (byteN s k : Int) := by
  have h1 := extract_size1 hk
  have h0 : 0 < (s.extract k (k + 1)).size := by omega
  rw [tg0, dif_pos h0, ← byteN_get hk]
  congr 2
  rw [ByteArray.getElem_extract]
  simp

set_option maxRecDepth 100000 in
set_option maxHeartbeats 1000000 in
theorem specMCost_any (b off cap : Nat) (d : Array CaseD) (rest : Int) (s : ByteArray) (w : World) (hR : RowC w b off d) (hcap : d.size ≤ cap) (hmax : cap ≤ maxLen) (hs : s.size ≤ 1048576) :
    Calls Tryd.prog 28 #[.agg #[.slice (some ⟨b, off, none⟩) d.size cap, .int .i64 rest], .string s] w fun x w' => x = .returned (.int .i64 (mcostN d rest s)) ∧ RowKit.Below w.heap.size w w' := by
  have hv := fun W (hW : RowKit.Below w.heap.size w W) => specValid_any b off cap d rest W (hR.below hW) hcap hmax
  have HM := Lib.hid (fun ho (t : ByteArray) ht W (hW : RowKit.Below w.heap.size w W) => l7Weight_any b off cap d rest t W (hR.below hW) ho ht)
  have hot := fun ho W (hW : RowKit.Below w.heap.size w W) => l7Order_any b off cap d rest s W (hR.below hW) ho hs
  have hsi : (s.size : Int) ≤ 1048576 := by omega
  obtain ⟨wa, hwa⟩ : ∃ wa, wa = w.alloc (.cells #[.slice (some ⟨b, off, none⟩) d.size cap, .int .i64 rest] 32) := ⟨_, rfl⟩
  have c0 : wa.cell? ⟨w.heap.size, 0, none⟩ = some (.slice (some ⟨b, off, none⟩) d.size cap) := by rw [hwa]; simp
  have c1 : wa.cell? ⟨w.heap.size, 1, none⟩ = some (.int .i64 rest) := by rw [hwa]; simp
  have hz : w.heap.size < wa.heap.size := by rw [hwa]; simp
  have hba : RowKit.Below w.heap.size w wa := by rw [hwa]; exact (Below.refl _ _).alloc (Nat.le_refl _) _
  have HA := Lib.hid hba
  have C0 := Lib.hid c0
  have C1 := Lib.hid c1
  have HWA := Lib.hid hwa
  clear hba c0 c1 hwa hR
  cases hsw : swB d rest
  · rw [hsw] at hv
    have HV := Lib.hid hv
    have HS := Lib.hid hsw
    have a0 := C0.out
    have a1 := C1.out
    clear hv hsw hot
    go_enter Tryd.func28, Tryd.ntmps28
    go_wp2_with fail
    rw [← HWA.out]
    refine (HV.out _ HA.out).mono ?_
    rintro x w1 ⟨rfl, hb⟩
    have HB := Lib.hid (HA.out.trans (hb.mono HA.out.size))
    clear hb a0 a1
    go_wp2_with fail
    go_ret
    exact ⟨retI (by simp [mcostN, mcostB, HS.out]), HB.out⟩
  · have hot2 := hot ((swB_iff _ _).1 hsw)
    rw [hsw] at hv
    cases hor : ordWB d s
    all_goals
      rw [hor] at hot2
      have HV := Lib.hid hv
      have HS := Lib.hid hsw
      have HOR := Lib.hid hor
      have HOT := Lib.hid hot2
      have a0 := C0.out
      have a1 := C1.out
      clear hv hsw hot hot2 hor
      go_enter Tryd.func28, Tryd.ntmps28
      go_wp2_with fail
      rw [← HWA.out]
      refine (HV.out _ HA.out).mono ?_
      rintro x w1 ⟨rfl, hb⟩
      have HB := Lib.hid (HA.out.trans (hb.mono HA.out.size))
      have HBA := Lib.hid hb
      have b0 := (hb.cell (p := ⟨w.heap.size, 0, none⟩) hz).trans C0.out
      have b1 := (hb.cell (p := ⟨w.heap.size, 1, none⟩) hz).trans C1.out
      clear hb a0 a1
      go_wp2_with fail
      refine (HOT.out _ HB.out).mono ?_
      rintro x w2 ⟨rfl, hb⟩
      have HB2 := Lib.hid (HB.out.trans (hb.mono HB.out.size))
      have HBA2 := Lib.hid (HBA.out.trans (hb.mono HBA.out.size))
      have b0 := (HBA2.out.cell (p := ⟨w.heap.size, 0, none⟩) hz).trans C0.out
      have b1 := (HBA2.out.cell (p := ⟨w.heap.size, 1, none⟩) hz).trans C1.out
      clear hb
    · go_wp2_with fail
      go_ret
      exact ⟨retI (by simp [mcostN, mcostB, HS.out, HOR.out]), HB2.out⟩
    · have HO := Lib.hid ((swB_iff _ _).1 HS.out)
      have HW := Lib.hid ((ordWB_iff _ _).1 HOR.out)
      have hs8 := ordW_small HW.out
      have hs8i : (s.size : Int) ≤ 8 := by omega
      have hc0 := costW_le HO.out s hs8 0 (by omega)
      simp only [costW] at hc0
      have hmw : IntKind.i64.wrap (rest * (s.size : Int)) = rest * (s.size : Int) := IntWalk.i64_in _ (by omega)
      clear hc0
      go_wp2_with fail
      go_loopw [5, 23] (fun v i wr => ∃ k : Nat, i = .int .i64 k ∧ k ≤ s.size ∧ v = .int .i64 (costW d rest s k) ∧ Hid (RowKit.Below wa.heap.size wa wr)) (fun _ i _ => s.size - (intOf i).toNat)
      case atStart => exact ⟨0, rfl, Nat.zero_le _, rfl, HBA2.out⟩
      case round =>
        obtain ⟨k, rfl, hk, rfl, HR3⟩ := hrel
        have HWW := Lib.hid (HA.out.trans (HR3.out.mono HA.out.size))
        by_cases hlt : k < s.size
        · have hki : (k : Int) < (s.size : Int) := by omega
          have hcl := costW_le HO.out s hs8 k (by omega)
          have hwl := wgtT_le HO.out (byteN s k : Int)
          have hml := mul_range hwl.1 hwl.2 (show k < 8 by omega)
          have HSTEP := Lib.hid (show costW d rest s (k + 1) = costW d rest s k + wgtT d rest (byteN s k : Int) * ((k : Int) + 1) from rfl)
          have zr : w.heap.size < wr.heap.size := by have := HR3.out.size; omega
          have q0 := fun p : BW wr => p.cell zr ((HR3.out.cell (p := ⟨w.heap.size, 0, none⟩) hz).trans C0.out)
          have q1 := fun p : BW wr => p.cell zr ((HR3.out.cell (p := ⟨w.heap.size, 1, none⟩) hz).trans C1.out)
          have gc := fun p : BW wr => HM.out HO.out (s.extract k (k + 1)) (extract_size1 hlt) p.W (HWW.out.trans (p.h.mono HWW.out.size))
          rw [extract_tg hlt] at gc
          obtain ⟨g, hg⟩ : ∃ g, g = wgtT d rest (byteN s k : Int) := ⟨_, rfl⟩
          rw [← hg] at gc HSTEP hwl hml
          obtain ⟨m, hm⟩ : ∃ m, m = costW d rest s k := ⟨_, rfl⟩
          rw [← hm] at HSTEP hcl ⊢
          clear hg hm
          have GC := Lib.hid gc
          clear gc
          rw [Int.mul_comm] at hml
          have hw2 : IntKind.i64.wrap (((k : Int) + 1) * g) = ((k : Int) + 1) * g := IntWalk.i64_in _ (by omega)
          have hw3 : IntKind.i64.wrap (m + ((k : Int) + 1) * g) = m + ((k : Int) + 1) * g := IntWalk.i64_in _ (by omega)
          clear hml hcl hwl
          go_wp2_with fail
          refine wp_region_bw (by kernel_rfl) (by kernel_rfl) ?_
          repeat (go_big_quiet_step (with_reducible refine bw_of (GC.out _)))
          refine wpQuiet_nil ?_
          rintro _ ⟨⟨W', hBW⟩, rfl⟩
          have HBW := Lib.hid (HR3.out.trans (hBW.mono HR3.out.size))
          clear hBW
          go_wp2_with fail
          go_roundw
          case rel => exact ⟨k + 1, by go_num, by omega, by rw [HSTEP.out, Int.mul_comm], HBW.out⟩
          case measure => simp [intOf]; omega
        · have hke : k = s.size := by omega
          subst hke
          go_wp2_with fail
          go_ret
          exact ⟨retI (by simp [mcostN, mcostB, HS.out, HOR.out]), HWW.out⟩

set_option maxRecDepth 100000 in
set_option maxHeartbeats 1000000 in
theorem implMCost_any (b off cap : Nat) (d : Array CaseD) (rest : Int) (s : ByteArray) (w : World) (hR : RowC w b off d) (hE : ErrAt w) (hcap : d.size ≤ cap) (hmax : cap ≤ maxLen) (hs : s.size ≤ 1048576) :
    Calls Tryd.prog 29 #[.agg #[.slice (some ⟨b, off, none⟩) d.size cap, .int .i64 rest], .string s] w fun x w' => x = .returned (.int .i64 (mcostN d rest s)) ∧ RowKit.Below w.heap.size w w' := by
  have ho := fun W (hW : RowKit.Below w.heap.size w W) => isWordOrder_any b off cap d rest s W (hR.below hW) (hE.below hW) hcap hmax hs
  have HM := Lib.hid (fun ho (c : UInt8) W (hW : RowKit.Below w.heap.size w W) => weightOf_any b off cap d rest c W (hR.below hW) ho)
  have hsi : (s.size : Int) ≤ 1048576 := by omega
  obtain ⟨wa, hwa⟩ : ∃ wa, wa = w.alloc (.cells #[.slice (some ⟨b, off, none⟩) d.size cap, .int .i64 rest] 32) := ⟨_, rfl⟩
  have c0 : wa.cell? ⟨w.heap.size, 0, none⟩ = some (.slice (some ⟨b, off, none⟩) d.size cap) := by rw [hwa]; simp
  have c1 : wa.cell? ⟨w.heap.size, 1, none⟩ = some (.int .i64 rest) := by rw [hwa]; simp
  have hz : w.heap.size < wa.heap.size := by rw [hwa]; simp
  have hba : RowKit.Below w.heap.size w wa := by rw [hwa]; exact (Below.refl _ _).alloc (Nat.le_refl _) _
  have HA := Lib.hid hba
  have C0 := Lib.hid c0
  have C1 := Lib.hid c1
  have HWA := Lib.hid hwa
  clear hba c0 c1 hwa hR hE
  have HMB := Lib.hid (show mcostB d rest s = (swB d rest && ordWB d s) from rfl)
  cases hq : (swB d rest && ordWB d s)
  all_goals
    rw [hq] at ho HMB
    have HV := Lib.hid ho
    have HQ := Lib.hid hq
    have a0 := C0.out
    have a1 := C1.out
    clear ho hq
    go_enter Tryd.func29, Tryd.ntmps29
    go_wp2_with fail
    rw [← HWA.out]
    refine (HV.out _ HA.out).mono ?_
    rintro x w1 ⟨rfl, hb⟩
    have HB := Lib.hid (HA.out.trans (hb.mono HA.out.size))
    have HBA := Lib.hid hb
    have b0 := (hb.cell (p := ⟨w.heap.size, 0, none⟩) hz).trans C0.out
    have b1 := (hb.cell (p := ⟨w.heap.size, 1, none⟩) hz).trans C1.out
    clear hb a0 a1
  · go_wp2_with fail
    go_ret
    exact ⟨retI (by rw [mcostN, if_neg (by rw [HMB.out]; exact Bool.false_ne_true)]), HB.out⟩
  · have hq2 := HQ.out
    rw [Bool.and_eq_true] at hq2
    have HO := Lib.hid ((swB_iff _ _).1 hq2.1)
    have HW := Lib.hid ((ordWB_iff _ _).1 hq2.2)
    clear hq2
    have hs8 := ordW_small HW.out
    have hs8i : (s.size : Int) ≤ 8 := by omega
    have hc0 := costW_le HO.out s hs8 0 (by omega)
    simp only [costW] at hc0
    have hmw : IntKind.i64.wrap (rest * (s.size : Int)) = rest * (s.size : Int) := IntWalk.i64_in _ (by omega)
    clear hc0
    go_wp2_with fail
    go_loopw [5, 18] (fun v i wr => ∃ k : Nat, i = .int .i64 k ∧ k ≤ s.size ∧ v = .int .i64 (costW d rest s k) ∧ Hid (RowKit.Below wa.heap.size wa wr)) (fun _ i _ => s.size - (intOf i).toNat)
    case atStart => exact ⟨0, rfl, Nat.zero_le _, rfl, HBA.out⟩
    case round =>
      obtain ⟨k, rfl, hk, rfl, HR3⟩ := hrel
      have HWW := Lib.hid (HA.out.trans (HR3.out.mono HA.out.size))
      by_cases hlt : k < s.size
      · have hki : (k : Int) < (s.size : Int) := by omega
        have hcl := costW_le HO.out s hs8 k (by omega)
        have hwl := wgtT_le HO.out (byteN s k : Int)
        have hml := mul_range hwl.1 hwl.2 (show k < 8 by omega)
        have HSTEP := Lib.hid (show costW d rest s (k + 1) = costW d rest s k + wgtT d rest (byteN s k : Int) * ((k : Int) + 1) from rfl)
        have zr : w.heap.size < wr.heap.size := by have := HR3.out.size; omega
        have q0 := fun p : BW wr => p.cell zr ((HR3.out.cell (p := ⟨w.heap.size, 0, none⟩) hz).trans C0.out)
        have q1 := fun p : BW wr => p.cell zr ((HR3.out.cell (p := ⟨w.heap.size, 1, none⟩) hz).trans C1.out)
        have gc := fun p : BW wr => HM.out HO.out s[k] p.W (HWW.out.trans (p.h.mono HWW.out.size))
        have hbg := byteN_get hlt
        rw [← hbg] at HSTEP hwl hml
        clear hbg
        obtain ⟨g, hg⟩ : ∃ g, g = wgtT d rest (s[k].toNat : Int) := ⟨_, rfl⟩
        rw [← hg] at gc HSTEP hwl hml
        obtain ⟨m, hm⟩ : ∃ m, m = costW d rest s k := ⟨_, rfl⟩
        rw [← hm] at HSTEP hcl ⊢
        clear hg hm
        have GC := Lib.hid gc
        clear gc
        have hw2 : IntKind.i64.wrap (g * ((k : Int) + 1)) = g * ((k : Int) + 1) := IntWalk.i64_in _ (by omega)
        have hw3 : IntKind.i64.wrap (m + g * ((k : Int) + 1)) = m + g * ((k : Int) + 1) := IntWalk.i64_in _ (by omega)
        clear hml hcl hwl
        go_wp2_with fail
        refine wp_region_bw (by kernel_rfl) (by kernel_rfl) ?_
        repeat (go_big_quiet_step (with_reducible refine bw_of (GC.out _)))
        refine wpQuiet_nil ?_
        rintro _ ⟨⟨W', hBW⟩, rfl⟩
        have HBW := Lib.hid (HR3.out.trans (hBW.mono HR3.out.size))
        clear hBW
        go_wp2_with fail
        go_roundw
        case rel => exact ⟨k + 1, by go_num, by omega, by rw [HSTEP.out], HBW.out⟩
        case measure => simp [intOf]; omega
      · have hke : k = s.size := by omega
        subst hke
        go_wp2_with fail
        go_ret
        exact ⟨retI (by rw [mcostN, if_pos (by rw [HMB.out])]), HWW.out⟩
end Go.Proofs.YtbhamkmiagdimaaDoor
