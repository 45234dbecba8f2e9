/- ChainCost of the model. -/
import Derived.Test.YthchhgjnelkmhaaDoorKsCostP
namespace Go.Proofs.YthchhgjnelkmhaaDoor
open Go.RowKit Go.Shelf Go.Lib Go.Sort

noncomputable def chainN (d : Array CaseD) (rest : Int) (o : Array Int) : Int := if ordS d rest o = true then costN d rest o else -1
theorem chainN_on {d : Array CaseD} {rest : Int} {o : Array Int} (h : ordS d rest o = true) : chainN d rest o = costN d rest o := by rw [chainN, if_pos h]
theorem chainN_off {d : Array CaseD} {rest : Int} {o : Array Int} (h : ordS d rest o = false) : chainN d rest o = -1 := by rw [chainN, if_neg (by rw [h]; exact Bool.false_ne_true)]
theorem caseC_le {d : Array CaseD} {rest : Int} {o : Array Int} (hok : SwOK d rest) (h : OrdOK d.size o) : ∀ i, i < d.size → (0 ≤ d[i]!.weight ∧ d[i]!.weight ≤ 99) ∧ 0 ≤ (reachA d o)[i]! ∧ (reachA d o)[i]! ≤ 16 := fun i hi => by
  obtain ⟨j, hj, e⟩ := ord_onto h hi
  have hj' : j < o.size := by rw [h.1]; exact hj
  have hg := reachA_get h (d := d) hj'
  rw [e, Int.toNat_natCast] at hg
  have hr := rsum_bounds d o (j + 1)
  have h8 : o.size ≤ 8 := by rw [h.1]; exact hok.size
  exact ⟨caseB_weight (hok.case i hi), by omega, by omega⟩

set_option maxRecDepth 100000 in
set_option maxHeartbeats 1000000 in
theorem specCost_any (b off cap : Nat) (d : Array CaseD) (rest : Int) (bo co : Nat) (o : Array Int) (w : World) (hR : RowC w b off d) (hcap : d.size ≤ cap) (hmax : cap ≤ maxLen) (hO : RowN w bo 0 o) (ho : o.size ≤ 1048576) :
    Calls Tryd.prog 22 #[.agg #[.slice (some ⟨b, off, none⟩) d.size cap, .int .i64 rest], .slice (some ⟨bo, 0, none⟩) o.size co] w fun x w' => x = .returned (.int .i64 (chainN d rest o)) ∧ RowKit.Below w.heap.size w w' := by
  have hv := fun W (hW : RowKit.Below w.heap.size w W) => specOrder_any b off cap d rest bo co o W (hR.below hW) hcap hmax (hO.below hW) ho
  have hk := fun W (hW : RowKit.Below w.heap.size w W) (h1 : SwOK d rest) (h2 : OrdOK d.size o) => l3Reach_any b off cap d rest bo co o W (hR.below hW) h1 (hO.below hW) h2
  have HK := Lib.hid hk
  have HR := Lib.hid hR
  obtain ⟨wa, hwa⟩ : ∃ wa, wa = w.alloc (.cells #[.slice (some ⟨b, off, none⟩) d.size cap, .int .i64 rest] 30) := ⟨_, rfl⟩
  have c0 : wa.cell? ⟨w.heap.size, 0, none⟩ = some (.slice (some ⟨b, off, none⟩) d.size cap) := by rw [hwa]; simp
  have c1 : wa.cell? ⟨w.heap.size, 1, none⟩ = some (.int .i64 rest) := by rw [hwa]; simp
  have hz : w.heap.size < wa.heap.size := by rw [hwa]; simp
  have hba : RowKit.Below w.heap.size w wa := by rw [hwa]; exact (Below.refl _ _).alloc (Nat.le_refl _) _
  have HA := Lib.hid hba
  have C0 := Lib.hid c0
  have C1 := Lib.hid c1
  have HWA := Lib.hid hwa
  clear hba c0 c1 hwa hR hO hk
  cases hs : ordS d rest o
  all_goals
    simp only [hs] at hv
    have HV := Lib.hid hv
    have HS := Lib.hid hs
    clear hv hs
    go_enter Tryd.func22, Tryd.ntmps22
    go_wp2_with fail
    rw [← HWA.out]
    refine (HV.out _ HA.out).mono ?_
    rintro x w1 ⟨rfl, hb⟩
    have HB := Lib.hid hb
    have hz1 := hb.size
    have a0 := (hb.cell (p := ⟨w.heap.size, 0, none⟩) hz).trans C0.out
    have a1 := (hb.cell (p := ⟨w.heap.size, 1, none⟩) hz).trans C1.out
    have HWB := Lib.hid (HA.out.trans (HB.out.mono (by omega)))
    have hz1' : w.heap.size < w1.heap.size := by omega
    clear hb
    go_wp2_with fail
  · go_ret
    exact ⟨retIA (chainN_off HS.out).symm, HWB.out⟩
  · obtain ⟨hok, hord⟩ := ordS_on HS.out
    have h8d : (d.size : Int) ≤ 8 := by have := hok.size; omega
    have hrl := rest_le hok hord
    have HC := Lib.hid (caseC_le hok hord)
    have HTOT := Lib.hid (show chainN d rest o = rest * rsum d o o.size + sumF (caseC d o) d.size by rw [chainN_on HS.out, costN, cost_cases hord]; omega)
    have HSZ := Lib.hid hord.1
    refine (HK.out _ HWB.out hok hord).mono ?_
    rintro x w2 ⟨g, rfl, hg, hbx, hb2⟩
    have HX := Lib.hid hbx
    have HB2 := Lib.hid (HWB.out.trans (hb2.mono HWB.out.size))
    have a0 := (hb2.cell (p := ⟨w.heap.size, 0, none⟩) hz1').trans a0
    have a1 := (hb2.cell (p := ⟨w.heap.size, 1, none⟩) hz1').trans a1
    have hRest := rest_wgt hok
    obtain ⟨R, hR⟩ : ∃ R, R = rsum d o o.size := ⟨_, rfl⟩
    rw [← hR] at hrl HTOT ⊢
    obtain ⟨m0, hm0⟩ : ∃ m0, m0 = rest * R := ⟨_, rfl⟩
    rw [← hm0] at hrl HTOT
    have hm0' : rest * R = m0 := hm0.symm
    obtain ⟨hm1, hm2⟩ := hrl
    have hsf := Lib.hid (fun k (hk : k ≤ d.size) => sumF_le (f := caseC d o) (n := d.size) (c := 1584) (by omega) (fun j hj => by have := HC.out j hj; exact mul_le16 this.1.1 this.1.2 this.2.1 this.2.2) k hk)
    clear hok hord hbx hb2 hR hm0
    go_wp2
    clear a0 a1 hm0'
    have hgl : g < w2.heap.size := HX.out.lt
    go_loopw [7, 27] (fun t i wr => ∃ k : Nat, i = .int .i64 k ∧ k ≤ d.size ∧ t = .int .i64 (m0 + sumF (caseC d o) k) ∧ Hid (RowKit.Below w2.heap.size w2 wr) ∧ w2.heap.size ≤ wr.heap.size) (fun _ i _ => d.size - (Lib.intOf i).toNat)
    case atStart => exact ⟨0, rfl, Nat.zero_le _, by simp [sumF], Below.refl _ _, Nat.le_refl _⟩
    case round =>
      obtain ⟨k, rfl, hk, rfl, HW, hw2⟩ := hrel
      have hs := hsf.out k hk
      have HSU := Lib.hid (show sumF (caseC d o) (k + 1) = sumF (caseC d o) k + d[k]!.weight * (reachA d o)[k]! from rfl)
      obtain ⟨s, hse⟩ : ∃ s, s = sumF (caseC d o) k := ⟨_, rfl⟩
      rw [← hse] at hs HSU ⊢
      have SE := Lib.hid hse
      clear hse
      obtain ⟨hs1, hs2⟩ := hs
      have hkk : (1584 : Int) * (k : Int) ≤ 12672 := by omega
      have hs3 : s ≤ 12672 := by omega
      clear hs2 hkk
      by_cases hlt : k < d.size
      · have hx := HR.out.below (HB2.out.trans (HW.out.mono HB2.out.size))
        have x0 := hx.low k hlt
        have x1 := hx.high k hlt
        have x2 := hx.target k hlt
        have x3 := hx.weight k hlt
        have hcl := HC.out k hlt
        have hRA : k < (reachA d o).size := by rw [reachA_size, HSZ.out]; exact hlt
        have y0 := (HW.out.cell (p := ⟨g, 0 + k, none⟩) hgl).trans (HX.out.row.cell k hRA)
        simp only [Nat.zero_add] at y0
        have hko : (k : Int) < (o.size : Int) := by rw [HSZ.out]; omega
        clear hx hRA
        obtain ⟨x, hxe⟩ : ∃ x, x = d[k]! := ⟨_, rfl⟩
        obtain ⟨y, hye⟩ : ∃ y, y = (reachA d o)[k]! := ⟨_, rfl⟩
        rw [← hxe] at x0 x1 x2 x3 hcl HSU
        rw [← hye] at y0 hcl HSU
        clear hxe hye
        have hml := mul_le16 hcl.1.1 hcl.1.2 hcl.2.1 hcl.2.2
        obtain ⟨m, hm⟩ : ∃ m, m = x.weight * y := ⟨_, rfl⟩
        rw [← hm] at hml HSU
        have hm' : x.weight * y = m := hm.symm
        obtain ⟨hml1, hml2⟩ := hml
        clear hm hcl
        go_wp2
        obtain ⟨wb, hwb⟩ : ∃ wb, wb = wr.alloc (.cells #[.int .i64 x.low, .int .i64 x.high, .string x.target, .int .i64 x.weight] 59) := ⟨_, rfl⟩
        have z3 : wb.cell? ⟨wr.heap.size, 3, none⟩ = some (.int .i64 x.weight) := by rw [hwb]; simp
        have hzb : wr.heap.size ≤ wb.heap.size := by rw [hwb]; simp
        have hbb : RowKit.Below wr.heap.size wr wb := by rw [hwb]; exact (Below.refl _ _).alloc (Nat.le_refl _) _
        have y1 := (hbb.cell (p := ⟨g, k, none⟩) (Nat.lt_of_lt_of_le hgl hw2)).trans y0
        have HBB := Lib.hid hbb
        rw [← hwb]
        clear hwb hbb x0 x1 x2 x3 y0
        have hwm : IntKind.i64.wrap (x.weight * y) = m := by rw [hm']; exact IntWalk.i64_in _ (by omega)
        have hwm2 : IntKind.i64.wrap (m0 + s + m) = m0 + s + m := IntWalk.i64_in _ (by omega)
        clear hm'
        go_region
        all_goals
          go_wp2
          go_roundw
          case rel => exact ⟨k + 1, by go_num, by omega, by rw [HSU.out]; congr 1; omega, (HW.out.trans (HBB.out.mono hw2)).drew, by simp; omega⟩
          case measure => simp [Lib.intOf]; omega
      · have hke : k = d.size := by omega
        subst hke
        go_wp2
        go_ret
        exact ⟨retIA (by rw [HTOT.out, SE.out]), HB2.out.trans (HW.out.mono HB2.out.size)⟩
end Go.Proofs.YthchhgjnelkmhaaDoor
