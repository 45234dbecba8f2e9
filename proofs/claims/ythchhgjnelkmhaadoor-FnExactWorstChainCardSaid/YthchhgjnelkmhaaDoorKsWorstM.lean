/- WorstChain of the model. -/
import Derived.Test.YthchhgjnelkmhaaDoorKsBestM
import Derived.Test.YthchhgjnelkmhaaDoorKsWorstQ
namespace Go.Proofs.YthchhgjnelkmhaaDoor
open Go.RowKit Go.Shelf Go.Lib Go.Sort

def slowO (d : Array CaseD) : Array Int := bestTo (slow d) d.size d.size
noncomputable def worstN (d : Array CaseD) (rest : Int) : List Int := if swB d rest = true then (slowO d).toList else []

set_option maxRecDepth 100000 in
set_option maxHeartbeats 2000000 in
theorem l3Slow_any (b off cap : Nat) (d : Array CaseD) (rest : Int) (w : World) (hR : RowC w b off d) (hok : SwOK d rest) :
    Calls Tryd.prog 53 #[.agg #[.slice (some ⟨b, off, none⟩) d.size cap, .int .i64 rest], .bool false] w fun x w' => ∃ v, x = .returned v ∧ OwnsN w.heap.size v (slowO d).toList w' ∧ RowKit.Below w.heap.size w w' := by
  have HR := Lib.hid hR
  have HOK := Lib.hid hok
  have h8 := hok.size
  clear hR hok
  obtain ⟨lt, hlt0⟩ : ∃ lt, lt = slow d := ⟨_, rfl⟩
  have HLT := Lib.hid hlt0
  clear hlt0
  obtain ⟨i0, hi, hi0, hi1, hi2⟩ := info_parts infoN
  go_enter Tryd.func53, Tryd.ntmps53
  go_wp2_with fail
  obtain ⟨wa, hwa⟩ : ∃ wa, wa = (w.alloc (.cells #[.slice (some ⟨b, off, none⟩) d.size cap, .int .i64 rest] 30)).alloc (.cells #[] 3) := ⟨_, rfl⟩
  have c0 : wa.cell? ⟨w.heap.size, 0, none⟩ = some (.slice (some ⟨b, off, none⟩) d.size cap) := by rw [hwa]; simp [go_sem]
  have hz : wa.heap.size = w.heap.size + 2 := by rw [hwa]; simp
  have hba : RowKit.Below w.heap.size w wa := by rw [hwa]; exact ((Below.refl _ _).alloc (Nat.le_refl _) _).alloc (by simp) _
  have how : OwnsN w.heap.size (.slice (some ⟨w.heap.size + 1, 0, none⟩) 0 0) [] wa := by
    have h := World.ownsRow_made (base := w.heap.size) (e := 3) (size := 1) (w.alloc (.cells #[.slice (some ⟨b, off, none⟩) d.size cap, .int .i64 rest] 30)) #[] 0 (by simp) (Nat.zero_le _) rfl
    rw [hwa]
    simpa [OwnsN] using h
  rw [← hwa]
  have HA := Lib.hid hba
  have C0 := Lib.hid c0
  have HO0 := Lib.hid how
  have hn8 : (d.size : Int) ≤ 8 := by omega
  clear hwa hba c0 how
  go_loopw [16, 5] (fun ci vo wr => ∃ (i g cp : Nat), ci = .int .i64 i ∧ i ≤ d.size ∧ vo = .slice (some ⟨g, 0, none⟩) i cp ∧ i ≤ cp ∧ cp ≤ maxLen ∧ g < wr.heap.size ∧ Hid (w.heap.size < g) ∧ Hid (OwnsN w.heap.size (.slice (some ⟨g, 0, none⟩) i cp) (bestL lt d.size i) wr) ∧ Hid (RowKit.Below (w.heap.size + 1) wa wr) ∧ wa.heap.size ≤ wr.heap.size) (fun ci _ _ => d.size - (Lib.intOf ci).toNat)
  case atStart => exact ⟨0, w.heap.size + 1, 0, rfl, Nat.zero_le _, rfl, Nat.le_refl _, Nat.zero_le _, by omega, Nat.lt_succ_self _, HO0.out, Below.refl _ _, Nat.le_refl _⟩
  case round =>
    obtain ⟨i, g, cp, rfl, hin, rfl, hicp, hcpm, hgw, HGW, HOW, HW, hws⟩ := hrel
    obtain ⟨wo, rfl⟩ : ∃ wo, wo = wr := ⟨_, rfl⟩
    by_cases hlt : i < d.size
    · have HWW := Lib.hid (HA.out.trans (HW.out.mono (by omega)))
      have hx := HR.out.below HWW.out
      have x0 := hx.low i hlt
      have x1 := hx.high i hlt
      have x2 := hx.target i hlt
      have x3 := hx.weight i hlt
      have HXR := Lib.hid hx
      have c0 := (HW.out.cell (p := ⟨w.heap.size, 0, none⟩) (Nat.lt_succ_self _)).trans C0.out
      obtain ⟨x, hxe⟩ : ∃ x, x = d[i]! := ⟨_, rfl⟩
      rw [← hxe] at x0 x1 x2 x3
      have HX := Lib.hid hxe
      clear hx hxe
      go_wp2_with fail
      obtain ⟨wi, hwi⟩ : ∃ wi, wi = wo.alloc (.cells #[.int .i64 x.low, .int .i64 x.high, .string x.target, .int .i64 x.weight] 59) := ⟨_, rfl⟩
      have e0 : wi.cell? ⟨wo.heap.size, 0, none⟩ = some (.int .i64 x.low) := by rw [hwi]; simp [go_sem]
      have e1 : wi.cell? ⟨wo.heap.size, 1, none⟩ = some (.int .i64 x.high) := by rw [hwi]; simp [go_sem]
      have e2 : wi.cell? ⟨wo.heap.size, 2, none⟩ = some (.string x.target) := by rw [hwi]; simp [go_sem]
      have e3 : wi.cell? ⟨wo.heap.size, 3, none⟩ = some (.int .i64 x.weight) := by rw [hwi]; simp [go_sem]
      have hwz : wi.heap.size = wo.heap.size + 1 := by rw [hwi]; simp
      have hbi : RowKit.Below wo.heap.size wo wi := by rw [hwi]; exact (Below.refl _ _).alloc (Nat.le_refl _) _
      rw [← hwi]
      have HBI := Lib.hid hbi
      have HE := Lib.hid (⟨e0, e1, e2, e3⟩ : _ ∧ _ ∧ _ ∧ _)
      have C0R := Lib.hid c0
      clear hwi e0 e1 e2 e3 hbi c0 x0 x1 x2 x3
      go_loopw [8] (fun kv wl => ∃ k : Nat, kv = .int .i64 k ∧ k ≤ i ∧ Hid (posA lt (bestTo lt d.size i) i k = posA lt (bestTo lt d.size i) i i) ∧ Hid (RowKit.Below wi.heap.size wi wl)) (fun kv _ => (Lib.intOf kv).toNat)
      case atStart => exact ⟨i, rfl, Nat.le_refl _, rfl, Below.refl _ _⟩
      case round =>
        obtain ⟨k, rfl, hki, HPK, HBL⟩ := hrel
        rcases Nat.eq_zero_or_pos k with hk00 | hk0
        · have hd0 : decide (0 < k) = false := by simp; omega
          have HQ := Lib.hid (show posA lt (bestTo lt d.size i) i k = k by rw [hk00]; rfl)
          have HBP := Lib.hid HBL.out
          go_wp2
          obtain ⟨we, hwe⟩ : ∃ we, we = wr := ⟨_, rfl⟩
          rw [← hwe] at HBP ⊢
          clear hwe
          clear hk00
          have hz0 : (0 : Int) ≤ (k : Int) := by omega
          have hz1 : (k : Int) ≤ (cp : Int) := by omega
          have hz2 : (k : Int) ≤ (i : Int) := by omega
          have hz3 : (i : Int) ≤ (cp : Int) := by omega
          have hoe : wo.heap.size ≤ we.heap.size := Nat.le_trans (by omega) HBP.out.size
          have CG := Lib.hid (fun W (hW : RowKit.Below we.heap.size we W) j (hj : j < i) => ((HBI.out.trans ((HBP.out.mono (by omega)).trans (hW.mono hoe))).cell (p := ⟨g, j, none⟩) hgw).trans (bestL_cell HOW.out j hj))
          have HLT2 := Lib.hid (show ((bestL lt d.size i).take k).length = k by rw [List.length_take, bestL_length]; omega)
          have HLT3 := Lib.hid (show ((bestL lt d.size i).drop k).length = i - k by rw [List.length_drop, bestL_length])
          have hmx : maxLen = 9223372036854775807 := rfl
          go_region_law (first
            | (refine step_append_ownS _ (by rfl) (.tmp 61) (.tmp 64) 25 (by rfl) we.heap.size 3 i0 (.int .i64 0) 1 8 Tryd.underlying25 hi hi0 hi1 hi2 rfl (by decide) (.slice (some ⟨we.heap.size + 1, 0, none⟩) 0 0) 0 [] (by rfl) (by have h := World.ownsRow_made (base := we.heap.size) (e := 3) (size := 1) (we.alloc (.cells #[.int .i64 (i : Int)] 3)) #[] 0 (by simp) (Nat.zero_le _) rfl; rw [World.size_alloc] at h; exact h) ⟨g, 0, none⟩ k cp (((bestL lt d.size i).take k).map encN) (by first | rfl | (go_simp; done)) (by rw [List.length_map, HLT2.out, Nat.mul_one]) (cells_take (CG.out _ (by repeat (first | exact Below.refl _ _ | refine Below.drew ?_ | refine Below.alloc ?_ (by first | omega | (simp; done) | (simp; omega)) _))) hki) (one_of_map _) (by omega) (by omega) (by first | omega | (simp; done) | (simp; omega)) ?_; intro v1 w1 hown1 hgrow1; have HO1 := Lib.hid hown1; have HB1 := Lib.hid (cells_one ((hgrow1.cell_far ⟨we.heap.size, 0, none⟩ (by first | omega | (simp; done) | (simp; omega)) (by simp [Value.ownBlock])).trans (by simp [go_sem]) : w1.cell? ⟨we.heap.size, 0, none⟩ = some (.int .i64 (i : Int)))); have HW1 := Lib.hid (((by repeat (first | exact Below.refl _ _ | refine Below.drew ?_ | refine Below.alloc ?_ (by first | omega | (simp; done) | (simp; omega)) _)) : RowKit.Below we.heap.size we _).grown hgrow1 (by first | omega | (simp; done) | (simp; omega)) (fun q hq => by simp [Value.ownBlock] at hq; omega)); have hs1 := HW1.out.size; clear hown1 hgrow1)
            | (refine step_append_ownS _ (by rfl) (.tmp 61) (.tmp 64) 25 (by rfl) we.heap.size 3 i0 (.int .i64 0) 1 8 Tryd.underlying25 hi hi0 hi1 hi2 rfl (by decide) (.slice (some ⟨we.heap.size, 0, none⟩) 0 0) 0 [] (by rfl) (by exact (World.ownsRow_made we #[] 0 (Nat.le_refl _) (Nat.zero_le _) (by simp)).alloc _) ⟨g, 0, none⟩ k cp (((bestL lt d.size i).take k).map encN) (by first | rfl | (go_simp; done)) (by rw [List.length_map, HLT2.out, Nat.mul_one]) (cells_take (CG.out _ (by repeat (first | exact Below.refl _ _ | refine Below.drew ?_ | refine Below.alloc ?_ (by first | omega | (simp; done) | (simp; omega)) _))) hki) (one_of_map _) (by omega) (by omega) (by first | omega | (simp; done) | (simp; omega)) ?_; intro v1 w1 hown1 hgrow1; have HO1 := Lib.hid hown1; have HB1 := Lib.hid (cells_one ((hgrow1.cell_far ⟨we.heap.size + 1, 0, none⟩ (by first | omega | (simp; done) | (simp; omega)) (by simp [Value.ownBlock])).trans (by simp [go_sem]) : w1.cell? ⟨we.heap.size + 1, 0, none⟩ = some (.int .i64 (i : Int)))); have HW1 := Lib.hid (((by repeat (first | exact Below.refl _ _ | refine Below.drew ?_ | refine Below.alloc ?_ (by first | omega | (simp; done) | (simp; omega)) _)) : RowKit.Below we.heap.size we _).grown hgrow1 (by first | omega | (simp; done) | (simp; omega)) (fun q hq => by simp [Value.ownBlock] at hq; omega)); have hs1 := HW1.out.size; clear hown1 hgrow1)
            | (refine step_append_ownS _ (by rfl) (.tmp 61) (.tmp 64) 25 (by rfl) we.heap.size 3 i0 (.int .i64 0) 1 8 Tryd.underlying25 hi hi0 hi1 hi2 rfl (by decide) (.slice (some ⟨we.heap.size, 0, none⟩) 0 0) 0 [] (by rfl) (by exact World.ownsRow_made we #[] 0 (Nat.le_refl _) (Nat.zero_le _) (by simp)) ⟨g, 0, none⟩ k cp (((bestL lt d.size i).take k).map encN) (by first | rfl | (go_simp; done)) (by rw [List.length_map, HLT2.out, Nat.mul_one]) (cells_take (CG.out _ (by repeat (first | exact Below.refl _ _ | refine Below.drew ?_ | refine Below.alloc ?_ (by first | omega | (simp; done) | (simp; omega)) _))) hki) (one_of_map _) (by omega) (by omega) (by first | omega | (simp; done) | (simp; omega)) ?_; intro v1 w1 hown1 hgrow1; have HO1 := Lib.hid hown1; have HW1 := Lib.hid (((by repeat (first | exact Below.refl _ _ | refine Below.drew ?_ | refine Below.alloc ?_ (by first | omega | (simp; done) | (simp; omega)) _)) : RowKit.Below we.heap.size we _).grown hgrow1 (by first | omega | (simp; done) | (simp; omega)) (fun q hq => by simp [Value.ownBlock] at hq; omega)); have hs1 := HW1.out.size; clear hown1 hgrow1)
            | (refine step_append_ownS _ (by rfl) (.tmp 65) (.tmp 67) 25 (by rfl) we.heap.size 3 i0 (.int .i64 0) 1 8 Tryd.underlying25 hi hi0 hi1 hi2 rfl (by decide) v1 (0 + k) ([] ++ (((bestL lt d.size i).take k).map encN)) (by rfl) HO1.out ⟨we.heap.size, 0, none⟩ 1 1 [.int .i64 (i : Int)] (by first | rfl | (go_simp; done)) rfl HB1.out (one_cell1 _) (by omega) (by omega) (by first | omega | (simp; done) | (simp; omega)) ?_; intro v2 w2 hown2 hgrow2; have HO2 := Lib.hid hown2; have HW2 := Lib.hid ((Below.trans HW1.out ((by repeat (first | exact Below.refl _ _ | refine Below.drew ?_ | refine Below.alloc ?_ (by first | omega | (simp; done) | (simp; omega)) _)) : RowKit.Below we.heap.size w1 _)).grown hgrow2 (by first | omega | (simp; done) | (simp; omega)) (fun q hq => (HO1.out.lt q hq).1)); have hs2 := HW2.out.size; clear hown2 hgrow2)
            | (refine step_append_ownS _ (by rfl) (.tmp 65) (.tmp 67) 25 (by rfl) we.heap.size 3 i0 (.int .i64 0) 1 8 Tryd.underlying25 hi hi0 hi1 hi2 rfl (by decide) v1 (0 + k) ([] ++ (((bestL lt d.size i).take k).map encN)) (by rfl) HO1.out ⟨we.heap.size + 1, 0, none⟩ 1 1 [.int .i64 (i : Int)] (by first | rfl | (go_simp; done)) rfl HB1.out (one_cell1 _) (by omega) (by omega) (by first | omega | (simp; done) | (simp; omega)) ?_; intro v2 w2 hown2 hgrow2; have HO2 := Lib.hid hown2; have HW2 := Lib.hid ((Below.trans HW1.out ((by repeat (first | exact Below.refl _ _ | refine Below.drew ?_ | refine Below.alloc ?_ (by first | omega | (simp; done) | (simp; omega)) _)) : RowKit.Below we.heap.size w1 _)).grown hgrow2 (by first | omega | (simp; done) | (simp; omega)) (fun q hq => (HO1.out.lt q hq).1)); have hs2 := HW2.out.size; clear hown2 hgrow2)
            | (refine step_append_ownS _ (by rfl) (.tmp 65) (.tmp 67) 25 (by rfl) we.heap.size 3 i0 (.int .i64 0) 1 8 Tryd.underlying25 hi hi0 hi1 hi2 rfl (by decide) v1 (0 + k) ([] ++ (((bestL lt d.size i).take k).map encN)) (by rfl) (by exact HO1.out.alloc _) ⟨w1.heap.size, 0, none⟩ 1 1 [.int .i64 (i : Int)] (by first | rfl | (go_simp; done)) rfl (cells_one (by simp [go_sem])) (one_cell1 _) (by omega) (by omega) (by first | omega | (simp; done) | (simp; omega)) ?_; intro v2 w2 hown2 hgrow2; have HO2 := Lib.hid hown2; have HW2 := Lib.hid ((Below.trans HW1.out ((by repeat (first | exact Below.refl _ _ | refine Below.drew ?_ | refine Below.alloc ?_ (by first | omega | (simp; done) | (simp; omega)) _)) : RowKit.Below we.heap.size w1 _)).grown hgrow2 (by first | omega | (simp; done) | (simp; omega)) (fun q hq => (HO1.out.lt q hq).1)); have hs2 := HW2.out.size; clear hown2 hgrow2)
            | (refine step_append_ownS _ (by rfl) (.tmp 68) (.tmp 71) 25 (by rfl) we.heap.size 3 i0 (.int .i64 0) 1 8 Tryd.underlying25 hi hi0 hi1 hi2 rfl (by decide) v2 (0 + k + 1) ([] ++ (((bestL lt d.size i).take k).map encN) ++ [.int .i64 (i : Int)]) (by rfl) HO2.out ⟨g, if cp = k then 0 else k, none⟩ (i - k) (cp - k) (((bestL lt d.size i).drop k).map encN) (by go_simp; by_cases hck : cp = k <;> simp [hck]) (by rw [List.length_map, HLT3.out, Nat.mul_one]) (cells_drop (CG.out _ HW2.out) hicp) (one_of_map _) (by omega) (by omega) (by first | omega | (simp; done) | (simp; omega)) ?_; intro v3 w3 hown3 hgrow3; have HO3 := Lib.hid hown3; have HW3 := Lib.hid (HW2.out.grown hgrow3 (by first | omega | (simp; done) | (simp; omega)) (fun q hq => (HO2.out.lt q hq).1)); clear hown3 hgrow3))
          all_goals
            obtain ⟨g', cp', rfl, hq1, hq2, hq3, hq4, hq5⟩ := best_next (b0 := w.heap.size) (by omega) hlt hki (HQ.out.symm.trans HPK.out) HO3.out
            have HQ5 := Lib.hid hq5
            have hg4 : w.heap.size < g' := by omega
            have HQ4 := Lib.hid hg4
            have HWX := Lib.hid (HW.out.trans ((HBI.out.trans ((HBP.out.mono (by omega)).trans (HW3.out.mono hoe))).mono (by omega)))
            have hz3 := HW3.out.size
            clear hq5 hg4
            go_wp2
            go_roundw
            case rel => exact ⟨i + 1, g', cp', by go_num, by omega, rfl, hq1, hq2, hq3, HQ4.out, HQ5.out, HWX.out, by omega⟩
            case measure => simp [Lib.intOf]; omega
        · have HRL := Lib.hid (HBI.out.trans (HBL.out.mono (by omega)))
          have hlsz := HBL.out.size
          have hrng := bestTo_range lt d.size i hin (k - 1) (by omega)
          have o0 := (HRL.out.cell (p := ⟨g, k - 1, none⟩) hgw).trans (bestL_cell HOW.out (k - 1) (by omega))
          have HPG := Lib.hid (fun h => posA_go (lt := lt) (A := bestTo lt d.size i) (i := i) hk0 h)
          have HPS := Lib.hid (fun h => posA_stop (lt := lt) (A := bestTo lt d.size i) (i := i) hk0 h)
          rw [bestTo_rest lt d.size i i (Nat.le_refl _) hlt] at HPG HPS
          obtain ⟨yz, hyz⟩ : ∃ y, y = (bestTo lt d.size i)[k - 1]! := ⟨_, rfl⟩
          rw [← hyz] at o0 hrng HPG HPS
          clear hyz
          obtain ⟨t, rfl⟩ : ∃ t : Nat, yz = t := ⟨yz.toNat, by omega⟩
          have htn : t < d.size := by omega
          have hxl := HXR.out.below HRL.out
          have y0 := hxl.low t htn
          have y1 := hxl.high t htn
          have y2 := hxl.target t htn
          have y3 := hxl.weight t htn
          have c0 := (HRL.out.cell (p := ⟨w.heap.size, 0, none⟩) (by omega : w.heap.size < wo.heap.size)).trans C0R.out
          have hgl : g < wr.heap.size := by omega
          have hbl : b < wr.heap.size := hxl.old
          have hsl : w.heap.size < wr.heap.size := by omega
          have htx := HOK.out.case t htn
          obtain ⟨y, hye⟩ : ∃ y, y = d[t]! := ⟨_, rfl⟩
          rw [← hye] at y0 y1 y2 y3 htx
          have HY := Lib.hid hye
          have HTX := Lib.hid htx
          clear hxl hye htx
          have hd0 : decide (0 < k) = true := by simp; omega
          have hs2 : IntKind.i64.wrap ((k : Int) - 1) = (k : Int) - 1 := IntWalk.i64_in _ (by omega)
          have hs3 : (0 : Int) ≤ (k : Int) - 1 := by omega
          have hs4 : ((k : Int) - 1).toNat = k - 1 := by omega
          have hs5 : (k : Int) - 1 < (i : Int) := by omega
          have hs6 : (t : Int) < (d.size : Int) := by omega
          go_wp2_with fail
          go_region
          obtain ⟨wd, hwd⟩ : ∃ wd, wd = (wr.alloc (.cells #[.int .i64 y.low, .int .i64 y.high, .string y.target, .int .i64 y.weight] 59)).drew := ⟨_, rfl⟩
          have f0 : wd.cell? ⟨wr.heap.size, 0, none⟩ = some (.int .i64 y.low) := by rw [hwd]; simp [go_sem]
          have f1 : wd.cell? ⟨wr.heap.size, 1, none⟩ = some (.int .i64 y.high) := by rw [hwd]; simp [go_sem]
          have f2 : wd.cell? ⟨wr.heap.size, 2, none⟩ = some (.string y.target) := by rw [hwd]; simp [go_sem]
          have f3 : wd.cell? ⟨wr.heap.size, 3, none⟩ = some (.int .i64 y.weight) := by rw [hwd]; simp [go_sem]
          have hdz : wr.heap.size < wd.heap.size := by rw [hwd]; simp
          have hbd : RowKit.Below wr.heap.size wr wd := by rw [hwd]; exact ((Below.refl _ _).alloc (Nat.le_refl _) _).drew
          rw [← hwd]
          have HBD := Lib.hid (HBL.out.trans (hbd.mono hlsz))
          have e0 := (HBD.out.cell (p := ⟨wo.heap.size, 0, none⟩) (by omega : wo.heap.size < wi.heap.size)).trans HE.out.1
          have e1 := (HBD.out.cell (p := ⟨wo.heap.size, 1, none⟩) (by omega : wo.heap.size < wi.heap.size)).trans HE.out.2.1
          have e2 := (HBD.out.cell (p := ⟨wo.heap.size, 2, none⟩) (by omega : wo.heap.size < wi.heap.size)).trans HE.out.2.2.1
          have e3 := (HBD.out.cell (p := ⟨wo.heap.size, 3, none⟩) (by omega : wo.heap.size < wi.heap.size)).trans HE.out.2.2.2
          clear hwd hbd y0 y1 y2 y3 o0 c0
          have q0 := fun p : BW wd => p.cell (a := ⟨wr.heap.size, 0, none⟩) hdz f0
          have q1 := fun p : BW wd => p.cell (a := ⟨wr.heap.size, 1, none⟩) hdz f1
          have q2 := fun p : BW wd => p.cell (a := ⟨wr.heap.size, 2, none⟩) hdz f2
          have q3 := fun p : BW wd => p.cell (a := ⟨wr.heap.size, 3, none⟩) hdz f3
          have p0 := fun p : BW wd => p.cell (a := ⟨wo.heap.size, 0, none⟩) (by omega : wo.heap.size < wd.heap.size) e0
          have p1 := fun p : BW wd => p.cell (a := ⟨wo.heap.size, 1, none⟩) (by omega : wo.heap.size < wd.heap.size) e1
          have p2 := fun p : BW wd => p.cell (a := ⟨wo.heap.size, 2, none⟩) (by omega : wo.heap.size < wd.heap.size) e2
          have p3 := fun p : BW wd => p.cell (a := ⟨wo.heap.size, 3, none⟩) (by omega : wo.heap.size < wd.heap.size) e3
          have hgx := fun p : BW wd => l3Cost_any x p.W
          have hgy := fun p : BW wd => l3Cost_any y p.W
          have bx := tcost_bounds x
          have by' := tcost_bounds y
          have hwx := caseB_weight (HX.out ▸ HOK.out.case i hlt : caseB x = true)
          have hwy := caseB_weight HTX.out
          have hm1 := mul_le2 hwx.1 hwx.2 by'.1 by'.2
          have hm2 := mul_le2 hwy.1 hwy.2 bx.1 bx.2
          have HLQ := Lib.hid (show lt (i : Int) (t : Int) = decide (x.weight * tcost y < y.weight * tcost x) by
            rw [HLT.out]
            show decide (d[(i : Int).toNat]!.weight * tcost d[(t : Int).toNat]! < d[(t : Int).toNat]!.weight * tcost d[(i : Int).toNat]!) = _
            rw [Int.toNat_natCast, Int.toNat_natCast, ← HX.out, ← HY.out])
          obtain ⟨ta, hta⟩ : ∃ t, t = tcost x := ⟨_, rfl⟩
          obtain ⟨tb, htb⟩ : ∃ t, t = tcost y := ⟨_, rfl⟩
          rw [← hta] at hgx HLQ hm2
          rw [← htb] at hgy HLQ hm1
          obtain ⟨m1, hm1'⟩ : ∃ m, m = x.weight * tb := ⟨_, rfl⟩
          obtain ⟨m2, hm2'⟩ : ∃ m, m = y.weight * ta := ⟨_, rfl⟩
          rw [← hm1'] at hm1 HLQ
          rw [← hm2'] at hm2 HLQ
          have hw1 : IntKind.i64.wrap (x.weight * tb) = m1 := by rw [← hm1']; exact IntWalk.i64_in _ (by omega)
          have hw2 : IntKind.i64.wrap (y.weight * ta) = m2 := by rw [← hm2']; exact IntWalk.i64_in _ (by omega)
          unfold aggC at hgx hgy
          have GX := Lib.hid hgx
          have GY := Lib.hid hgy
          clear hgx hgy bx by' hwx hwy hm1 hm2 hta htb hm1' hm2' f0 f1 f2 f3 e0 e1 e2 e3
          go_wp2_with fail
          refine wp_region_bw (by kernel_rfl) (by kernel_rfl) ?_
          repeat (go_big_quiet_step (first
            | (with_reducible refine bw_of (GX.out _))
            | (with_reducible refine bw_of (GY.out _))))
          refine wpQuiet_nil ?_
          rintro _ ⟨pp, rfl⟩
          have HBP := Lib.hid (HBD.out.trans (pp.h.mono HBD.out.size))
          clear q0 q1 q2 q3 p0 p1 p2 p3
          by_cases hq : m1 < m2
          · have hqd : decide (m2 ≤ m1) = false := by simp; omega
            have hqd2 : decide (m1 ≥ m2) = false := by simp; omega
            have HQ := Lib.hid (HPG.out (by rw [HLQ.out]; simp; omega))
            clear hq
            go_wp2
            go_roundw
            case rel => exact ⟨k - 1, by go_num, by omega, HQ.out.symm.trans HPK.out, HBP.out⟩
            case measure => simp [Lib.intOf]; omega
          · have hqd : decide (m2 ≤ m1) = true := by simp; omega
            have hqd2 : decide (m1 ≥ m2) = true := by simp; omega
            have HQ := Lib.hid (HPS.out (by rw [HLQ.out]; simp; omega))
            clear hq
            go_wp2
            obtain ⟨we, hwe⟩ : ∃ we, we = pp.W := ⟨_, rfl⟩
            rw [← hwe] at HBP ⊢
            clear hwe
            clear hk0
            have hz0 : (0 : Int) ≤ (k : Int) := by omega
            have hz1 : (k : Int) ≤ (cp : Int) := by omega
            have hz2 : (k : Int) ≤ (i : Int) := by omega
            have hz3 : (i : Int) ≤ (cp : Int) := by omega
            have hoe : wo.heap.size ≤ we.heap.size := Nat.le_trans (by omega) HBP.out.size
            have CG := Lib.hid (fun W (hW : RowKit.Below we.heap.size we W) j (hj : j < i) => ((HBI.out.trans ((HBP.out.mono (by omega)).trans (hW.mono hoe))).cell (p := ⟨g, j, none⟩) hgw).trans (bestL_cell HOW.out j hj))
            have HLT2 := Lib.hid (show ((bestL lt d.size i).take k).length = k by rw [List.length_take, bestL_length]; omega)
            have HLT3 := Lib.hid (show ((bestL lt d.size i).drop k).length = i - k by rw [List.length_drop, bestL_length])
            have hmx : maxLen = 9223372036854775807 := rfl
            go_region_law (first
              | (refine step_append_ownS _ (by rfl) (.tmp 61) (.tmp 64) 25 (by rfl) we.heap.size 3 i0 (.int .i64 0) 1 8 Tryd.underlying25 hi hi0 hi1 hi2 rfl (by decide) (.slice (some ⟨we.heap.size + 1, 0, none⟩) 0 0) 0 [] (by rfl) (by have h := World.ownsRow_made (base := we.heap.size) (e := 3) (size := 1) (we.alloc (.cells #[.int .i64 (i : Int)] 3)) #[] 0 (by simp) (Nat.zero_le _) rfl; rw [World.size_alloc] at h; exact h) ⟨g, 0, none⟩ k cp (((bestL lt d.size i).take k).map encN) (by first | rfl | (go_simp; done)) (by rw [List.length_map, HLT2.out, Nat.mul_one]) (cells_take (CG.out _ (by repeat (first | exact Below.refl _ _ | refine Below.drew ?_ | refine Below.alloc ?_ (by first | omega | (simp; done) | (simp; omega)) _))) hki) (one_of_map _) (by omega) (by omega) (by first | omega | (simp; done) | (simp; omega)) ?_; intro v1 w1 hown1 hgrow1; have HO1 := Lib.hid hown1; have HB1 := Lib.hid (cells_one ((hgrow1.cell_far ⟨we.heap.size, 0, none⟩ (by first | omega | (simp; done) | (simp; omega)) (by simp [Value.ownBlock])).trans (by simp [go_sem]) : w1.cell? ⟨we.heap.size, 0, none⟩ = some (.int .i64 (i : Int)))); have HW1 := Lib.hid (((by repeat (first | exact Below.refl _ _ | refine Below.drew ?_ | refine Below.alloc ?_ (by first | omega | (simp; done) | (simp; omega)) _)) : RowKit.Below we.heap.size we _).grown hgrow1 (by first | omega | (simp; done) | (simp; omega)) (fun q hq => by simp [Value.ownBlock] at hq; omega)); have hs1 := HW1.out.size; clear hown1 hgrow1)
              | (refine step_append_ownS _ (by rfl) (.tmp 61) (.tmp 64) 25 (by rfl) we.heap.size 3 i0 (.int .i64 0) 1 8 Tryd.underlying25 hi hi0 hi1 hi2 rfl (by decide) (.slice (some ⟨we.heap.size, 0, none⟩) 0 0) 0 [] (by rfl) (by exact (World.ownsRow_made we #[] 0 (Nat.le_refl _) (Nat.zero_le _) (by simp)).alloc _) ⟨g, 0, none⟩ k cp (((bestL lt d.size i).take k).map encN) (by first | rfl | (go_simp; done)) (by rw [List.length_map, HLT2.out, Nat.mul_one]) (cells_take (CG.out _ (by repeat (first | exact Below.refl _ _ | refine Below.drew ?_ | refine Below.alloc ?_ (by first | omega | (simp; done) | (simp; omega)) _))) hki) (one_of_map _) (by omega) (by omega) (by first | omega | (simp; done) | (simp; omega)) ?_; intro v1 w1 hown1 hgrow1; have HO1 := Lib.hid hown1; have HB1 := Lib.hid (cells_one ((hgrow1.cell_far ⟨we.heap.size + 1, 0, none⟩ (by first | omega | (simp; done) | (simp; omega)) (by simp [Value.ownBlock])).trans (by simp [go_sem]) : w1.cell? ⟨we.heap.size + 1, 0, none⟩ = some (.int .i64 (i : Int)))); have HW1 := Lib.hid (((by repeat (first | exact Below.refl _ _ | refine Below.drew ?_ | refine Below.alloc ?_ (by first | omega | (simp; done) | (simp; omega)) _)) : RowKit.Below we.heap.size we _).grown hgrow1 (by first | omega | (simp; done) | (simp; omega)) (fun q hq => by simp [Value.ownBlock] at hq; omega)); have hs1 := HW1.out.size; clear hown1 hgrow1)
              | (refine step_append_ownS _ (by rfl) (.tmp 61) (.tmp 64) 25 (by rfl) we.heap.size 3 i0 (.int .i64 0) 1 8 Tryd.underlying25 hi hi0 hi1 hi2 rfl (by decide) (.slice (some ⟨we.heap.size, 0, none⟩) 0 0) 0 [] (by rfl) (by exact World.ownsRow_made we #[] 0 (Nat.le_refl _) (Nat.zero_le _) (by simp)) ⟨g, 0, none⟩ k cp (((bestL lt d.size i).take k).map encN) (by first | rfl | (go_simp; done)) (by rw [List.length_map, HLT2.out, Nat.mul_one]) (cells_take (CG.out _ (by repeat (first | exact Below.refl _ _ | refine Below.drew ?_ | refine Below.alloc ?_ (by first | omega | (simp; done) | (simp; omega)) _))) hki) (one_of_map _) (by omega) (by omega) (by first | omega | (simp; done) | (simp; omega)) ?_; intro v1 w1 hown1 hgrow1; have HO1 := Lib.hid hown1; have HW1 := Lib.hid (((by repeat (first | exact Below.refl _ _ | refine Below.drew ?_ | refine Below.alloc ?_ (by first | omega | (simp; done) | (simp; omega)) _)) : RowKit.Below we.heap.size we _).grown hgrow1 (by first | omega | (simp; done) | (simp; omega)) (fun q hq => by simp [Value.ownBlock] at hq; omega)); have hs1 := HW1.out.size; clear hown1 hgrow1)
              | (refine step_append_ownS _ (by rfl) (.tmp 65) (.tmp 67) 25 (by rfl) we.heap.size 3 i0 (.int .i64 0) 1 8 Tryd.underlying25 hi hi0 hi1 hi2 rfl (by decide) v1 (0 + k) ([] ++ (((bestL lt d.size i).take k).map encN)) (by rfl) HO1.out ⟨we.heap.size, 0, none⟩ 1 1 [.int .i64 (i : Int)] (by first | rfl | (go_simp; done)) rfl HB1.out (one_cell1 _) (by omega) (by omega) (by first | omega | (simp; done) | (simp; omega)) ?_; intro v2 w2 hown2 hgrow2; have HO2 := Lib.hid hown2; have HW2 := Lib.hid ((Below.trans HW1.out ((by repeat (first | exact Below.refl _ _ | refine Below.drew ?_ | refine Below.alloc ?_ (by first | omega | (simp; done) | (simp; omega)) _)) : RowKit.Below we.heap.size w1 _)).grown hgrow2 (by first | omega | (simp; done) | (simp; omega)) (fun q hq => (HO1.out.lt q hq).1)); have hs2 := HW2.out.size; clear hown2 hgrow2)
              | (refine step_append_ownS _ (by rfl) (.tmp 65) (.tmp 67) 25 (by rfl) we.heap.size 3 i0 (.int .i64 0) 1 8 Tryd.underlying25 hi hi0 hi1 hi2 rfl (by decide) v1 (0 + k) ([] ++ (((bestL lt d.size i).take k).map encN)) (by rfl) HO1.out ⟨we.heap.size + 1, 0, none⟩ 1 1 [.int .i64 (i : Int)] (by first | rfl | (go_simp; done)) rfl HB1.out (one_cell1 _) (by omega) (by omega) (by first | omega | (simp; done) | (simp; omega)) ?_; intro v2 w2 hown2 hgrow2; have HO2 := Lib.hid hown2; have HW2 := Lib.hid ((Below.trans HW1.out ((by repeat (first | exact Below.refl _ _ | refine Below.drew ?_ | refine Below.alloc ?_ (by first | omega | (simp; done) | (simp; omega)) _)) : RowKit.Below we.heap.size w1 _)).grown hgrow2 (by first | omega | (simp; done) | (simp; omega)) (fun q hq => (HO1.out.lt q hq).1)); have hs2 := HW2.out.size; clear hown2 hgrow2)
              | (refine step_append_ownS _ (by rfl) (.tmp 65) (.tmp 67) 25 (by rfl) we.heap.size 3 i0 (.int .i64 0) 1 8 Tryd.underlying25 hi hi0 hi1 hi2 rfl (by decide) v1 (0 + k) ([] ++ (((bestL lt d.size i).take k).map encN)) (by rfl) (by exact HO1.out.alloc _) ⟨w1.heap.size, 0, none⟩ 1 1 [.int .i64 (i : Int)] (by first | rfl | (go_simp; done)) rfl (cells_one (by simp [go_sem])) (one_cell1 _) (by omega) (by omega) (by first | omega | (simp; done) | (simp; omega)) ?_; intro v2 w2 hown2 hgrow2; have HO2 := Lib.hid hown2; have HW2 := Lib.hid ((Below.trans HW1.out ((by repeat (first | exact Below.refl _ _ | refine Below.drew ?_ | refine Below.alloc ?_ (by first | omega | (simp; done) | (simp; omega)) _)) : RowKit.Below we.heap.size w1 _)).grown hgrow2 (by first | omega | (simp; done) | (simp; omega)) (fun q hq => (HO1.out.lt q hq).1)); have hs2 := HW2.out.size; clear hown2 hgrow2)
              | (refine step_append_ownS _ (by rfl) (.tmp 68) (.tmp 71) 25 (by rfl) we.heap.size 3 i0 (.int .i64 0) 1 8 Tryd.underlying25 hi hi0 hi1 hi2 rfl (by decide) v2 (0 + k + 1) ([] ++ (((bestL lt d.size i).take k).map encN) ++ [.int .i64 (i : Int)]) (by rfl) HO2.out ⟨g, if cp = k then 0 else k, none⟩ (i - k) (cp - k) (((bestL lt d.size i).drop k).map encN) (by go_simp; by_cases hck : cp = k <;> simp [hck]) (by rw [List.length_map, HLT3.out, Nat.mul_one]) (cells_drop (CG.out _ HW2.out) hicp) (one_of_map _) (by omega) (by omega) (by first | omega | (simp; done) | (simp; omega)) ?_; intro v3 w3 hown3 hgrow3; have HO3 := Lib.hid hown3; have HW3 := Lib.hid (HW2.out.grown hgrow3 (by first | omega | (simp; done) | (simp; omega)) (fun q hq => (HO2.out.lt q hq).1)); clear hown3 hgrow3))
            all_goals
              obtain ⟨g', cp', rfl, hq1, hq2, hq3, hq4, hq5⟩ := best_next (b0 := w.heap.size) (by omega) hlt hki (HQ.out.symm.trans HPK.out) HO3.out
              have HQ5 := Lib.hid hq5
              have hg4 : w.heap.size < g' := by omega
              have HQ4 := Lib.hid hg4
              have HWX := Lib.hid (HW.out.trans ((HBI.out.trans ((HBP.out.mono (by omega)).trans (HW3.out.mono hoe))).mono (by omega)))
              have hz3 := HW3.out.size
              clear hq5 hg4
              go_wp2
              go_roundw
              case rel => exact ⟨i + 1, g', cp', by go_num, by omega, rfl, hq1, hq2, hq3, HQ4.out, HQ5.out, HWX.out, by omega⟩
              case measure => simp [Lib.intOf]; omega
    · obtain rfl : i = d.size := by omega
      have HWW := Lib.hid (HA.out.trans (HW.out.mono (by omega)))
      go_wp2
      go_ret
      refine ⟨_, rfl, ?_, HWW.out⟩
      have e : bestL lt d.size d.size = (slowO d).toList := by
        rw [bestL_all, HLT.out]
        rfl
      rw [← e]
      exact HOW.out

set_option maxRecDepth 100000 in
set_option maxHeartbeats 1000000 in
theorem specWorst_any (b off cap : Nat) (d : Array CaseD) (rest : Int) (w : World) (hR : RowC w b off d) (hcap : d.size ≤ cap) (hmax : cap ≤ maxLen) :
    Calls Tryd.prog 29 #[.agg #[.slice (some ⟨b, off, none⟩) d.size cap, .int .i64 rest]] w (Ints2 w.heap.size (worstN d rest) (swB d rest) w) := by
  have hv := fun W (hW : RowKit.Below w.heap.size w W) => specValid_any b off cap d rest W (hR.below hW) hcap hmax
  have hk := fun W (hW : RowKit.Below w.heap.size w W) (h1 : SwOK d rest) => l3Slow_any b off cap d rest W (hR.below hW) h1
  have HK := Lib.hid hk
  obtain ⟨wa, hwa⟩ : ∃ wa, wa = w.alloc (.cells #[.slice (some ⟨b, off, none⟩) d.size cap, .int .i64 rest] 30) := ⟨_, rfl⟩
  have c0 : wa.cell? ⟨w.heap.size, 0, none⟩ = some (.slice (some ⟨b, off, none⟩) d.size cap) := by rw [hwa]; simp
  have c1 : wa.cell? ⟨w.heap.size, 1, none⟩ = some (.int .i64 rest) := by rw [hwa]; simp
  have hz : w.heap.size < wa.heap.size := by rw [hwa]; simp
  have hba : RowKit.Below w.heap.size w wa := by rw [hwa]; exact (Below.refl _ _).alloc (Nat.le_refl _) _
  have HA := Lib.hid hba
  have C0 := Lib.hid c0
  have C1 := Lib.hid c1
  have HWA := Lib.hid hwa
  clear hba c0 c1 hwa hR hk
  cases hs : swB d rest
  all_goals
    simp only [hs] at hv
    have HV := Lib.hid hv
    have HS := Lib.hid hs
    clear hv hs
    go_enter Tryd.func29, Tryd.ntmps29
    go_wp2_with fail
    rw [← HWA.out]
    refine (HV.out _ HA.out).mono ?_
    rintro x w1 ⟨rfl, hb⟩
    have HB := Lib.hid hb
    have hz1 := hb.size
    have a0 := (hb.cell (p := ⟨w.heap.size, 0, none⟩) hz).trans C0.out
    have a1 := (hb.cell (p := ⟨w.heap.size, 1, none⟩) hz).trans C1.out
    have HWB := Lib.hid (HA.out.trans (HB.out.mono (by omega)))
    clear hb
    go_wp2_with fail
  · go_ret2
    refine ⟨_, rfl, ?_, HWB.out.alloc (by omega) _⟩
    rw [worstN, if_neg (by rw [HS.out]; simp)]
    exact World.ownsRow_made (base := w.heap.size) (e := 3) (size := 1) w1 #[] 0 (by omega) (by unfold maxLen; omega) rfl
  · have hok := (swB_iff d rest).1 HS.out
    refine (HK.out _ HWB.out hok).mono ?_
    rintro x w2 ⟨v, rfl, ho, hb2⟩
    have HO := Lib.hid ho
    have HWS := Lib.hid HWB.out.size
    have HB2 := Lib.hid (HWB.out.trans (hb2.mono HWB.out.size))
    clear hok ho hb2
    go_wp2
    go_ret2
    refine ⟨_, rfl, ?_, HB2.out⟩
    rw [worstN, if_pos HS.out]
    obtain ⟨h1, h2⟩ := HO.out
    refine ⟨h1, ?_⟩
    rcases h2 with h2 | ⟨g, cap', cur, hv', hg, hr⟩
    · exact .inl h2
    · exact .inr ⟨g, cap', cur, hv', Nat.le_trans HWS.out hg, hr⟩
end Go.Proofs.YthchhgjnelkmhaaDoor
