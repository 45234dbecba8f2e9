
/- TargetsOf of the model. -/
import Derived.Test.YtoiljohaicpncaaDoorKsTargetsImpl
namespace Go.Proofs.YtoiljohaicpncaaDoor
open Go.RowKit Go.Shelf Go.Lib Go.Sort

theorem strOf_letters (d : Array CaseD) (i : Nat) : (strOf (lettersTo d i)).size ≤ i := by
  rw [strOf_size]
  exact lettersTo_length d i

set_option maxRecDepth 100000 in
set_option maxHeartbeats 2000000 in
theorem specTargets_any (b off cap : Nat) (d : Array CaseD) (rest : Int) (w : World) (hR : RowC w b off d) (hcap : d.size ≤ cap) (hmax : cap ≤ maxLen) :
    Calls Tryd.prog 14 #[.agg #[.slice (some ⟨b, off, none⟩) d.size cap, .int .i64 rest]] w fun x w' => x = .returned (.tuple #[.string (targetsN d rest), .bool (swB d rest)]) ∧ RowKit.Below w.heap.size w w' := by
  have hv := fun W (hW : RowKit.Below w.heap.size w W) => specValid_any b off cap d rest W (hR.below hW) hcap hmax
  have hk := fun W (hW : RowKit.Below w.heap.size w W) (ho : SwOK d rest) => l1Keys_any b off cap d rest W (hR.below hW) ho
  have HKY := Lib.hid hk
  have HR := Lib.hid hR
  obtain ⟨wa, hwa⟩ : ∃ wa, wa = w.alloc (.cells #[.slice (some ⟨b, off, none⟩) d.size cap, .int .i64 rest] 25) := ⟨_, rfl⟩
  have c0 : wa.cell? ⟨w.heap.size, 0, none⟩ = some (.slice (some ⟨b, off, none⟩) d.size cap) := by rw [hwa]; simp
  have c1 : wa.cell? ⟨w.heap.size, 1, none⟩ = some (.int .i64 rest) := by rw [hwa]; simp
  have hz : w.heap.size < wa.heap.size := by rw [hwa]; simp
  have hba : RowKit.Below w.heap.size w wa := by rw [hwa]; exact (Below.refl _ _).alloc (Nat.le_refl _) _
  have HA := Lib.hid hba
  have C0 := Lib.hid c0
  have C1 := Lib.hid c1
  have HWA := Lib.hid hwa
  clear hba c0 c1 hwa hR hk
  cases hs : swB d rest
  all_goals
    simp only [hs] at hv
    have HV := Lib.hid hv
    have HS := Lib.hid hs
    clear hv hs
    go_enter Tryd.func14, Tryd.ntmps14
    go_wp2_with fail
    rw [← HWA.out]
    refine (HV.out _ HA.out).mono ?_
    rintro x w1 ⟨rfl, hb⟩
    have HB := Lib.hid hb
    have hz1 := hb.size
    clear hb
    go_wp2_with fail
  · go_ret2
    exact ⟨retTg (by rw [targetsN, if_neg (by rw [HS.out]; exact Bool.false_ne_true)]) rfl, HA.out.trans (HB.out.mono (by omega))⟩
  · have HO := Lib.hid ((swB_iff _ _).1 HS.out)
    have h8 : (d.size : Int) ≤ 8 := by have := HO.out.size; omega
    have h8n : d.size ≤ 8 := HO.out.size
    go_loopw [4, 5] (fun v c wr => ∃ i : Nat, c = .int .u8 (97 + (i : Int)) ∧ i ≤ 8 ∧ v = .string (strOf (lettersTo d i)) ∧ Hid (RowKit.Below wa.heap.size wa wr) ∧ wa.heap.size ≤ wr.heap.size) (fun _ c _ => 105 - (intOf c).toNat)
    case atStart => exact ⟨0, by go_num, by omega, rfl, HB.out, hz1⟩
    case round =>
      obtain ⟨i, rfl, hi, rfl, HW, hw2⟩ := hrel
      have HWW := Lib.hid (HA.out.trans (HW.out.mono (by omega)))
      have hsz := strOf_letters d i
      have HLS := Lib.hid (lettersTo_succ d i)
      obtain ⟨t, ht⟩ : ∃ t, t = strOf (lettersTo d i) := ⟨_, rfl⟩
      rw [← ht] at hsz ⊢
      have HT := Lib.hid ht
      clear ht
      have hsz2 : t.size ≤ 8 := by omega
      have b0 := (HW.out.cell (p := ⟨w.heap.size, 0, none⟩) hz).trans C0.out
      have b1 := (HW.out.cell (p := ⟨w.heap.size, 1, none⟩) hz).trans C1.out
      by_cases hlt : i < 8
      · obtain ⟨c, hc⟩ : ∃ c : Int, c = 97 + (i : Int) := ⟨_, rfl⟩
        rw [← hc]
        rw [← hc] at HLS
        have hc1 : 97 ≤ c := by omega
        have hc2 : c ≤ 104 := by omega
        have HC := Lib.hid hc
        clear hc
        have hw8 : IntKind.u8.wrap (c + 1) = c + 1 := by rw [IntKind.wrap]; simp [IntKind.signed, IntKind.bits]; omega
        go_wp2
        go_loopw [6, 19] (fun v i w5 => ∃ k : Nat, i = .int .i64 k ∧ k ≤ d.size ∧ v = .bool (presTo d c k) ∧ Hid (RowKit.Below wa.heap.size wa w5) ∧ wa.heap.size ≤ w5.heap.size) (fun _ i _ => d.size - (intOf i).toNat)
        case atStart => exact ⟨0, rfl, Nat.zero_le _, rfl, HW.out, hw2⟩
        case round =>
          obtain ⟨k, rfl, hk, rfl, HW5, hw5⟩ := hrel
          have HWW5 := Lib.hid (HA.out.trans (HW5.out.mono (by omega)))
          by_cases hlt2 : k < d.size
          · have hx := HR.out.below HWW5.out
            have x0 := hx.low k hlt2
            have x1 := hx.high k hlt2
            have x2 := hx.target k hlt2
            have x3 := hx.weight k hlt2
            have hts := caseB_target' (HO.out.case k hlt2)
            clear hx
            have HPS := Lib.hid (presTo_succ d c k)
            obtain ⟨x, hxe⟩ : ∃ x, x = d[k]! := ⟨_, rfl⟩
            obtain ⟨bt, hbt⟩ := one_byte hts
            have HTG := Lib.hid (show tgJ d k = (bt.toNat : Int) by rw [tgJ, hbt]; rfl)
            rw [← hxe] at x0 x1 x2 x3 hbt
            rw [hbt] at x2
            clear hts hbt hxe
            obtain ⟨pv, hpv⟩ : ∃ pv, pv = presTo d c k := ⟨_, rfl⟩
            rw [← hpv] at HPS ⊢
            clear hpv
            cases pv
            · go_wp2
              go_roundw
              case rel =>
                refine ⟨k + 1, by go_num, by omega, ?_, HW5.out.alloc (by omega) _, by simp; omega⟩
                rw [HPS.out, HTG.out]
                first | rfl | (simp; done) | (simp; rfl)
              case measure => simp [intOf]; omega
            · go_wp2
              go_roundw
              case rel =>
                refine ⟨k + 1, by go_num, by omega, ?_, HW5.out.alloc (by omega) _, by simp; omega⟩
                rw [HPS.out, HTG.out]
                first | rfl | (simp; done) | (simp; rfl)
              case measure => simp [intOf]; omega
          · have hke : k = d.size := by omega
            subst hke
            obtain ⟨pv, hpv⟩ : ∃ pv, pv = presTo d c d.size := ⟨_, rfl⟩
            rw [← hpv] at HLS ⊢
            clear hpv
            cases pv
            · go_wp2
              go_roundw
              case rel => exact ⟨i + 1, by rw [HC.out]; go_num, by omega, by rw [HLS.out, HT.out]; simp, HW5.out, hw5⟩
              case measure => simp [intOf]; omega
            · have hconv := fun W => byte_string c W
              go_wp2
              go_roundw
              case rel => exact ⟨i + 1, by rw [HC.out]; go_num, by omega, by rw [HLS.out, HT.out, if_pos rfl, strOf_snoc], HW5.out.alloc (by omega) _, by simp; omega⟩
              case measure => simp [intOf]; omega
      · have hie : i = 8 := by omega
        subst hie
        have HKC := Lib.hid (HKY.out _ HWW.out HO.out)
        have HKS := Lib.hid (show keysN d rest = sumTo (keyW d) d.size by rw [keysN, if_pos HS.out])
        go_wp2_with fail
        refine HKC.out.mono ?_
        rintro x w4 ⟨rfl, hb4⟩
        have HW4 := Lib.hid (HWW.out.trans (hb4.mono (by have := hz; omega)))
        clear hb4 b0 b1
        obtain ⟨kn, hkn⟩ : ∃ kn, kn = sumTo (keyW d) d.size := ⟨_, rfl⟩
        rw [← hkn] at HKS ⊢
        clear hkn
        have HTN := Lib.hid (show targetsN d rest = strOf (lettersTo d 8 ++ (if kn < 32 then [122] else [])) by rw [targetsN, if_pos HS.out, lettersZ, HKS.out]; simp)
        by_cases hkz : kn ≤ 31
        · go_wp2
          go_ret2
          exact ⟨retTg (by rw [HTN.out, if_pos (by omega), strOf_snoc, HT.out]; rfl) rfl, HW4.out⟩
        · go_wp2
          go_ret2
          exact ⟨retTg (by rw [HTN.out, if_neg (by omega), List.append_nil, HT.out]) rfl, HW4.out⟩
end Go.Proofs.YtoiljohaicpncaaDoor
