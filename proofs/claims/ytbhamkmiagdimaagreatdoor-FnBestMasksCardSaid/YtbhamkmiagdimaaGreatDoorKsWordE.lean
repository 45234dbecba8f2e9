
/- MaskOf and MaskWeight: the model's and the program's. · MasksCost: the model's and the program's. · RunMasks: the model's and the program's. -/
import Derived.Test.YtbhamkmiagdimaaGreatDoorKsWordA
import Derived.Test.YtbhamkmiagdimaaGreatDoorKsWordW
import Derived.IntWalk
namespace Go.Proofs.YtbhamkmiagdimaaGreatDoor
open Go.RowKit Go.Shelf Go.Lib Go.Sort

theorem letN_or (s : ByteArray) : letN s = (oneB s || (s.toList == [122])) := by
  by_cases h : s.size = 1
  · rw [same_z h, letN, oneB, decide_eq_true h, Bool.true_and, Bool.true_and]
    congr 1
  · have h1 : letN s = false := by simp [letN, h]
    have h2 : oneB s = false := by simp [oneB, h]
    have h3 : (s.toList == [122]) = false := by
      cases e : (s.toList == [122]) with
      | false => rfl
      | true =>
        rw [beq_iff_eq, ByteArray.toList_eq] at e
        exfalso
        apply h
        have : s.data.toList.length = 1 := by rw [e]; rfl
        simpa using this
    rw [h1, h2, h3]
    rfl
theorem retMB {a c : Int} {b e : Bool} (h : a = c) (h2 : b = e) : Ending.returned (.tuple #[.int .i64 a, .bool b]) = .returned (.tuple #[.int .i64 c, .bool e]) := by rw [h, h2]

set_option maxRecDepth 100000 in
set_option maxHeartbeats 1000000 in
theorem specMask_any (b off cap : Nat) (d : Array CaseD) (rest : Int) (s : ByteArray) (w : World) (hR : RowC w b off d) (hcap : d.size ≤ cap) (hmax : cap ≤ maxLen) :
    Calls Tryz.prog 11 #[.agg #[.slice (some ⟨b, off, none⟩) d.size cap, .int .i64 rest], .string s] w fun x w' => x = .returned (.tuple #[.int .i64 (maskN d rest s), .bool (maskB d rest s)]) ∧ RowKit.Below w.heap.size w w' := by
  have hv := fun W (hW : RowKit.Below w.heap.size w W) => specValid_any b off cap d rest W (hR.below hW) hcap hmax
  have HM := Lib.hid (fun ho hs W (hW : RowKit.Below w.heap.size w W) => l7Mask_any b off cap d rest s W (hR.below hW) ho hs)
  have ht := fun W => l7Target_any s W
  have HL := Lib.hid (letN_or s)
  obtain ⟨wa, hwa⟩ : ∃ wa, wa = w.alloc (.cells #[.slice (some ⟨b, off, none⟩) d.size cap, .int .i64 rest] 25) := ⟨_, rfl⟩
  have c0 : wa.cell? ⟨w.heap.size, 0, none⟩ = some (.slice (some ⟨b, off, none⟩) d.size cap) := by rw [hwa]; simp
  have c1 : wa.cell? ⟨w.heap.size, 1, none⟩ = some (.int .i64 rest) := by rw [hwa]; simp
  have hz : w.heap.size < wa.heap.size := by rw [hwa]; simp
  have hba : RowKit.Below w.heap.size w wa := by rw [hwa]; exact (Below.refl _ _).alloc (Nat.le_refl _) _
  have HA := Lib.hid hba
  have C0 := Lib.hid c0
  have C1 := Lib.hid c1
  have HWA := Lib.hid hwa
  clear hba c0 c1 hwa hR
  cases hs : swB d rest <;> cases ho : oneB s <;> cases hzz : (s.toList == [122])
  all_goals
    simp only [hs] at hv
    simp only [ho] at ht
    have HV := Lib.hid hv
    have HS := Lib.hid hs
    have HT := Lib.hid ht
    have HLN := Lib.hid (show letN s = (oneB s || (s.toList == [122])) from HL.out)
    rw [ho, hzz] at HLN
    have a0 := C0.out
    have a1 := C1.out
    clear hv hs ho ht
    go_enter Tryz.func11, Tryz.ntmps11
    go_wp2_with fail
    rw [← HWA.out]
    refine (HV.out _ HA.out).mono ?_
    rintro x w1 ⟨rfl, hb⟩
    have HB := Lib.hid hb
    have hz1 := hb.size
    have b0 := (hb.cell (p := ⟨w.heap.size, 0, none⟩) hz).trans C0.out
    have b1 := (hb.cell (p := ⟨w.heap.size, 1, none⟩) hz).trans C1.out
    have HWB := Lib.hid (HA.out.trans (HB.out.mono (by omega)))
    clear hb a0 a1
    go_wp2_with (go_at_call 50; refine (HT.out _).mono ?_; rintro y w2 ⟨rfl, rfl⟩)
  iterate 4
    · go_ret2
      exact ⟨retMB (by simp [maskN, maskB, HS.out]) (by simp [maskB, HS.out]), HWB.out⟩
  · go_ret2
    exact ⟨retMB (by simp [maskN, maskB, HLN.out]) (by simp [maskB, HLN.out]), HWB.out⟩
  all_goals
    have HS1 := Lib.hid (letN_size (show letN s = true from HLN.out))
    refine (HM.out ((swB_iff _ _).1 HS.out) HS1.out _ HWB.out).mono ?_
    rintro x w2 ⟨rfl, hb2⟩
    have HB2 := Lib.hid (HWB.out.trans (hb2.mono (by omega)))
    clear hb2
    go_wp2
    go_ret2
    exact ⟨retMB (by simp [maskN, maskB, HS.out, HLN.out]) (by simp [maskB, HS.out, HLN.out]), HB2.out⟩

set_option maxRecDepth 100000 in
set_option maxHeartbeats 1000000 in
theorem implMask_any (b off cap : Nat) (d : Array CaseD) (rest : Int) (s : ByteArray) (w : World) (hR : RowC w b off d) (hE : ErrAt w) (hcap : d.size ≤ cap) (hmax : cap ≤ maxLen) :
    Calls Tryz.prog 10 #[.agg #[.slice (some ⟨b, off, none⟩) d.size cap, .int .i64 rest], .string s] w fun x w' => x = .returned (.tuple #[.int .i64 (maskN d rest s), .bool (maskB d rest s)]) ∧ RowKit.Below w.heap.size w w' := by
  have hv := fun W (hW : RowKit.Below w.heap.size w W) => switchValid_any b off cap d rest W (hR.below hW) (hE.below hW) hcap hmax
  have ht := fun W => readLetter_any s W
  have HM := Lib.hid (fun ho W (hW : RowKit.Below w.heap.size w W) => wordOf_any b off cap d rest (tg0 s) W (hR.below hW) ho)
  obtain ⟨wa, hwa⟩ : ∃ wa, wa = w.alloc (.cells #[.slice (some ⟨b, off, none⟩) d.size cap, .int .i64 rest] 25) := ⟨_, rfl⟩
  have c0 : wa.cell? ⟨w.heap.size, 0, none⟩ = some (.slice (some ⟨b, off, none⟩) d.size cap) := by rw [hwa]; simp
  have c1 : wa.cell? ⟨w.heap.size, 1, none⟩ = some (.int .i64 rest) := by rw [hwa]; simp
  have hz : w.heap.size < wa.heap.size := by rw [hwa]; simp
  have hba : RowKit.Below w.heap.size w wa := by rw [hwa]; exact (Below.refl _ _).alloc (Nat.le_refl _) _
  have HA := Lib.hid hba
  have C0 := Lib.hid c0
  have C1 := Lib.hid c1
  have HWA := Lib.hid hwa
  clear hba c0 c1 hwa hR hE
  cases ho : letN s
  · rw [ho] at ht
    have HT := Lib.hid ht
    have HO := Lib.hid ho
    clear ht ho hv HM
    go_enter Tryz.func10, Tryz.ntmps10
    go_wp2_with (go_at_call 49; refine (HT.out _).mono ?_; rintro y w2 ⟨rfl, rfl⟩)
    try rw [← HWA.out]
    go_ret2
    exact ⟨retMB (by simp [maskN, maskB, HO.out]) (by simp [maskB, HO.out]), HA.out⟩
  · rw [ho] at ht
    have hlz : letZ s = tg0 s := by rw [letZ, if_pos ho]
    rw [hlz] at ht
    skip
    have HT := Lib.hid ht
    have HO := Lib.hid ho
    have a0 := C0.out
    have a1 := C1.out
    clear ht ho hlz
    cases hs : swB d rest
    all_goals
      simp only [hs] at hv
      have HV := Lib.hid hv
      have HS := Lib.hid hs
      clear hv hs
      go_enter Tryz.func10, Tryz.ntmps10
      go_wp2_with (go_at_call 49; refine (HT.out _).mono ?_; rintro y w2 ⟨rfl, rfl⟩; rw [← HWA.out])
      refine (HV.out _ HA.out).mono ?_
      rintro x w1 ⟨rfl, hb⟩
      have HB := Lib.hid hb
      have hz1 := hb.size
      have b0 := (hb.cell (p := ⟨w.heap.size, 0, none⟩) hz).trans C0.out
      have b1 := (hb.cell (p := ⟨w.heap.size, 1, none⟩) hz).trans C1.out
      have HWB := Lib.hid (HA.out.trans (HB.out.mono (by omega)))
      clear hb a0 a1
      go_wp2_with fail
    · go_ret2
      exact ⟨retMB (by simp [maskN, maskB, HS.out]) (by simp [maskB, HS.out]), HWB.out⟩
    · refine (HM.out ((swB_iff _ _).1 HS.out) _ HWB.out).mono ?_
      rintro x w3 ⟨rfl, hb2⟩
      have HB2 := Lib.hid (HWB.out.trans (hb2.mono (by omega)))
      clear hb2
      have hm := wordN_lt d (tg0 s) (n := 32) (by omega)
      have hcvt : wrap64 (wordN d (tg0 s) 32 : Int) = (wordN d (tg0 s) 32 : Int) := by unfold wrap64; omega
      go_wp2
      go_ret2
      exact ⟨retMB (by simp [maskN, maskB, HS.out, HO.out]) (by simp [maskB, HS.out, HO.out]), HB2.out⟩

set_option maxRecDepth 100000 in
set_option maxHeartbeats 1000000 in
theorem specWgt_any (b off cap : Nat) (d : Array CaseD) (rest : Int) (s : ByteArray) (w : World) (hR : RowC w b off d) (hcap : d.size ≤ cap) (hmax : cap ≤ maxLen) :
    Calls Tryz.prog 21 #[.agg #[.slice (some ⟨b, off, none⟩) d.size cap, .int .i64 rest], .string s] w fun x w' => x = .returned (.int .i64 (mwgtN d rest s)) ∧ RowKit.Below w.heap.size w w' := by
  have hv := fun W (hW : RowKit.Below w.heap.size w W) => specValid_any b off cap d rest W (hR.below hW) hcap hmax
  have HM := Lib.hid (fun ho hs W (hW : RowKit.Below w.heap.size w W) => l7Weight_any b off cap d rest s W (hR.below hW) ho hs)
  have ht := fun W => l7Target_any s W
  have HL := Lib.hid (letN_or s)
  obtain ⟨wa, hwa⟩ : ∃ wa, wa = w.alloc (.cells #[.slice (some ⟨b, off, none⟩) d.size cap, .int .i64 rest] 25) := ⟨_, rfl⟩
  have c0 : wa.cell? ⟨w.heap.size, 0, none⟩ = some (.slice (some ⟨b, off, none⟩) d.size cap) := by rw [hwa]; simp
  have c1 : wa.cell? ⟨w.heap.size, 1, none⟩ = some (.int .i64 rest) := by rw [hwa]; simp
  have hz : w.heap.size < wa.heap.size := by rw [hwa]; simp
  have hba : RowKit.Below w.heap.size w wa := by rw [hwa]; exact (Below.refl _ _).alloc (Nat.le_refl _) _
  have HA := Lib.hid hba
  have C0 := Lib.hid c0
  have C1 := Lib.hid c1
  have HWA := Lib.hid hwa
  clear hba c0 c1 hwa hR
  cases hs : swB d rest <;> cases ho : oneB s <;> cases hzz : (s.toList == [122])
  all_goals
    simp only [hs] at hv
    simp only [ho] at ht
    have HV := Lib.hid hv
    have HS := Lib.hid hs
    have HT := Lib.hid ht
    have HLN := Lib.hid (show letN s = (oneB s || (s.toList == [122])) from HL.out)
    rw [ho, hzz] at HLN
    have a0 := C0.out
    have a1 := C1.out
    clear hv hs ho ht
    go_enter Tryz.func21, Tryz.ntmps21
    go_wp2_with fail
    rw [← HWA.out]
    refine (HV.out _ HA.out).mono ?_
    rintro x w1 ⟨rfl, hb⟩
    have HB := Lib.hid hb
    have hz1 := hb.size
    have b0 := (hb.cell (p := ⟨w.heap.size, 0, none⟩) hz).trans C0.out
    have b1 := (hb.cell (p := ⟨w.heap.size, 1, none⟩) hz).trans C1.out
    have HWB := Lib.hid (HA.out.trans (HB.out.mono (by omega)))
    clear hb a0 a1
    go_wp2_with (go_at_call 50; refine (HT.out _).mono ?_; rintro y w2 ⟨rfl, rfl⟩)
  iterate 4
    · go_ret
      exact ⟨retI (by simp [mwgtN, maskB, HS.out]), HWB.out⟩
  · go_ret
    exact ⟨retI (by simp [mwgtN, maskB, HLN.out]), HWB.out⟩
  all_goals
    have HS1 := Lib.hid (letN_size (show letN s = true from HLN.out))
    refine (HM.out ((swB_iff _ _).1 HS.out) HS1.out _ HWB.out).mono ?_
    rintro x w2 ⟨rfl, hb2⟩
    have HB2 := Lib.hid (HWB.out.trans (hb2.mono (by omega)))
    clear hb2
    go_wp2
    go_ret
    exact ⟨retI (by simp [mwgtN, maskB, HS.out, HLN.out]), HB2.out⟩

set_option maxRecDepth 100000 in
set_option maxHeartbeats 1000000 in
theorem implWgt_any (b off cap : Nat) (d : Array CaseD) (rest : Int) (s : ByteArray) (w : World) (hR : RowC w b off d) (hE : ErrAt w) (hcap : d.size ≤ cap) (hmax : cap ≤ maxLen) :
    Calls Tryz.prog 20 #[.agg #[.slice (some ⟨b, off, none⟩) d.size cap, .int .i64 rest], .string s] w fun x w' => x = .returned (.int .i64 (mwgtN d rest s)) ∧ RowKit.Below w.heap.size w w' := by
  have hv := fun W (hW : RowKit.Below w.heap.size w W) => switchValid_any b off cap d rest W (hR.below hW) (hE.below hW) hcap hmax
  have ht := fun W => readLetter_any s W
  have HM := Lib.hid (fun (c : UInt8) ho W (hW : RowKit.Below w.heap.size w W) => weightOf_any b off cap d rest c W (hR.below hW) ho)
  obtain ⟨wa, hwa⟩ : ∃ wa, wa = w.alloc (.cells #[.slice (some ⟨b, off, none⟩) d.size cap, .int .i64 rest] 25) := ⟨_, rfl⟩
  have c0 : wa.cell? ⟨w.heap.size, 0, none⟩ = some (.slice (some ⟨b, off, none⟩) d.size cap) := by rw [hwa]; simp
  have c1 : wa.cell? ⟨w.heap.size, 1, none⟩ = some (.int .i64 rest) := by rw [hwa]; simp
  have hz : w.heap.size < wa.heap.size := by rw [hwa]; simp
  have hba : RowKit.Below w.heap.size w wa := by rw [hwa]; exact (Below.refl _ _).alloc (Nat.le_refl _) _
  have HA := Lib.hid hba
  have C0 := Lib.hid c0
  have C1 := Lib.hid c1
  have HWA := Lib.hid hwa
  clear hba c0 c1 hwa hR hE
  cases ho : letN s
  · rw [ho] at ht
    have HT := Lib.hid ht
    have HO := Lib.hid ho
    clear ht ho hv HM
    go_enter Tryz.func20, Tryz.ntmps20
    go_wp2_with (go_at_call 49; refine (HT.out _).mono ?_; rintro y w2 ⟨rfl, rfl⟩)
    try rw [← HWA.out]
    go_ret
    exact ⟨retI (by simp [mwgtN, maskB, HO.out]), HA.out⟩
  · rw [ho] at ht
    have hlz : letZ s = tg0 s := by rw [letZ, if_pos ho]
    rw [hlz] at ht
    obtain ⟨c, hc⟩ : ∃ c : UInt8, tg0 s = (c.toNat : Int) := by
      obtain ⟨c, rfl⟩ := one_byte (letN_size ho)
      exact ⟨c, rfl⟩
    rw [hc] at ht
    have HTC := Lib.hid hc
    clear hc
    have HT := Lib.hid ht
    have HO := Lib.hid ho
    have a0 := C0.out
    have a1 := C1.out
    clear ht ho hlz
    cases hs : swB d rest
    all_goals
      simp only [hs] at hv
      have HV := Lib.hid hv
      have HS := Lib.hid hs
      clear hv hs
      go_enter Tryz.func20, Tryz.ntmps20
      go_wp2_with (go_at_call 49; refine (HT.out _).mono ?_; rintro y w2 ⟨rfl, rfl⟩; rw [← HWA.out])
      refine (HV.out _ HA.out).mono ?_
      rintro x w1 ⟨rfl, hb⟩
      have HB := Lib.hid hb
      have hz1 := hb.size
      have b0 := (hb.cell (p := ⟨w.heap.size, 0, none⟩) hz).trans C0.out
      have b1 := (hb.cell (p := ⟨w.heap.size, 1, none⟩) hz).trans C1.out
      have HWB := Lib.hid (HA.out.trans (HB.out.mono (by omega)))
      clear hb a0 a1
      go_wp2_with fail
    · go_ret
      exact ⟨retI (by simp [mwgtN, maskB, HS.out]), HWB.out⟩
    · refine (HM.out c ((swB_iff _ _).1 HS.out) _ HWB.out).mono ?_
      rintro x w3 ⟨rfl, hb2⟩
      have HB2 := Lib.hid (HWB.out.trans (hb2.mono (by omega)))
      clear hb2
      skip
      go_wp2
      go_ret
      exact ⟨retI (by simp [mwgtN, maskB, HS.out, HO.out, HTC.out]), HB2.out⟩
end Go.Proofs.YtbhamkmiagdimaaGreatDoor

namespace Go.Proofs.YtbhamkmiagdimaaGreatDoor
open Go.RowKit Go.Shelf Go.Lib Go.Sort

/-- The cost behind k words. -/
def costW (d : Array CaseD) (rest : Int) (s : ByteArray) : Nat → Int
  | 0 => rest * s.size
  | k + 1 => costW d rest s k + wgtT d rest (byteN s k : Int) * ((k : Int) + 1)
theorem mul_range {g : Int} {k : Nat} (h0 : 0 ≤ g) (h1 : g ≤ 800) (hk : k < 8) : 0 ≤ g * ((k : Int) + 1) ∧ g * ((k : Int) + 1) ≤ 6400 := by
  constructor
  · exact Int.mul_nonneg h0 (by omega)
  · have := Int.mul_le_mul h1 (show (k : Int) + 1 ≤ 8 by omega) (by omega) (by omega)
    omega
theorem costW_le {d : Array CaseD} {rest : Int} (h : SwOK d rest) (s : ByteArray) (hs : s.size ≤ 8) : ∀ k, k ≤ s.size → 0 ≤ costW d rest s k ∧ costW d rest s k ≤ 800 + 6400 * k
  | 0, _ => by
    have h3 := h.rest
    simp only [wgtB, decide_eq_true_eq] at h3
    unfold costW
    constructor
    · exact Int.mul_nonneg h3.1 (by omega)
    · have := Int.mul_le_mul h3.2 (show (s.size : Int) ≤ 8 by omega) (by omega) (by omega)
      omega
  | k + 1, hk => by
    have ih := costW_le h s hs k (by omega)
    have hw := wgtT_le h (byteN s k : Int)
    have := mul_range hw.1 hw.2 (show k < 8 by omega)
    simp only [costW]
    omega
noncomputable def mcostB (d : Array CaseD) (rest : Int) (s : ByteArray) : Bool := swB d rest && ordWB d s
noncomputable def mcostN (d : Array CaseD) (rest : Int) (s : ByteArray) : Int := if mcostB d rest s = true then costW d rest s s.size else -1
theorem ordW_small {d : Array CaseD} {s : ByteArray} (h : OrdW d s) : s.size ≤ 8 := by
  have := h.1
  have := lettersTo_length d 8
  omega
theorem extract_size1 {s : ByteArray} {k : Nat} (hk : k < s.size) : (s.extract k (k + 1)).size = 1 := by
  rw [ByteArray.size_extract]
  omega
theorem extract_tg {s : ByteArray} {k : Nat} (hk : k < s.size) : tg0 (s.extract k (k + 1)) = (byteN s k : Int) := by
  have h1 := extract_size1 hk
  have h0 : 0 < (s.extract k (k + 1)).size := by omega
  rw [tg0, dif_pos h0, ← byteN_get hk]
  congr 2
  rw [ByteArray.getElem_extract]
  simp

set_option maxRecDepth 100000 in
set_option maxHeartbeats 1000000 in
theorem specMCost_any (b off cap : Nat) (d : Array CaseD) (rest : Int) (s : ByteArray) (w : World) (hR : RowC w b off d) (hcap : d.size ≤ cap) (hmax : cap ≤ maxLen) (hs : s.size ≤ 1048576) :
    Calls Tryz.prog 19 #[.agg #[.slice (some ⟨b, off, none⟩) d.size cap, .int .i64 rest], .string s] w fun x w' => x = .returned (.int .i64 (mcostN d rest s)) ∧ RowKit.Below w.heap.size w w' := by
  have hv := fun W (hW : RowKit.Below w.heap.size w W) => specValid_any b off cap d rest W (hR.below hW) hcap hmax
  have HM := Lib.hid (fun ho (t : ByteArray) ht W (hW : RowKit.Below w.heap.size w W) => l7Weight_any b off cap d rest t W (hR.below hW) ho ht)
  have hot := fun ho W (hW : RowKit.Below w.heap.size w W) => l7Order_any b off cap d rest s W (hR.below hW) ho hs
  have hsi : (s.size : Int) ≤ 1048576 := by omega
  obtain ⟨wa, hwa⟩ : ∃ wa, wa = w.alloc (.cells #[.slice (some ⟨b, off, none⟩) d.size cap, .int .i64 rest] 25) := ⟨_, rfl⟩
  have c0 : wa.cell? ⟨w.heap.size, 0, none⟩ = some (.slice (some ⟨b, off, none⟩) d.size cap) := by rw [hwa]; simp
  have c1 : wa.cell? ⟨w.heap.size, 1, none⟩ = some (.int .i64 rest) := by rw [hwa]; simp
  have hz : w.heap.size < wa.heap.size := by rw [hwa]; simp
  have hba : RowKit.Below w.heap.size w wa := by rw [hwa]; exact (Below.refl _ _).alloc (Nat.le_refl _) _
  have HA := Lib.hid hba
  have C0 := Lib.hid c0
  have C1 := Lib.hid c1
  have HWA := Lib.hid hwa
  clear hba c0 c1 hwa hR
  cases hsw : swB d rest
  · rw [hsw] at hv
    have HV := Lib.hid hv
    have HS := Lib.hid hsw
    have a0 := C0.out
    have a1 := C1.out
    clear hv hsw hot
    go_enter Tryz.func19, Tryz.ntmps19
    go_wp2_with fail
    rw [← HWA.out]
    refine (HV.out _ HA.out).mono ?_
    rintro x w1 ⟨rfl, hb⟩
    have HB := Lib.hid (HA.out.trans (hb.mono HA.out.size))
    clear hb a0 a1
    go_wp2_with fail
    go_ret
    exact ⟨retI (by simp [mcostN, mcostB, HS.out]), HB.out⟩
  · have hot2 := hot ((swB_iff _ _).1 hsw)
    rw [hsw] at hv
    cases hor : ordWB d s
    all_goals
      rw [hor] at hot2
      have HV := Lib.hid hv
      have HS := Lib.hid hsw
      have HOR := Lib.hid hor
      have HOT := Lib.hid hot2
      have a0 := C0.out
      have a1 := C1.out
      clear hv hsw hot hot2 hor
      go_enter Tryz.func19, Tryz.ntmps19
      go_wp2_with fail
      rw [← HWA.out]
      refine (HV.out _ HA.out).mono ?_
      rintro x w1 ⟨rfl, hb⟩
      have HB := Lib.hid (HA.out.trans (hb.mono HA.out.size))
      have HBA := Lib.hid hb
      have b0 := (hb.cell (p := ⟨w.heap.size, 0, none⟩) hz).trans C0.out
      have b1 := (hb.cell (p := ⟨w.heap.size, 1, none⟩) hz).trans C1.out
      clear hb a0 a1
      go_wp2_with fail
      refine (HOT.out _ HB.out).mono ?_
      rintro x w2 ⟨rfl, hb⟩
      have HB2 := Lib.hid (HB.out.trans (hb.mono HB.out.size))
      have HBA2 := Lib.hid (HBA.out.trans (hb.mono HBA.out.size))
      have b0 := (HBA2.out.cell (p := ⟨w.heap.size, 0, none⟩) hz).trans C0.out
      have b1 := (HBA2.out.cell (p := ⟨w.heap.size, 1, none⟩) hz).trans C1.out
      clear hb
    · go_wp2_with fail
      go_ret
      exact ⟨retI (by simp [mcostN, mcostB, HS.out, HOR.out]), HB2.out⟩
    · have HO := Lib.hid ((swB_iff _ _).1 HS.out)
      have HW := Lib.hid ((ordWB_iff _ _).1 HOR.out)
      have hs8 := ordW_small HW.out
      have hs8i : (s.size : Int) ≤ 8 := by omega
      have hc0 := costW_le HO.out s hs8 0 (by omega)
      simp only [costW] at hc0
      have hmw : IntKind.i64.wrap (rest * (s.size : Int)) = rest * (s.size : Int) := IntWalk.i64_in _ (by omega)
      clear hc0
      go_wp2_with fail
      go_loopw [5, 23] (fun v i wr => ∃ k : Nat, i = .int .i64 k ∧ k ≤ s.size ∧ v = .int .i64 (costW d rest s k) ∧ Hid (RowKit.Below wa.heap.size wa wr)) (fun _ i _ => s.size - (intOf i).toNat)
      case atStart => exact ⟨0, rfl, Nat.zero_le _, rfl, HBA2.out⟩
      case round =>
        obtain ⟨k, rfl, hk, rfl, HR3⟩ := hrel
        have HWW := Lib.hid (HA.out.trans (HR3.out.mono HA.out.size))
        by_cases hlt : k < s.size
        · have hki : (k : Int) < (s.size : Int) := by omega
          have hcl := costW_le HO.out s hs8 k (by omega)
          have hwl := wgtT_le HO.out (byteN s k : Int)
          have hml := mul_range hwl.1 hwl.2 (show k < 8 by omega)
          have HSTEP := Lib.hid (show costW d rest s (k + 1) = costW d rest s k + wgtT d rest (byteN s k : Int) * ((k : Int) + 1) from rfl)
          have zr : w.heap.size < wr.heap.size := by have := HR3.out.size; omega
          have q0 := fun p : BW wr => p.cell zr ((HR3.out.cell (p := ⟨w.heap.size, 0, none⟩) hz).trans C0.out)
          have q1 := fun p : BW wr => p.cell zr ((HR3.out.cell (p := ⟨w.heap.size, 1, none⟩) hz).trans C1.out)
          have gc := fun p : BW wr => HM.out HO.out (s.extract k (k + 1)) (extract_size1 hlt) p.W (HWW.out.trans (p.h.mono HWW.out.size))
          rw [extract_tg hlt] at gc
          obtain ⟨g, hg⟩ : ∃ g, g = wgtT d rest (byteN s k : Int) := ⟨_, rfl⟩
          rw [← hg] at gc HSTEP hwl hml
          obtain ⟨m, hm⟩ : ∃ m, m = costW d rest s k := ⟨_, rfl⟩
          rw [← hm] at HSTEP hcl ⊢
          clear hg hm
          have GC := Lib.hid gc
          clear gc
          rw [Int.mul_comm] at hml
          have hw2 : IntKind.i64.wrap (((k : Int) + 1) * g) = ((k : Int) + 1) * g := IntWalk.i64_in _ (by omega)
          have hw3 : IntKind.i64.wrap (m + ((k : Int) + 1) * g) = m + ((k : Int) + 1) * g := IntWalk.i64_in _ (by omega)
          clear hml hcl hwl
          go_wp2_with fail
          refine wp_region_bw (by kernel_rfl) (by kernel_rfl) ?_
          repeat (go_big_quiet_step (with_reducible refine bw_of (GC.out _)))
          refine wpQuiet_nil ?_
          rintro _ ⟨⟨W', hBW⟩, rfl⟩
          have HBW := Lib.hid (HR3.out.trans (hBW.mono HR3.out.size))
          clear hBW
          go_wp2_with fail
          go_roundw
          case rel => exact ⟨k + 1, by go_num, by omega, by rw [HSTEP.out, Int.mul_comm], HBW.out⟩
          case measure => simp [intOf]; omega
        · have hke : k = s.size := by omega
          subst hke
          go_wp2_with fail
          go_ret
          exact ⟨retI (by simp [mcostN, mcostB, HS.out, HOR.out]), HWW.out⟩

set_option maxRecDepth 100000 in
set_option maxHeartbeats 1000000 in
theorem implMCost_any (b off cap : Nat) (d : Array CaseD) (rest : Int) (s : ByteArray) (w : World) (hR : RowC w b off d) (hE : ErrAt w) (hcap : d.size ≤ cap) (hmax : cap ≤ maxLen) (hs : s.size ≤ 1048576) :
    Calls Tryz.prog 17 #[.agg #[.slice (some ⟨b, off, none⟩) d.size cap, .int .i64 rest], .string s] w fun x w' => x = .returned (.int .i64 (mcostN d rest s)) ∧ RowKit.Below w.heap.size w w' := by
  have ho := fun W (hW : RowKit.Below w.heap.size w W) => isWordOrder_any b off cap d rest s W (hR.below hW) (hE.below hW) hcap hmax hs
  have HM := Lib.hid (fun ho (c : UInt8) W (hW : RowKit.Below w.heap.size w W) => weightOf_any b off cap d rest c W (hR.below hW) ho)
  have hsi : (s.size : Int) ≤ 1048576 := by omega
  obtain ⟨wa, hwa⟩ : ∃ wa, wa = w.alloc (.cells #[.slice (some ⟨b, off, none⟩) d.size cap, .int .i64 rest] 25) := ⟨_, rfl⟩
  have c0 : wa.cell? ⟨w.heap.size, 0, none⟩ = some (.slice (some ⟨b, off, none⟩) d.size cap) := by rw [hwa]; simp
  have c1 : wa.cell? ⟨w.heap.size, 1, none⟩ = some (.int .i64 rest) := by rw [hwa]; simp
  have hz : w.heap.size < wa.heap.size := by rw [hwa]; simp
  have hba : RowKit.Below w.heap.size w wa := by rw [hwa]; exact (Below.refl _ _).alloc (Nat.le_refl _) _
  have HA := Lib.hid hba
  have C0 := Lib.hid c0
  have C1 := Lib.hid c1
  have HWA := Lib.hid hwa
  clear hba c0 c1 hwa hR hE
  have HMB := Lib.hid (show mcostB d rest s = (swB d rest && ordWB d s) from rfl)
  cases hq : (swB d rest && ordWB d s)
  all_goals
    rw [hq] at ho HMB
    have HV := Lib.hid ho
    have HQ := Lib.hid hq
    have a0 := C0.out
    have a1 := C1.out
    clear ho hq
    go_enter Tryz.func17, Tryz.ntmps17
    go_wp2_with fail
    rw [← HWA.out]
    refine (HV.out _ HA.out).mono ?_
    rintro x w1 ⟨rfl, hb⟩
    have HB := Lib.hid (HA.out.trans (hb.mono HA.out.size))
    have HBA := Lib.hid hb
    have b0 := (hb.cell (p := ⟨w.heap.size, 0, none⟩) hz).trans C0.out
    have b1 := (hb.cell (p := ⟨w.heap.size, 1, none⟩) hz).trans C1.out
    clear hb a0 a1
  · go_wp2_with fail
    go_ret
    exact ⟨retI (by rw [mcostN, if_neg (by rw [HMB.out]; exact Bool.false_ne_true)]), HB.out⟩
  · have hq2 := HQ.out
    rw [Bool.and_eq_true] at hq2
    have HO := Lib.hid ((swB_iff _ _).1 hq2.1)
    have HW := Lib.hid ((ordWB_iff _ _).1 hq2.2)
    clear hq2
    have hs8 := ordW_small HW.out
    have hs8i : (s.size : Int) ≤ 8 := by omega
    have hc0 := costW_le HO.out s hs8 0 (by omega)
    simp only [costW] at hc0
    have hmw : IntKind.i64.wrap (rest * (s.size : Int)) = rest * (s.size : Int) := IntWalk.i64_in _ (by omega)
    clear hc0
    go_wp2_with fail
    go_loopw [5, 18] (fun v i wr => ∃ k : Nat, i = .int .i64 k ∧ k ≤ s.size ∧ v = .int .i64 (costW d rest s k) ∧ Hid (RowKit.Below wa.heap.size wa wr)) (fun _ i _ => s.size - (intOf i).toNat)
    case atStart => exact ⟨0, rfl, Nat.zero_le _, rfl, HBA.out⟩
    case round =>
      obtain ⟨k, rfl, hk, rfl, HR3⟩ := hrel
      have HWW := Lib.hid (HA.out.trans (HR3.out.mono HA.out.size))
      by_cases hlt : k < s.size
      · have hki : (k : Int) < (s.size : Int) := by omega
        have hcl := costW_le HO.out s hs8 k (by omega)
        have hwl := wgtT_le HO.out (byteN s k : Int)
        have hml := mul_range hwl.1 hwl.2 (show k < 8 by omega)
        have HSTEP := Lib.hid (show costW d rest s (k + 1) = costW d rest s k + wgtT d rest (byteN s k : Int) * ((k : Int) + 1) from rfl)
        have zr : w.heap.size < wr.heap.size := by have := HR3.out.size; omega
        have q0 := fun p : BW wr => p.cell zr ((HR3.out.cell (p := ⟨w.heap.size, 0, none⟩) hz).trans C0.out)
        have q1 := fun p : BW wr => p.cell zr ((HR3.out.cell (p := ⟨w.heap.size, 1, none⟩) hz).trans C1.out)
        have gc := fun p : BW wr => HM.out HO.out s[k] p.W (HWW.out.trans (p.h.mono HWW.out.size))
        have hbg := byteN_get hlt
        rw [← hbg] at HSTEP hwl hml
        clear hbg
        obtain ⟨g, hg⟩ : ∃ g, g = wgtT d rest (s[k].toNat : Int) := ⟨_, rfl⟩
        rw [← hg] at gc HSTEP hwl hml
        obtain ⟨m, hm⟩ : ∃ m, m = costW d rest s k := ⟨_, rfl⟩
        rw [← hm] at HSTEP hcl ⊢
        clear hg hm
        have GC := Lib.hid gc
        clear gc
        have hw2 : IntKind.i64.wrap (g * ((k : Int) + 1)) = g * ((k : Int) + 1) := IntWalk.i64_in _ (by omega)
        have hw3 : IntKind.i64.wrap (m + g * ((k : Int) + 1)) = m + g * ((k : Int) + 1) := IntWalk.i64_in _ (by omega)
        clear hml hcl hwl
        go_wp2_with fail
        refine wp_region_bw (by kernel_rfl) (by kernel_rfl) ?_
        repeat (go_big_quiet_step (with_reducible refine bw_of (GC.out _)))
        refine wpQuiet_nil ?_
        rintro _ ⟨⟨W', hBW⟩, rfl⟩
        have HBW := Lib.hid (HR3.out.trans (hBW.mono HR3.out.size))
        clear hBW
        go_wp2_with fail
        go_roundw
        case rel => exact ⟨k + 1, by go_num, by omega, by rw [HSTEP.out], HBW.out⟩
        case measure => simp [intOf]; omega
      · have hke : k = s.size := by omega
        subst hke
        go_wp2_with fail
        go_ret
        exact ⟨retI (by rw [mcostN, if_pos (by rw [HMB.out])]), HWW.out⟩
end Go.Proofs.YtbhamkmiagdimaaGreatDoor

namespace Go.Proofs.YtbhamkmiagdimaaGreatDoor
open Go.RowKit Go.Shelf Go.Lib Go.Sort

/-- The first word of an order that has a key. -/
def firstW (d : Array CaseD) (s : ByteArray) (key : Nat) : Option Nat := (List.range s.size).find? fun k => (byteN s k : Int) == goB d key
theorem firstW_hit {d : Array CaseD} {s : ByteArray} {key k : Nat} (hk : k < s.size) (h : goB d key = (byteN s k : Int)) (hn : ∀ j, j < k → goB d key ≠ (byteN s j : Int)) : firstW d s key = some k := by
  rw [firstW, List.find?_range_eq_some]
  refine ⟨by rw [h]; simp, List.mem_range.2 hk, fun j hj => ?_⟩
  have := hn j hj
  have e : ((byteN s j : Int) == goB d key) = false := by simpa using fun x => this x.symm
  simp [e]
theorem firstW_miss {d : Array CaseD} {s : ByteArray} {key : Nat} (hn : ∀ j, j < s.size → goB d key ≠ (byteN s j : Int)) : firstW d s key = none := by
  rw [firstW, List.find?_eq_none]
  intro j hj
  have := hn j (List.mem_range.1 hj)
  have e : ((byteN s j : Int) == goB d key) = false := by simpa using fun x => this x.symm
  simp [e]
noncomputable def mrunB (d : Array CaseD) (rest key : Int) (s : ByteArray) : Bool := swB d rest && ordWB d s && keyB key
def mrunT (d : Array CaseD) (s : ByteArray) (key : Nat) : ByteArray := match firstW d s key with | some k => s.extract k (k + 1) | none => zS
def mrunC (d : Array CaseD) (s : ByteArray) (key : Nat) : Int := match firstW d s key with | some k => (k : Int) + 1 | none => (s.size : Int)
noncomputable def mrunTN (d : Array CaseD) (rest key : Int) (s : ByteArray) : ByteArray := if mrunB d rest key s = true then mrunT d s key.toNat else ⟨#[]⟩
noncomputable def mrunCN (d : Array CaseD) (rest key : Int) (s : ByteArray) : Int := if mrunB d rest key s = true then mrunC d s key.toNat else 0
theorem ret3 {a c : ByteArray} {b e : Int} {f g : Bool} (h : a = c) (h2 : b = e) (h3 : f = g) : Ending.returned (.tuple #[.string a, .int .i64 b, .bool f]) = .returned (.tuple #[.string c, .int .i64 e, .bool g]) := by rw [h, h2, h3]
theorem mrun_no {d : Array CaseD} {rest key : Int} {s : ByteArray} (h : mrunB d rest key s = false) : Ending.returned (.tuple #[.string ⟨#[]⟩, .int .i64 0, .bool false]) = .returned (.tuple #[.string (mrunTN d rest key s), .int .i64 (mrunCN d rest key s), .bool (mrunB d rest key s)]) :=
  ret3 (by rw [mrunTN, if_neg (by rw [h]; exact Bool.false_ne_true)]) (by rw [mrunCN, if_neg (by rw [h]; exact Bool.false_ne_true)]) h.symm
theorem mrun_hit {d : Array CaseD} {rest : Int} {key k : Nat} {s : ByteArray} (h : mrunB d rest key s = true) (hk : k < s.size) (e : goB d key = (byteN s k : Int)) (hn : ∀ j, j < k → goB d key ≠ (byteN s j : Int)) : Ending.returned (.tuple #[.string (s.extract k (k + 1)), .int .i64 ((k : Int) + 1), .bool true]) = .returned (.tuple #[.string (mrunTN d rest key s), .int .i64 (mrunCN d rest key s), .bool (mrunB d rest key s)]) :=
  ret3 (by rw [mrunTN, if_pos h, mrunT, Int.toNat_natCast, firstW_hit hk e hn]) (by rw [mrunCN, if_pos h, mrunC, Int.toNat_natCast, firstW_hit hk e hn]) h.symm
theorem mrun_miss {d : Array CaseD} {rest : Int} {key : Nat} {s : ByteArray} (h : mrunB d rest key s = true) (hn : ∀ j, j < s.size → goB d key ≠ (byteN s j : Int)) : Ending.returned (.tuple #[.string zS, .int .i64 (s.size : Int), .bool true]) = .returned (.tuple #[.string (mrunTN d rest key s), .int .i64 (mrunCN d rest key s), .bool (mrunB d rest key s)]) :=
  ret3 (by rw [mrunTN, if_pos h, mrunT, Int.toNat_natCast, firstW_miss hn]) (by rw [mrunCN, if_pos h, mrunC, Int.toNat_natCast, firstW_miss hn]) h.symm
theorem extract_byte {s : ByteArray} {k : Nat} (hk : k < s.size) : (⟨#[s[k]]⟩ : ByteArray) = s.extract k (k + 1) := by
  obtain ⟨b, hb⟩ := one_byte (extract_size1 hk)
  have h1 := extract_tg hk
  rw [hb] at h1 ⊢
  have e1 : tg0 ⟨#[b]⟩ = (b.toNat : Int) := rfl
  rw [e1, ← byteN_get hk] at h1
  have : b = s[k] := UInt8.toNat_inj.1 (by omega)
  rw [this]
theorem bit_u32 {m k : Nat} (hm : m < 4294967296) : bits .and .u32 ((m : Int) / 2 ^ k) 1 = ((m / 2 ^ k % 2 : Nat) : Int) := by
  have h1 : m / 2 ^ k < 4294967296 := Nat.lt_of_le_of_lt (Nat.div_le_self _ _) hm
  have h2 : (1 : Int) = ((1 : Nat) : Int) := rfl
  rw [bit_int, h2, and_u32 h1 (by omega), and_one]
theorem bit_i64 {m k : Nat} (hm : m < 4294967296) : bits .and .i64 ((m : Int) / 2 ^ k) 1 = ((m / 2 ^ k % 2 : Nat) : Int) := by
  have h1 : m / 2 ^ k < 4294967296 := Nat.lt_of_le_of_lt (Nat.div_le_self _ _) hm
  have h2 : (1 : Int) = ((1 : Nat) : Int) := rfl
  rw [bit_int, h2, and_i64 h1 (by omega), and_one]
theorem wordHas_any (d : Array CaseD) (t : Int) (k : Nat) (hk : k < 32) (w : World) :
    Calls Tryz.prog 40 #[.int .u32 (wordN d t 32), .int .i64 k] w fun e w' => e = .returned (.bool (decide (goB d k = t))) ∧ w = w' := by
  have hb := bit_u32 (k := k) (wordN_lt d t (n := 32) (by omega))
  rw [wordN_bit d t hk] at hb
  generalize wordN d t 32 = m at hb ⊢
  by_cases h : goB d k = t
  · rw [if_pos h] at hb
    have HD := Lib.hid (show decide (goB d k = t) = true from decide_eq_true h)
    clear h
    go_enter Tryz.func40, Tryz.ntmps40
    go_wp2
    go_ret
    exact ⟨retB (by rw [HD.out]), rfl⟩
  · rw [if_neg h] at hb
    have HD := Lib.hid (show decide (goB d k = t) = false from decide_eq_false h)
    clear h
    go_enter Tryz.func40, Tryz.ntmps40
    go_wp2
    go_ret
    exact ⟨retB (by rw [HD.out]), rfl⟩

set_option maxRecDepth 100000 in
set_option maxHeartbeats 1000000 in
theorem specMRun_any (b off cap : Nat) (d : Array CaseD) (rest key : Int) (s : ByteArray) (w : World) (hR : RowC w b off d) (hcap : d.size ≤ cap) (hmax : cap ≤ maxLen) (hs : s.size ≤ 1048576) :
    Calls Tryz.prog 8 #[.agg #[.slice (some ⟨b, off, none⟩) d.size cap, .int .i64 rest], .string s, .int .i64 key] w fun x w' => x = .returned (.tuple #[.string (mrunTN d rest key s), .int .i64 (mrunCN d rest key s), .bool (mrunB d rest key s)]) ∧ RowKit.Below w.heap.size w w' := by
  have hv := fun W (hW : RowKit.Below w.heap.size w W) => specValid_any b off cap d rest W (hR.below hW) hcap hmax
  have HM := Lib.hid (fun ho (t : ByteArray) ht W (hW : RowKit.Below w.heap.size w W) => l7Mask_any b off cap d rest t W (hR.below hW) ho ht)
  have hot := fun ho W (hW : RowKit.Below w.heap.size w W) => l7Order_any b off cap d rest s W (hR.below hW) ho hs
  have hk := fun W => l1Key_any key W
  have hsi : (s.size : Int) ≤ 1048576 := by omega
  obtain ⟨wa, hwa⟩ : ∃ wa, wa = w.alloc (.cells #[.slice (some ⟨b, off, none⟩) d.size cap, .int .i64 rest] 25) := ⟨_, rfl⟩
  have c0 : wa.cell? ⟨w.heap.size, 0, none⟩ = some (.slice (some ⟨b, off, none⟩) d.size cap) := by rw [hwa]; simp
  have c1 : wa.cell? ⟨w.heap.size, 1, none⟩ = some (.int .i64 rest) := by rw [hwa]; simp
  have hz : w.heap.size < wa.heap.size := by rw [hwa]; simp
  have hba : RowKit.Below w.heap.size w wa := by rw [hwa]; exact (Below.refl _ _).alloc (Nat.le_refl _) _
  have HA := Lib.hid hba
  have C0 := Lib.hid c0
  have C1 := Lib.hid c1
  have HWA := Lib.hid hwa
  clear hba c0 c1 hwa hR
  have HMB := Lib.hid (show mrunB d rest key s = (swB d rest && ordWB d s && keyB key) from rfl)
  cases hsw : swB d rest
  · rw [hsw] at hv HMB
    have HV := Lib.hid hv
    have a0 := C0.out
    have a1 := C1.out
    clear hv hsw hot hk
    go_enter Tryz.func8, Tryz.ntmps8
    go_wp2_with fail
    rw [← HWA.out]
    refine (HV.out _ HA.out).mono ?_
    rintro x w1 ⟨rfl, hb⟩
    have HB := Lib.hid (HA.out.trans (hb.mono HA.out.size))
    clear hb a0 a1
    go_wp2_with fail
    go_ret3
    exact ⟨mrun_no HMB.out, HB.out⟩
  · have hot2 := hot ((swB_iff _ _).1 hsw)
    rw [hsw] at hv HMB
    cases hor : ordWB d s <;> cases hkb : keyB key
    all_goals
      rw [hor] at hot2 HMB
      rw [hkb] at hk HMB
      have HV := Lib.hid hv
      have HS := Lib.hid hsw
      have HOR := Lib.hid hor
      have HOT := Lib.hid hot2
      have HK := Lib.hid hk
      have HKB := Lib.hid hkb
      have a0 := C0.out
      have a1 := C1.out
      clear hv hsw hot hot2 hor hk hkb
      go_enter Tryz.func8, Tryz.ntmps8
      go_wp2_with fail
      rw [← HWA.out]
      refine (HV.out _ HA.out).mono ?_
      rintro x w1 ⟨rfl, hb⟩
      have HB := Lib.hid (HA.out.trans (hb.mono HA.out.size))
      have HBA := Lib.hid hb
      have b0 := (hb.cell (p := ⟨w.heap.size, 0, none⟩) hz).trans C0.out
      have b1 := (hb.cell (p := ⟨w.heap.size, 1, none⟩) hz).trans C1.out
      clear hb a0 a1
      go_wp2_with fail
      refine (HOT.out _ HB.out).mono ?_
      rintro x w2 ⟨rfl, hb⟩
      have HB2 := Lib.hid (HB.out.trans (hb.mono HB.out.size))
      have HBA2 := Lib.hid (HBA.out.trans (hb.mono HBA.out.size))
      have b0 := (HBA2.out.cell (p := ⟨w.heap.size, 0, none⟩) hz).trans C0.out
      have b1 := (HBA2.out.cell (p := ⟨w.heap.size, 1, none⟩) hz).trans C1.out
      clear hb
      go_wp2_with (go_at_call 44; refine (HK.out _).mono ?_; rintro y w3 ⟨rfl, rfl⟩)
    iterate 3
      · go_ret3
        exact ⟨mrun_no HMB.out, HB2.out⟩
    · have HO := Lib.hid ((swB_iff _ _).1 HS.out)
      have HW := Lib.hid ((ordWB_iff _ _).1 HOR.out)
      have hs8 := ordW_small HW.out
      have hs8i : (s.size : Int) ≤ 8 := by omega
      have hkr := HKB.out
      simp only [keyB, decide_eq_true_eq] at hkr
      obtain ⟨q, rfl⟩ : ∃ q : Nat, key = q := ⟨key.toNat, by omega⟩
      have hq32 : q < 32 := by omega
      have hqi : (q : Int) ≤ 31 := by omega
      clear hkr b0 b1
      go_loopw [26] (fun i wr => ∃ k : Nat, i = .int .i64 k ∧ k ≤ s.size ∧ Hid (∀ j, j < k → goB d q ≠ (byteN s j : Int)) ∧ Hid (RowKit.Below wa.heap.size wa wr)) (fun i _ => s.size - (intOf i).toNat)
      case atStart => exact ⟨0, rfl, Nat.zero_le _, fun j hj => absurd hj (Nat.not_lt_zero _), HBA2.out⟩
      case round =>
        obtain ⟨k, rfl, hk, HE, HR3⟩ := hrel
        have HWW := Lib.hid (HA.out.trans (HR3.out.mono HA.out.size))
        by_cases hlt : k < s.size
        · have hki : (k : Int) < (s.size : Int) := by omega
          have zr : w.heap.size < wr.heap.size := by have := HR3.out.size; omega
          have q0 := fun p : BW wr => p.cell zr ((HR3.out.cell (p := ⟨w.heap.size, 0, none⟩) hz).trans C0.out)
          have q1 := fun p : BW wr => p.cell zr ((HR3.out.cell (p := ⟨w.heap.size, 1, none⟩) hz).trans C1.out)
          have gc := fun p : BW wr => HM.out HO.out (s.extract k (k + 1)) (extract_size1 hlt) p.W (HWW.out.trans (p.h.mono HWW.out.size))
          rw [extract_tg hlt] at gc
          have hbit := bit_i64 (k := q) (wordN_lt d (byteN s k : Int) (n := 32) (by omega))
          rw [wordN_bit d _ hq32] at hbit
          obtain ⟨m, hm⟩ : ∃ m, m = wordN d (byteN s k : Int) 32 := ⟨_, rfl⟩
          rw [← hm] at gc hbit
          clear hm
          have GC := Lib.hid gc
          clear gc
          by_cases hgo : goB d q = (byteN s k : Int)
          · rw [if_pos hgo] at hbit
            have HGO := Lib.hid hgo
            clear hgo
            go_wp2_with fail
            refine wp_region_bw (by kernel_rfl) (by kernel_rfl) ?_
            repeat (go_big_quiet_step (with_reducible refine bw_of (GC.out _)))
            refine wpQuiet_nil ?_
            rintro _ ⟨⟨W', hBW⟩, rfl⟩
            have HBW := Lib.hid (HWW.out.trans (hBW.mono HWW.out.size))
            clear hBW
            go_wp2_with fail
            go_ret3
            exact ⟨mrun_hit HMB.out hlt HGO.out HE.out, HBW.out⟩
          · rw [if_neg hgo] at hbit
            have HGO := Lib.hid hgo
            clear hgo
            go_wp2_with fail
            refine wp_region_bw (by kernel_rfl) (by kernel_rfl) ?_
            repeat (go_big_quiet_step (with_reducible refine bw_of (GC.out _)))
            refine wpQuiet_nil ?_
            rintro _ ⟨⟨W', hBW⟩, rfl⟩
            have HBW := Lib.hid (HR3.out.trans (hBW.mono HR3.out.size))
            clear hBW
            go_wp2_with fail
            go_roundw
            case rel =>
              refine ⟨k + 1, by go_num, by omega, (show Hid _ from fun j hj => ?_), HBW.out⟩
              by_cases e : j = k
              · subst e; exact HGO.out
              · exact HE.out j (by omega)
            case measure => simp [intOf]; omega
        · have hke : k = s.size := by omega
          subst hke
          go_wp2_with fail
          go_ret3
          exact ⟨mrun_miss HMB.out HE.out, HWW.out⟩

set_option maxRecDepth 100000 in
set_option maxHeartbeats 1000000 in
theorem implMRun_any (b off cap : Nat) (d : Array CaseD) (rest key : Int) (s : ByteArray) (w : World) (hR : RowC w b off d) (hE : ErrAt w) (hcap : d.size ≤ cap) (hmax : cap ≤ maxLen) (hs : s.size ≤ 1048576) :
    Calls Tryz.prog 7 #[.agg #[.slice (some ⟨b, off, none⟩) d.size cap, .int .i64 rest], .string s, .int .i64 key] w fun x w' => x = .returned (.tuple #[.string (mrunTN d rest key s), .int .i64 (mrunCN d rest key s), .bool (mrunB d rest key s)]) ∧ RowKit.Below w.heap.size w w' := by
  have ho := fun W (hW : RowKit.Below w.heap.size w W) => isWordOrder_any b off cap d rest s W (hR.below hW) (hE.below hW) hcap hmax hs
  have HM := Lib.hid (fun ho (t : Int) W (hW : RowKit.Below w.heap.size w W) => wordOf_any b off cap d rest t W (hR.below hW) ho)
  have hk := fun W => isKey_any key W
  have hsi : (s.size : Int) ≤ 1048576 := by omega
  obtain ⟨wa, hwa⟩ : ∃ wa, wa = w.alloc (.cells #[.slice (some ⟨b, off, none⟩) d.size cap, .int .i64 rest] 25) := ⟨_, rfl⟩
  have c0 : wa.cell? ⟨w.heap.size, 0, none⟩ = some (.slice (some ⟨b, off, none⟩) d.size cap) := by rw [hwa]; simp
  have c1 : wa.cell? ⟨w.heap.size, 1, none⟩ = some (.int .i64 rest) := by rw [hwa]; simp
  have hz : w.heap.size < wa.heap.size := by rw [hwa]; simp
  have hba : RowKit.Below w.heap.size w wa := by rw [hwa]; exact (Below.refl _ _).alloc (Nat.le_refl _) _
  have HA := Lib.hid hba
  have C0 := Lib.hid c0
  have C1 := Lib.hid c1
  have HWA := Lib.hid hwa
  clear hba c0 c1 hwa hR hE
  have HMB := Lib.hid (show mrunB d rest key s = (swB d rest && ordWB d s && keyB key) from rfl)
  cases hq : (swB d rest && ordWB d s) <;> cases hkb : keyB key
  all_goals
    rw [hq] at ho HMB
    rw [hkb] at hk HMB
    have HV := Lib.hid ho
    have HQ := Lib.hid hq
    have HK := Lib.hid hk
    have HKB := Lib.hid hkb
    have a0 := C0.out
    have a1 := C1.out
    clear ho hq hk hkb
    go_enter Tryz.func7, Tryz.ntmps7
    go_wp2_with fail
    rw [← HWA.out]
    refine (HV.out _ HA.out).mono ?_
    rintro x w1 ⟨rfl, hb⟩
    have HB := Lib.hid (HA.out.trans (hb.mono HA.out.size))
    have HBA := Lib.hid hb
    have b0 := (hb.cell (p := ⟨w.heap.size, 0, none⟩) hz).trans C0.out
    have b1 := (hb.cell (p := ⟨w.heap.size, 1, none⟩) hz).trans C1.out
    clear hb a0 a1
    go_wp2_with (go_at_call 38; refine (HK.out _).mono ?_; rintro y w3 ⟨rfl, rfl⟩)
  iterate 3
    · go_ret3
      exact ⟨mrun_no HMB.out, HB.out⟩
  · have hq2 := HQ.out
    rw [Bool.and_eq_true] at hq2
    have HO := Lib.hid ((swB_iff _ _).1 hq2.1)
    have HW := Lib.hid ((ordWB_iff _ _).1 hq2.2)
    clear hq2
    have hs8 := ordW_small HW.out
    have hs8i : (s.size : Int) ≤ 8 := by omega
    have hkr := HKB.out
    simp only [keyB, decide_eq_true_eq] at hkr
    obtain ⟨q, rfl⟩ : ∃ q : Nat, key = q := ⟨key.toNat, by omega⟩
    have hq32 : q < 32 := by omega
    clear hkr b0 b1
    go_loopw [22] (fun i wr => ∃ k : Nat, i = .int .i64 k ∧ k ≤ s.size ∧ Hid (∀ j, j < k → goB d q ≠ (byteN s j : Int)) ∧ Hid (RowKit.Below wa.heap.size wa wr)) (fun i _ => s.size - (intOf i).toNat)
    case atStart => exact ⟨0, rfl, Nat.zero_le _, fun j hj => absurd hj (Nat.not_lt_zero _), HBA.out⟩
    case round =>
      obtain ⟨k, rfl, hk, HE, HR3⟩ := hrel
      have HWW := Lib.hid (HA.out.trans (HR3.out.mono HA.out.size))
      by_cases hlt : k < s.size
      · have hki : (k : Int) < (s.size : Int) := by omega
        have q0 := (HR3.out.cell (p := ⟨w.heap.size, 0, none⟩) hz).trans C0.out
        have q1 := (HR3.out.cell (p := ⟨w.heap.size, 1, none⟩) hz).trans C1.out
        have HC := Lib.hid (HM.out HO.out (s[k].toNat : Int) _ HWW.out)
        have hh := fun W => wordHas_any d (s[k].toNat : Int) q hq32 W
        have HBG := Lib.hid (byteN_get hlt)
        have HTX := Lib.hid (fun W => textW_any s[k] W)
        have HEX := Lib.hid (extract_byte hlt)
        cases hgo : decide (goB d q = (s[k].toNat : Int))
        · rw [hgo] at hh
          have HH := Lib.hid hh
          have HGO := Lib.hid (of_decide_eq_false hgo)
          clear hgo hh
          go_wp2_with (first
            | (go_at_call 39; refine HC.out.mono ?_; rintro y w5 ⟨rfl, hb5⟩; have HB5 := Lib.hid (HR3.out.trans (hb5.mono HR3.out.size)); clear hb5)
            | (go_at_call 40; refine (HH.out _).mono ?_; rintro y w6 ⟨rfl, rfl⟩))
          go_roundw
          case rel =>
            refine ⟨k + 1, by go_num, by omega, (show Hid _ from fun j hj => ?_), HB5.out⟩
            by_cases e : j = k
            · subst e; rw [← HBG.out]; exact HGO.out
            · exact HE.out j (by omega)
          case measure => simp [intOf]; omega
        · rw [hgo] at hh
          have HH := Lib.hid hh
          have HGO := Lib.hid (of_decide_eq_true hgo)
          clear hgo hh
          go_wp2_with (first
            | (go_at_call 39; refine HC.out.mono ?_; rintro y w5 ⟨rfl, hb5⟩; have HB5 := Lib.hid (HWW.out.trans (hb5.mono HWW.out.size)); clear hb5)
            | (go_at_call 40; refine (HH.out _).mono ?_; rintro y w6 ⟨rfl, rfl⟩)
            | (go_at_call 41; refine (HTX.out _).mono ?_; rintro y w7 ⟨rfl, hb7⟩; have HB7 := Lib.hid (HB5.out.trans (hb7.mono HB5.out.size)); clear hb7))
          go_ret3
          rw [HEX.out]
          exact ⟨mrun_hit HMB.out hlt (by rw [← HBG.out]; exact HGO.out) HE.out, HB7.out⟩
      · have hke : k = s.size := by omega
        subst hke
        go_wp2_with (go_at_call 41; refine (text_any _).mono ?_; rintro y w7 ⟨rfl, hb7⟩; have HB7 := Lib.hid (HWW.out.trans (hb7.mono HWW.out.size)); clear hb7)
        go_ret3
        exact ⟨mrun_miss HMB.out HE.out, HB7.out⟩
end Go.Proofs.YtbhamkmiagdimaaGreatDoor
