
/- MaskOf and MaskWeight: the model's and the program's. -/
import Derived.Test.YtbhamkmiagdimaaDoorKsWordT
import Derived.Test.YtbhamkmiagdimaaDoorKsWordI
namespace Go.Proofs.YtbhamkmiagdimaaDoor
open Go.RowKit Go.Shelf Go.Lib Go.Sort

theorem letN_or (s : ByteArray) : letN s = (oneB s || (s.toList == [122])) := by
  by_cases h : s.size = 1
  · rw [same_z h, letN, oneB, decide_eq_true h, Bool.true_and, Bool.true_and]
    congr 1
  · have h1 : letN s = false := by simp [letN, h]
    have h2 : oneB s = false := by simp [oneB, h]
    have h3 : (s.toList == [122]) = false := by
      cases e : (s.toList == [122]) with
      | false => rfl
      | true =>
        rw [beq_iff_eq, ByteArray.toList_eq] at e
        exfalso
        apply h
        have : s.data.toList.length = 1 := by rw [e]; rfl
        simpa using this
    rw [h1, h2, h3]
    rfl
theorem retMB {a c : Int} {b e : Bool} (h : a = c) (h2 : b = e) : Ending.returned (.tuple #[.int .i64 a, .bool b]) = .returned (.tuple #[.int .i64 c, .bool e]) := by rw [h, h2]

set_option maxRecDepth 100000 in
set_option maxHeartbeats 1000000 in
theorem specMask_any (b off cap : Nat) (d : Array CaseD) (rest : Int) (s : ByteArray) (w : World) (hR : RowC w b off d) (hcap : d.size ≤ cap) (hmax : cap ≤ maxLen) :
    Calls Tryd.prog 22 #[.agg #[.slice (some ⟨b, off, none⟩) d.size cap, .int .i64 rest], .string s] w fun x w' => x = .returned (.tuple #[.int .i64 (maskN d rest s), .bool (maskB d rest s)]) ∧ RowKit.Below w.heap.size w w' := by
  have hv := fun W (hW : RowKit.Below w.heap.size w W) => specValid_any b off cap d rest W (hR.below hW) hcap hmax
  have HM := Lib.hid (fun ho hs W (hW : RowKit.Below w.heap.size w W) => l7Mask_any b off cap d rest s W (hR.below hW) ho hs)
  have ht := fun W => l7Target_any s W
  have HL := Lib.hid (letN_or s)
  obtain ⟨wa, hwa⟩ : ∃ wa, wa = w.alloc (.cells #[.slice (some ⟨b, off, none⟩) d.size cap, .int .i64 rest] 32) := ⟨_, rfl⟩
  have c0 : wa.cell? ⟨w.heap.size, 0, none⟩ = some (.slice (some ⟨b, off, none⟩) d.size cap) := by rw [hwa]; simp
  have c1 : wa.cell? ⟨w.heap.size, 1, none⟩ = some (.int .i64 rest) := by rw [hwa]; simp
  have hz : w.heap.size < wa.heap.size := by rw [hwa]; simp
  have hba : RowKit.Below w.heap.size w wa := by rw [hwa]; exact (Below.refl _ _).alloc (Nat.le_refl _) _
  have HA := Lib.hid hba
  have C0 := Lib.hid c0
  have C1 := Lib.hid c1
  have HWA := Lib.hid hwa
  clear hba c0 c1 hwa hR
  cases hs : swB d rest <;> cases ho : oneB s <;> cases hzz : (s.toList == [122])
  all_goals
    simp only [hs] at hv
    simp only [ho] at ht
    have HV := Lib.hid hv
    have HS := Lib.hid hs
    have HT := Lib.hid ht
    have HLN := Lib.hid (show letN s = (oneB s || (s.toList == [122])) from HL.out)
    rw [ho, hzz] at HLN
    have a0 := C0.out
    have a1 := C1.out
    clear hv hs ho ht
    go_enter Tryd.func22, Tryd.ntmps22
    go_wp2_with fail
    rw [← HWA.out]
    refine (HV.out _ HA.out).mono ?_
    rintro x w1 ⟨rfl, hb⟩
    have HB := Lib.hid hb
    have hz1 := hb.size
    have b0 := (hb.cell (p := ⟨w.heap.size, 0, none⟩) hz).trans C0.out
    have b1 := (hb.cell (p := ⟨w.heap.size, 1, none⟩) hz).trans C1.out
    have HWB := Lib.hid (HA.out.trans (HB.out.mono (by omega)))
    clear hb a0 a1
    go_wp2_with (go_at_call 48; refine (HT.out _).mono ?_; rintro y w2 ⟨rfl, rfl⟩)
  iterate 4
    · go_ret2
      exact ⟨retMB (by simp [maskN, maskB, HS.out]) (by simp [maskB, HS.out]), HWB.out⟩
  · go_ret2
    exact ⟨retMB (by simp [maskN, maskB, HLN.out]) (by simp [maskB, HLN.out]), HWB.out⟩
  all_goals
    have HS1 := Lib.hid (letN_size (show letN s = true from HLN.out))
    refine (HM.out ((swB_iff _ _).1 HS.out) HS1.out _ HWB.out).mono ?_
    rintro x w2 ⟨rfl, hb2⟩
    have HB2 := Lib.hid (HWB.out.trans (hb2.mono (by omega)))
    clear hb2
    go_wp2
    go_ret2
    exact ⟨retMB (by simp [maskN, maskB, HS.out, HLN.out]) (by simp [maskB, HS.out, HLN.out]), HB2.out⟩

set_option maxRecDepth 100000 in
set_option maxHeartbeats 1000000 in
theorem implMask_any (b off cap : Nat) (d : Array CaseD) (rest : Int) (s : ByteArray) (w : World) (hR : RowC w b off d) (hE : ErrAt w) (hcap : d.size ≤ cap) (hmax : cap ≤ maxLen) :
    Calls Tryd.prog 23 #[.agg #[.slice (some ⟨b, off, none⟩) d.size cap, .int .i64 rest], .string s] w fun x w' => x = .returned (.tuple #[.int .i64 (maskN d rest s), .bool (maskB d rest s)]) ∧ RowKit.Below w.heap.size w w' := by
  have hv := fun W (hW : RowKit.Below w.heap.size w W) => switchValid_any b off cap d rest W (hR.below hW) (hE.below hW) hcap hmax
  have ht := fun W => readLetter_any s W
  have HM := Lib.hid (fun ho W (hW : RowKit.Below w.heap.size w W) => wordOf_any b off cap d rest (tg0 s) W (hR.below hW) ho)
  obtain ⟨wa, hwa⟩ : ∃ wa, wa = w.alloc (.cells #[.slice (some ⟨b, off, none⟩) d.size cap, .int .i64 rest] 32) := ⟨_, rfl⟩
  have c0 : wa.cell? ⟨w.heap.size, 0, none⟩ = some (.slice (some ⟨b, off, none⟩) d.size cap) := by rw [hwa]; simp
  have c1 : wa.cell? ⟨w.heap.size, 1, none⟩ = some (.int .i64 rest) := by rw [hwa]; simp
  have hz : w.heap.size < wa.heap.size := by rw [hwa]; simp
  have hba : RowKit.Below w.heap.size w wa := by rw [hwa]; exact (Below.refl _ _).alloc (Nat.le_refl _) _
  have HA := Lib.hid hba
  have C0 := Lib.hid c0
  have C1 := Lib.hid c1
  have HWA := Lib.hid hwa
  clear hba c0 c1 hwa hR hE
  cases ho : letN s
  · rw [ho] at ht
    have HT := Lib.hid ht
    have HO := Lib.hid ho
    clear ht ho hv HM
    go_enter Tryd.func23, Tryd.ntmps23
    go_wp2_with (go_at_call 50; refine (HT.out _).mono ?_; rintro y w2 ⟨rfl, rfl⟩)
    try rw [← HWA.out]
    go_ret2
    exact ⟨retMB (by simp [maskN, maskB, HO.out]) (by simp [maskB, HO.out]), HA.out⟩
  · rw [ho] at ht
    have hlz : letZ s = tg0 s := by rw [letZ, if_pos ho]
    rw [hlz] at ht
    skip
    have HT := Lib.hid ht
    have HO := Lib.hid ho
    have a0 := C0.out
    have a1 := C1.out
    clear ht ho hlz
    cases hs : swB d rest
    all_goals
      simp only [hs] at hv
      have HV := Lib.hid hv
      have HS := Lib.hid hs
      clear hv hs
      go_enter Tryd.func23, Tryd.ntmps23
      go_wp2_with (go_at_call 50; refine (HT.out _).mono ?_; rintro y w2 ⟨rfl, rfl⟩; rw [← HWA.out])
      refine (HV.out _ HA.out).mono ?_
      rintro x w1 ⟨rfl, hb⟩
      have HB := Lib.hid hb
      have hz1 := hb.size
      have b0 := (hb.cell (p := ⟨w.heap.size, 0, none⟩) hz).trans C0.out
      have b1 := (hb.cell (p := ⟨w.heap.size, 1, none⟩) hz).trans C1.out
      have HWB := Lib.hid (HA.out.trans (HB.out.mono (by omega)))
      clear hb a0 a1
      go_wp2_with fail
    · go_ret2
      exact ⟨retMB (by simp [maskN, maskB, HS.out]) (by simp [maskB, HS.out]), HWB.out⟩
    · refine (HM.out ((swB_iff _ _).1 HS.out) _ HWB.out).mono ?_
      rintro x w3 ⟨rfl, hb2⟩
      have HB2 := Lib.hid (HWB.out.trans (hb2.mono (by omega)))
      clear hb2
      have hm := wordN_lt d (tg0 s) (n := 32) (by omega)
      have hcvt : wrap64 (wordN d (tg0 s) 32 : Int) = (wordN d (tg0 s) 32 : Int) := by unfold wrap64; omega
      go_wp2
      go_ret2
      exact ⟨retMB (by simp [maskN, maskB, HS.out, HO.out]) (by simp [maskB, HS.out, HO.out]), HB2.out⟩

set_option maxRecDepth 100000 in
set_option maxHeartbeats 1000000 in
theorem specWgt_any (b off cap : Nat) (d : Array CaseD) (rest : Int) (s : ByteArray) (w : World) (hR : RowC w b off d) (hcap : d.size ≤ cap) (hmax : cap ≤ maxLen) :
    Calls Tryd.prog 24 #[.agg #[.slice (some ⟨b, off, none⟩) d.size cap, .int .i64 rest], .string s] w fun x w' => x = .returned (.int .i64 (mwgtN d rest s)) ∧ RowKit.Below w.heap.size w w' := by
  have hv := fun W (hW : RowKit.Below w.heap.size w W) => specValid_any b off cap d rest W (hR.below hW) hcap hmax
  have HM := Lib.hid (fun ho hs W (hW : RowKit.Below w.heap.size w W) => l7Weight_any b off cap d rest s W (hR.below hW) ho hs)
  have ht := fun W => l7Target_any s W
  have HL := Lib.hid (letN_or s)
  obtain ⟨wa, hwa⟩ : ∃ wa, wa = w.alloc (.cells #[.slice (some ⟨b, off, none⟩) d.size cap, .int .i64 rest] 32) := ⟨_, rfl⟩
  have c0 : wa.cell? ⟨w.heap.size, 0, none⟩ = some (.slice (some ⟨b, off, none⟩) d.size cap) := by rw [hwa]; simp
  have c1 : wa.cell? ⟨w.heap.size, 1, none⟩ = some (.int .i64 rest) := by rw [hwa]; simp
  have hz : w.heap.size < wa.heap.size := by rw [hwa]; simp
  have hba : RowKit.Below w.heap.size w wa := by rw [hwa]; exact (Below.refl _ _).alloc (Nat.le_refl _) _
  have HA := Lib.hid hba
  have C0 := Lib.hid c0
  have C1 := Lib.hid c1
  have HWA := Lib.hid hwa
  clear hba c0 c1 hwa hR
  cases hs : swB d rest <;> cases ho : oneB s <;> cases hzz : (s.toList == [122])
  all_goals
    simp only [hs] at hv
    simp only [ho] at ht
    have HV := Lib.hid hv
    have HS := Lib.hid hs
    have HT := Lib.hid ht
    have HLN := Lib.hid (show letN s = (oneB s || (s.toList == [122])) from HL.out)
    rw [ho, hzz] at HLN
    have a0 := C0.out
    have a1 := C1.out
    clear hv hs ho ht
    go_enter Tryd.func24, Tryd.ntmps24
    go_wp2_with fail
    rw [← HWA.out]
    refine (HV.out _ HA.out).mono ?_
    rintro x w1 ⟨rfl, hb⟩
    have HB := Lib.hid hb
    have hz1 := hb.size
    have b0 := (hb.cell (p := ⟨w.heap.size, 0, none⟩) hz).trans C0.out
    have b1 := (hb.cell (p := ⟨w.heap.size, 1, none⟩) hz).trans C1.out
    have HWB := Lib.hid (HA.out.trans (HB.out.mono (by omega)))
    clear hb a0 a1
    go_wp2_with (go_at_call 48; refine (HT.out _).mono ?_; rintro y w2 ⟨rfl, rfl⟩)
  iterate 4
    · go_ret
      exact ⟨retI (by simp [mwgtN, maskB, HS.out]), HWB.out⟩
  · go_ret
    exact ⟨retI (by simp [mwgtN, maskB, HLN.out]), HWB.out⟩
  all_goals
    have HS1 := Lib.hid (letN_size (show letN s = true from HLN.out))
    refine (HM.out ((swB_iff _ _).1 HS.out) HS1.out _ HWB.out).mono ?_
    rintro x w2 ⟨rfl, hb2⟩
    have HB2 := Lib.hid (HWB.out.trans (hb2.mono (by omega)))
    clear hb2
    go_wp2
    go_ret
    exact ⟨retI (by simp [mwgtN, maskB, HS.out, HLN.out]), HB2.out⟩

set_option maxRecDepth 100000 in
set_option maxHeartbeats 1000000 in
theorem implWgt_any (b off cap : Nat) (d : Array CaseD) (rest : Int) (s : ByteArray) (w : World) (hR : RowC w b off d) (hE : ErrAt w) (hcap : d.size ≤ cap) (hmax : cap ≤ maxLen) :
    Calls Tryd.prog 25 #[.agg #[.slice (some ⟨b, off, none⟩) d.size cap, .int .i64 rest], .string s] w fun x w' => x = .returned (.int .i64 (mwgtN d rest s)) ∧ RowKit.Below w.heap.size w w' := by
  have hv := fun W (hW : RowKit.Below w.heap.size w W) => switchValid_any b off cap d rest W (hR.below hW) (hE.below hW) hcap hmax
  have ht := fun W => readLetter_any s W
  have HM := Lib.hid (fun (c : UInt8) ho W (hW : RowKit.Below w.heap.size w W) => weightOf_any b off cap d rest c W (hR.below hW) ho)
  obtain ⟨wa, hwa⟩ : ∃ wa, wa = w.alloc (.cells #[.slice (some ⟨b, off, none⟩) d.size cap, .int .i64 rest] 32) := ⟨_, rfl⟩
  have c0 : wa.cell? ⟨w.heap.size, 0, none⟩ = some (.slice (some ⟨b, off, none⟩) d.size cap) := by rw [hwa]; simp
  have c1 : wa.cell? ⟨w.heap.size, 1, none⟩ = some (.int .i64 rest) := by rw [hwa]; simp
  have hz : w.heap.size < wa.heap.size := by rw [hwa]; simp
  have hba : RowKit.Below w.heap.size w wa := by rw [hwa]; exact (Below.refl _ _).alloc (Nat.le_refl _) _
  have HA := Lib.hid hba
  have C0 := Lib.hid c0
  have C1 := Lib.hid c1
  have HWA := Lib.hid hwa
  clear hba c0 c1 hwa hR hE
  cases ho : letN s
  · rw [ho] at ht
    have HT := Lib.hid ht
    have HO := Lib.hid ho
    clear ht ho hv HM
    go_enter Tryd.func25, Tryd.ntmps25
    go_wp2_with (go_at_call 50; refine (HT.out _).mono ?_; rintro y w2 ⟨rfl, rfl⟩)
    try rw [← HWA.out]
    go_ret
    exact ⟨retI (by simp [mwgtN, maskB, HO.out]), HA.out⟩
  · rw [ho] at ht
    have hlz : letZ s = tg0 s := by rw [letZ, if_pos ho]
    rw [hlz] at ht
    obtain ⟨c, hc⟩ : ∃ c : UInt8, tg0 s = (c.toNat : Int) := by
      obtain ⟨c, rfl⟩ := one_byte (letN_size ho)
      exact ⟨c, rfl⟩
    rw [hc] at ht
    have HTC := Lib.hid hc
    clear hc
    have HT := Lib.hid ht
    have HO := Lib.hid ho
    have a0 := C0.out
    have a1 := C1.out
    clear ht ho hlz
    cases hs : swB d rest
    all_goals
      simp only [hs] at hv
      have HV := Lib.hid hv
      have HS := Lib.hid hs
      clear hv hs
      go_enter Tryd.func25, Tryd.ntmps25
      go_wp2_with (go_at_call 50; refine (HT.out _).mono ?_; rintro y w2 ⟨rfl, rfl⟩; rw [← HWA.out])
      refine (HV.out _ HA.out).mono ?_
      rintro x w1 ⟨rfl, hb⟩
      have HB := Lib.hid hb
      have hz1 := hb.size
      have b0 := (hb.cell (p := ⟨w.heap.size, 0, none⟩) hz).trans C0.out
      have b1 := (hb.cell (p := ⟨w.heap.size, 1, none⟩) hz).trans C1.out
      have HWB := Lib.hid (HA.out.trans (HB.out.mono (by omega)))
      clear hb a0 a1
      go_wp2_with fail
    · go_ret
      exact ⟨retI (by simp [mwgtN, maskB, HS.out]), HWB.out⟩
    · refine (HM.out c ((swB_iff _ _).1 HS.out) _ HWB.out).mono ?_
      rintro x w3 ⟨rfl, hb2⟩
      have HB2 := Lib.hid (HWB.out.trans (hb2.mono (by omega)))
      clear hb2
      skip
      go_wp2
      go_ret
      exact ⟨retI (by simp [mwgtN, maskB, HS.out, HO.out, HTC.out]), HB2.out⟩
end Go.Proofs.YtbhamkmiagdimaaDoor
