
/- TestCost: the program's and the model's. -/
import Derived.Test.YtjmfcnblkojejaaDoorKsModel
import Derived.Test.YtjmfcnblkojejaaDoorKsTestA
namespace Go.Proofs.YtjmfcnblkojejaaDoor
open Go.RowKit Go.Shelf Go.Lib Go.Sort

noncomputable def testN (d : Array CaseD) (rest i : Int) : Int := if swB d rest = true ∧ 0 ≤ i ∧ i < d.size then tcost d[i.toNat]! else -1
theorem testN_off {d : Array CaseD} {rest i : Int} (h : swB d rest = false) : testN d rest i = -1 := by rw [testN, if_neg (by rw [h]; simp)]
theorem testN_out {d : Array CaseD} {rest i : Int} (h : ¬ (0 ≤ i ∧ i < d.size)) : testN d rest i = -1 := by rw [testN, if_neg (fun h2 => h h2.2)]
theorem testN_in {d : Array CaseD} {rest : Int} {k : Nat} (h : swB d rest = true) (hk : k < d.size) : testN d rest k = tcost d[k]! := by
  rw [testN, if_pos ⟨h, by omega, by omega⟩, Int.toNat_natCast]

set_option maxRecDepth 100000 in
set_option maxHeartbeats 1000000 in
theorem implTest_any (b off cap : Nat) (d : Array CaseD) (rest i : Int) (w : World) (hR : RowC w b off d) (hE : ErrAt w) (hcap : d.size ≤ cap) (hmax : cap ≤ maxLen) :
    Calls Tryd.prog 36 #[.agg #[.slice (some ⟨b, off, none⟩) d.size cap, .int .i64 rest], .int .i64 i] w fun x w' => x = .returned (.int .i64 (testN d rest i)) ∧ RowKit.Below w.heap.size w w' := by
  have hv := fun W (hW : RowKit.Below w.heap.size w W) => switchValid_any b off cap d rest W (hR.below hW) (hE.below hW) hcap hmax
  have HR := Lib.hid hR
  obtain ⟨wa, hwa⟩ : ∃ wa, wa = w.alloc (.cells #[.slice (some ⟨b, off, none⟩) d.size cap, .int .i64 rest] 25) := ⟨_, rfl⟩
  have c0 : wa.cell? ⟨w.heap.size, 0, none⟩ = some (.slice (some ⟨b, off, none⟩) d.size cap) := by rw [hwa]; simp
  have c1 : wa.cell? ⟨w.heap.size, 1, none⟩ = some (.int .i64 rest) := by rw [hwa]; simp
  have hz : w.heap.size < wa.heap.size := by rw [hwa]; simp
  have hba : RowKit.Below w.heap.size w wa := by rw [hwa]; exact (Below.refl _ _).alloc (Nat.le_refl _) _
  have HA := Lib.hid hba
  have C0 := Lib.hid c0
  have C1 := Lib.hid c1
  have HWA := Lib.hid hwa
  clear hba c0 c1 hwa hR hE
  cases hs : swB d rest
  all_goals
    simp only [hs] at hv
    have HV := Lib.hid hv
    have HS := Lib.hid hs
    clear hv hs
  · go_enter Tryd.func36, Tryd.ntmps36
    go_wp2_with fail
    rw [← HWA.out]
    refine (HV.out _ HA.out).mono ?_
    rintro x w1 ⟨rfl, hb⟩
    have HB := Lib.hid hb
    have hz1 := hb.size
    clear hb
    go_wp2_with fail
    go_ret
    exact ⟨retIA (testN_off HS.out).symm, HA.out.trans (HB.out.mono (by omega))⟩
  · have HO := Lib.hid ((swB_iff _ _).1 HS.out)
    have h8 : (d.size : Int) ≤ 8 := by have := HO.out.size; omega
    by_cases hin : 0 ≤ i ∧ i < d.size
    · obtain ⟨k, rfl⟩ : ∃ k : Nat, i = k := ⟨i.toNat, by omega⟩
      have hk : k < d.size := by omega
      clear hin
      have HT := Lib.hid (testN_in HS.out hk)
      have hcase := HO.out.case k hk
      obtain ⟨x, hxe⟩ : ∃ x, x = d[k]! := ⟨_, rfl⟩
      have hrow := fun W (hW : RowKit.Below w.heap.size w W) => (⟨(HR.out.below hW).low k hk, (HR.out.below hW).high k hk, (HR.out.below hW).target k hk, (HR.out.below hW).weight k hk⟩ : _ ∧ _ ∧ _ ∧ _)
      rw [← hxe] at hcase HT
      simp only [← hxe] at hrow
      have hl1 := caseB_low hcase
      have hl2 := caseB_high hcase
      have HROW := Lib.hid hrow
      have hcall := Lib.hid (fun W => testCost_any x W hl1.1 hl1.2 hl2.1 hl2.2)
      clear hxe hrow hcase hl1 hl2
      go_enter Tryd.func36, Tryd.ntmps36
      go_wp2_with fail
      rw [← HWA.out]
      refine (HV.out _ HA.out).mono ?_
      rintro x w1 ⟨rfl, hb⟩
      have HB := Lib.hid hb
      have hz1 := hb.size
      have a0 := (hb.cell (p := ⟨w.heap.size, 0, none⟩) hz).trans C0.out
      have a1 := (hb.cell (p := ⟨w.heap.size, 1, none⟩) hz).trans C1.out
      have HWB := Lib.hid (HA.out.trans (HB.out.mono (by omega)))
      obtain ⟨x0, x1, x2, x3⟩ := HROW.out _ HWB.out
      clear hb
      go_wp2_with (go_at_call 80; refine (hcall.out _).mono ?_; rintro y w2 ⟨rfl, hb2⟩; have HB2 := Lib.hid hb2; clear hb2)
      go_ret
      exact ⟨retIA HT.out.symm, HWB.out.trans (HB2.out.mono HWB.out.size)⟩
    · have HT := Lib.hid (testN_out (rest := rest) hin)
      by_cases hneg : i < 0
      all_goals
        go_enter Tryd.func36, Tryd.ntmps36
        go_wp2_with fail
        rw [← HWA.out]
        refine (HV.out _ HA.out).mono ?_
        rintro x w1 ⟨rfl, hb⟩
        have HB := Lib.hid hb
        have hz1 := hb.size
        have a0 := (hb.cell (p := ⟨w.heap.size, 0, none⟩) hz).trans C0.out
        have a1 := (hb.cell (p := ⟨w.heap.size, 1, none⟩) hz).trans C1.out
        clear hb
        go_wp2
        go_ret
        exact ⟨retIA HT.out.symm, HA.out.trans (HB.out.mono (by omega))⟩

/-! the model -/
set_option maxRecDepth 100000 in
set_option maxHeartbeats 1000000 in
theorem specTest_any (b off cap : Nat) (d : Array CaseD) (rest i : Int) (w : World) (hR : RowC w b off d) (hcap : d.size ≤ cap) (hmax : cap ≤ maxLen) :
    Calls Tryd.prog 37 #[.agg #[.slice (some ⟨b, off, none⟩) d.size cap, .int .i64 rest], .int .i64 i] w fun x w' => x = .returned (.int .i64 (testN d rest i)) ∧ RowKit.Below w.heap.size w w' := by
  have hv := fun W (hW : RowKit.Below w.heap.size w W) => specValid_any b off cap d rest W (hR.below hW) hcap hmax
  have HR := Lib.hid hR
  obtain ⟨wa, hwa⟩ : ∃ wa, wa = w.alloc (.cells #[.slice (some ⟨b, off, none⟩) d.size cap, .int .i64 rest] 25) := ⟨_, rfl⟩
  have c0 : wa.cell? ⟨w.heap.size, 0, none⟩ = some (.slice (some ⟨b, off, none⟩) d.size cap) := by rw [hwa]; simp
  have c1 : wa.cell? ⟨w.heap.size, 1, none⟩ = some (.int .i64 rest) := by rw [hwa]; simp
  have hz : w.heap.size < wa.heap.size := by rw [hwa]; simp
  have hba : RowKit.Below w.heap.size w wa := by rw [hwa]; exact (Below.refl _ _).alloc (Nat.le_refl _) _
  have HA := Lib.hid hba
  have C0 := Lib.hid c0
  have C1 := Lib.hid c1
  have HWA := Lib.hid hwa
  clear hba c0 c1 hwa hR
  cases hs : swB d rest
  all_goals
    simp only [hs] at hv
    have HV := Lib.hid hv
    have HS := Lib.hid hs
    clear hv hs
  · go_enter Tryd.func37, Tryd.ntmps37
    go_wp2_with fail
    rw [← HWA.out]
    refine (HV.out _ HA.out).mono ?_
    rintro x w1 ⟨rfl, hb⟩
    have HB := Lib.hid hb
    have hz1 := hb.size
    clear hb
    go_wp2_with fail
    go_ret
    exact ⟨retIA (testN_off HS.out).symm, HA.out.trans (HB.out.mono (by omega))⟩
  · have HO := Lib.hid ((swB_iff _ _).1 HS.out)
    have h8 : (d.size : Int) ≤ 8 := by have := HO.out.size; omega
    by_cases hin : 0 ≤ i ∧ i < d.size
    · obtain ⟨k, rfl⟩ : ∃ k : Nat, i = k := ⟨i.toNat, by omega⟩
      have hk : k < d.size := by omega
      have hiv : inB k 0 ((d.size : Int) - 1) = true := by simp [inB]; omega
      have HIN := Lib.hid (fun W => hiv ▸ l1In_any k 0 ((d.size : Int) - 1) W)
      clear hin hiv
      have HT := Lib.hid (testN_in HS.out hk)
      obtain ⟨x, hxe⟩ : ∃ x, x = d[k]! := ⟨_, rfl⟩
      have hrow := fun W (hW : RowKit.Below w.heap.size w W) => (⟨(HR.out.below hW).low k hk, (HR.out.below hW).high k hk, (HR.out.below hW).target k hk, (HR.out.below hW).weight k hk⟩ : _ ∧ _ ∧ _ ∧ _)
      rw [← hxe] at HT
      simp only [← hxe] at hrow
      have HROW := Lib.hid hrow
      have hcall := Lib.hid (fun W => l3Cost_any x W)
      clear hxe hrow
      go_enter Tryd.func37, Tryd.ntmps37
      go_wp2_with fail
      rw [← HWA.out]
      refine (HV.out _ HA.out).mono ?_
      rintro x w1 ⟨rfl, hb⟩
      have HB := Lib.hid hb
      have hz1 := hb.size
      have a0 := (hb.cell (p := ⟨w.heap.size, 0, none⟩) hz).trans C0.out
      have a1 := (hb.cell (p := ⟨w.heap.size, 1, none⟩) hz).trans C1.out
      have HWB := Lib.hid (HA.out.trans (HB.out.mono (by omega)))
      obtain ⟨x0, x1, x2, x3⟩ := HROW.out _ HWB.out
      clear hb
      go_wp2_with (first
        | (go_at_call 81; refine (HIN.out _).mono ?_; rintro y w2 ⟨rfl, rfl⟩)
        | (go_at_call 82; refine (hcall.out _).mono ?_; rintro y w2 ⟨rfl, hb2⟩; have HB2 := Lib.hid hb2; clear hb2))
      go_ret
      exact ⟨retIA HT.out.symm, HWB.out.trans (HB2.out.mono HWB.out.size)⟩
    · have HT := Lib.hid (testN_out (rest := rest) hin)
      have hiv : inB i 0 ((d.size : Int) - 1) = false := by simp [inB]; omega
      have HIN := Lib.hid (fun W => hiv ▸ l1In_any i 0 ((d.size : Int) - 1) W)
      clear hiv hin
      go_enter Tryd.func37, Tryd.ntmps37
      go_wp2_with fail
      rw [← HWA.out]
      refine (HV.out _ HA.out).mono ?_
      rintro x w1 ⟨rfl, hb⟩
      have HB := Lib.hid hb
      have hz1 := hb.size
      have a0 := (hb.cell (p := ⟨w.heap.size, 0, none⟩) hz).trans C0.out
      have a1 := (hb.cell (p := ⟨w.heap.size, 1, none⟩) hz).trans C1.out
      clear hb
      go_wp2_with (go_at_call 81; refine (HIN.out _).mono ?_; rintro y w2 ⟨rfl, rfl⟩)
      go_ret
      exact ⟨retIA HT.out.symm, HA.out.trans (HB.out.mono (by omega))⟩
end Go.Proofs.YtjmfcnblkojejaaDoor
