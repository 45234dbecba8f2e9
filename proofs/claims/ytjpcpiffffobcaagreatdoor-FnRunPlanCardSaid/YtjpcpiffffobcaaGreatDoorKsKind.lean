
/- BestKind: the program's and the model's. -/
import Derived.Test.YtjpcpiffffobcaaGreatDoorKsPriS
namespace Go.Proofs.YtjpcpiffffobcaaGreatDoor
open Go.RowKit Go.Shelf Go.Lib Go.Sort

noncomputable def kindN (d : Array CaseD) (rest first last : Int) : ByteArray := if hasB8 d rest first last = true then bestN8 (subD d first.toNat last.toNat) else ⟨#[]⟩
theorem hasB8_in {d : Array CaseD} {rest first last : Int} (h : hasB8 d rest first last = true) : SwOK d rest ∧ ∃ i k : Nat, first = i ∧ last = k ∧ i ≤ k ∧ k < d.size ∧ first.toNat = i ∧ last.toNat = k := by
  unfold hasB8 at h
  rw [Bool.and_eq_true, swB_iff, decide_eq_true_eq] at h
  exact ⟨h.1, first.toNat, last.toNat, by omega, by omega, by omega, by omega, rfl, rfl⟩
set_option maxRecDepth 100000 in
set_option maxHeartbeats 1000000 in
theorem implKind_any (b off cap : Nat) (d : Array CaseD) (rest first last : Int) (w : World) (hR : RowC w b off d) (hE : ErrAt w) (hcap : d.size ≤ cap) (hmax : cap ≤ maxLen) :
    Calls Tryz.prog 25 #[.agg #[.slice (some ⟨b, off, none⟩) d.size cap, .int .i64 rest], .int .i64 first, .int .i64 last] w fun x w' => x = .returned (.tuple #[.string (kindN d rest first last), .bool (hasB8 d rest first last)]) ∧ RowKit.Below w.heap.size w w' := by
  have HH := Lib.hid (fun W (hW : RowKit.Below w.heap.size w W) => hasCases_any b off cap d rest first last W (hR.below hW) (hE.below hW) hcap hmax)
  obtain ⟨wa, hwa⟩ : ∃ wa, wa = w.alloc (.cells #[.slice (some ⟨b, off, none⟩) d.size cap, .int .i64 rest] 32) := ⟨_, rfl⟩
  have hba : RowKit.Below w.heap.size w wa := by rw [hwa]; exact (Below.refl _ _).alloc (Nat.le_refl _) _
  have c0 : wa.cell? ⟨w.heap.size, 0, none⟩ = some (.slice (some ⟨b, off, none⟩) d.size cap) := by rw [hwa]; simp
  have c1 : wa.cell? ⟨w.heap.size, 1, none⟩ = some (.int .i64 rest) := by rw [hwa]; simp
  have hz : w.heap.size < wa.heap.size := by rw [hwa]; simp
  have HWA := Lib.hid hwa
  have HBA := Lib.hid hba
  clear hwa hba
  cases hs : hasB8 d rest first last with
  | false =>
    have HK := Lib.hid (show kindN d rest first last = ⟨#[]⟩ by rw [kindN, if_neg (by rw [hs]; simp)])
    rw [hs] at HH
    clear hs hR hE hcap hmax
    go_enter Tryz.func25, Tryz.ntmps25
    go_wp2_with fail
    rw [← HWA.out]
    go_wp2_with fail
    refine (HH.out _ HBA.out).mono ?_
    rintro y w1 ⟨rfl, hb⟩
    have HB := Lib.hid (HBA.out.trans (hb.mono HBA.out.size))
    clear hb c0 c1
    go_wp2_with fail
    go_ret2
    exact ⟨ret2 HK.out.symm rfl, HB.out⟩
  | true =>
    obtain ⟨hok, i, k, rfl, rfl, hik, hk, hi1, hk1⟩ := hasB8_in hs
    have HK := Lib.hid (show kindN d rest i k = bestN8 (subD d i k) by rw [kindN, if_pos hs, hi1, hk1])
    have HC := Lib.hid (fun W (hW : RowKit.Below w.heap.size w W) => cheapest_any b off cap d rest i k W (hR.below hW) (hE.below hW) hcap hmax hok hik hk)
    rw [hs] at HH
    obtain ⟨z, hzz⟩ : ∃ z, z = bestN8 (subD d i k) := ⟨_, rfl⟩
    obtain ⟨q, hq⟩ : ∃ q, q = bestP8 (subD d i k) := ⟨_, rfl⟩
    rw [← hzz] at HK HC
    rw [← hq] at HC
    clear hs hR hE hcap hmax hok hzz hq hi1 hk1
    go_enter Tryz.func25, Tryz.ntmps25
    go_wp2_with fail
    rw [← HWA.out]
    go_wp2_with fail
    refine (HH.out _ HBA.out).mono ?_
    rintro y w1 ⟨rfl, hb⟩
    have HB := Lib.hid (HBA.out.trans (hb.mono HBA.out.size))
    have e0 := (hb.cell (p := ⟨w.heap.size, 0, none⟩) hz).trans c0
    have e1 := (hb.cell (p := ⟨w.heap.size, 1, none⟩) hz).trans c1
    clear hb c0 c1
    go_wp2_with fail
    refine (HC.out _ HB.out).mono ?_
    rintro y w2 ⟨rfl, hb⟩
    have HB2 := Lib.hid (HB.out.trans (hb.mono HB.out.size))
    clear hb e0 e1
    go_wp2_with fail
    go_ret2
    exact ⟨ret2 HK.out.symm rfl, HB2.out.alloc HB2.out.size _⟩
set_option maxRecDepth 100000 in
set_option maxHeartbeats 1000000 in
theorem specKind_any (b off cap : Nat) (d : Array CaseD) (rest first last : Int) (w : World) (hR : RowC w b off d) (hcap : d.size ≤ cap) (hmax : cap ≤ maxLen) :
    Calls Tryz.prog 29 #[.agg #[.slice (some ⟨b, off, none⟩) d.size cap, .int .i64 rest], .int .i64 first, .int .i64 last] w fun x w' => x = .returned (.tuple #[.string (kindN d rest first last), .bool (hasB8 d rest first last)]) ∧ RowKit.Below w.heap.size w w' := by
  have HH := Lib.hid (fun W (hW : RowKit.Below w.heap.size w W) => l8Cases_any b off cap d rest first last W (hR.below hW) hcap hmax)
  obtain ⟨wa, hwa⟩ : ∃ wa, wa = w.alloc (.cells #[.slice (some ⟨b, off, none⟩) d.size cap, .int .i64 rest] 32) := ⟨_, rfl⟩
  have hba : RowKit.Below w.heap.size w wa := by rw [hwa]; exact (Below.refl _ _).alloc (Nat.le_refl _) _
  have c0 : wa.cell? ⟨w.heap.size, 0, none⟩ = some (.slice (some ⟨b, off, none⟩) d.size cap) := by rw [hwa]; simp
  have c1 : wa.cell? ⟨w.heap.size, 1, none⟩ = some (.int .i64 rest) := by rw [hwa]; simp
  have hz : w.heap.size < wa.heap.size := by rw [hwa]; simp
  have HWA := Lib.hid hwa
  have HBA := Lib.hid hba
  clear hwa hba
  cases hs : hasB8 d rest first last with
  | false =>
    have HK := Lib.hid (show kindN d rest first last = ⟨#[]⟩ by rw [kindN, if_neg (by rw [hs]; simp)])
    rw [hs] at HH
    clear hs hR hcap hmax
    go_enter Tryz.func29, Tryz.ntmps29
    go_wp2_with fail
    rw [← HWA.out]
    go_wp2_with fail
    refine (HH.out _ HBA.out).mono ?_
    rintro y w1 ⟨rfl, hb⟩
    have HB := Lib.hid (HBA.out.trans (hb.mono HBA.out.size))
    clear hb c0 c1
    go_wp2_with fail
    go_ret2
    exact ⟨ret2 HK.out.symm rfl, HB.out⟩
  | true =>
    obtain ⟨hok, i, k, rfl, rfl, hik, hk, hi1, hk1⟩ := hasB8_in hs
    have HK := Lib.hid (show kindN d rest i k = bestN8 (subD d i k) by rw [kindN, if_pos hs, hi1, hk1])
    have HC := Lib.hid (fun W (hW : RowKit.Below w.heap.size w W) => l8Best_any b off cap d rest i k W (hR.below hW) hok hik hk hcap)
    rw [hs] at HH
    obtain ⟨z, hzz⟩ : ∃ z, z = bestN8 (subD d i k) := ⟨_, rfl⟩
    obtain ⟨q, hq⟩ : ∃ q, q = bestP8 (subD d i k) := ⟨_, rfl⟩
    rw [← hzz] at HK HC
    rw [← hq] at HC
    clear hs hR hcap hmax hok hzz hq hi1 hk1
    go_enter Tryz.func29, Tryz.ntmps29
    go_wp2_with fail
    rw [← HWA.out]
    go_wp2_with fail
    refine (HH.out _ HBA.out).mono ?_
    rintro y w1 ⟨rfl, hb⟩
    have HB := Lib.hid (HBA.out.trans (hb.mono HBA.out.size))
    have e0 := (hb.cell (p := ⟨w.heap.size, 0, none⟩) hz).trans c0
    have e1 := (hb.cell (p := ⟨w.heap.size, 1, none⟩) hz).trans c1
    clear hb c0 c1
    go_wp2_with fail
    refine (HC.out _ HB.out).mono ?_
    rintro y w2 ⟨rfl, hb⟩
    have HB2 := Lib.hid (HB.out.trans (hb.mono HB.out.size))
    clear hb e0 e1
    go_wp2_with fail
    go_ret2
    exact ⟨ret2 HK.out.symm rfl, HB2.out⟩
end Go.Proofs.YtjpcpiffffobcaaGreatDoor
