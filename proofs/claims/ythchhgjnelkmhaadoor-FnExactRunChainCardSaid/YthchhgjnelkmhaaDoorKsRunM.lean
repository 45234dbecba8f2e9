/- RunChain of the model. -/
import Derived.Test.YthchhgjnelkmhaaDoorKsRunC
namespace Go.Proofs.YthchhgjnelkmhaaDoor
open Go.RowKit Go.Shelf Go.Lib Go.Sort

set_option maxRecDepth 100000 in
set_option maxHeartbeats 1000000 in
theorem specRun_any (b off cap : Nat) (d : Array CaseD) (rest key : Int) (bo co : Nat) (o : Array Int) (w : World) (hR : RowC w b off d) (hcap : d.size ≤ cap) (hmax : cap ≤ maxLen) (hO : RowN w bo 0 o) (ho : o.size ≤ 1048576) :
    Calls Tryd.prog 20 #[.agg #[.slice (some ⟨b, off, none⟩) d.size cap, .int .i64 rest], .slice (some ⟨bo, 0, none⟩) o.size co, .int .i64 key] w fun x w' => x = .returned (.tuple #[.string (runTN d rest o key), .int .i64 (runCN d rest o key), .bool (runB d rest o key)]) ∧ RowKit.Below w.heap.size w w' := by
  have hv := fun W (hW : RowKit.Below w.heap.size w W) => specOrder_any b off cap d rest bo co o W (hR.below hW) hcap hmax (hO.below hW) ho
  have hk := fun W (hW : RowKit.Below w.heap.size w W) (h1 : SwOK d rest) (h2 : OrdOK d.size o) => l3Reach_any b off cap d rest bo co o W (hR.below hW) h1 (hO.below hW) h2
  have ha := fun W (hW : RowKit.Below w.heap.size w W) hn => l1At_any b off cap d rest key W (hR.below hW) hn
  have HK := Lib.hid hk
  have HAT := Lib.hid ha
  have HR := Lib.hid hR
  obtain ⟨wa, hwa⟩ : ∃ wa, wa = w.alloc (.cells #[.slice (some ⟨b, off, none⟩) d.size cap, .int .i64 rest] 30) := ⟨_, rfl⟩
  have c0 : wa.cell? ⟨w.heap.size, 0, none⟩ = some (.slice (some ⟨b, off, none⟩) d.size cap) := by rw [hwa]; simp
  have c1 : wa.cell? ⟨w.heap.size, 1, none⟩ = some (.int .i64 rest) := by rw [hwa]; simp
  have hz : w.heap.size < wa.heap.size := by rw [hwa]; simp
  have hba : RowKit.Below w.heap.size w wa := by rw [hwa]; exact (Below.refl _ _).alloc (Nat.le_refl _) _
  have HA := Lib.hid hba
  have C0 := Lib.hid c0
  have C1 := Lib.hid c1
  have HWA := Lib.hid hwa
  clear hba c0 c1 hwa hR hO hk ha
  have hvv := hv
  cases hs : ordS d rest o <;> cases hkb : keyB key
  all_goals
    have hki := fun W => l1Key_any key W
    simp only [hs] at hvv
    simp only [hkb] at hki
    have HV := Lib.hid hvv
    have HKI := Lib.hid hki
    have HS := Lib.hid hs
    have HKB := Lib.hid hkb
    clear hv hvv hs hki hkb
    go_enter Tryd.func20, Tryd.ntmps20
    go_wp2_with fail
    rw [← HWA.out]
    refine (HV.out _ HA.out).mono ?_
    rintro x w1 ⟨rfl, hb⟩
    have HB := Lib.hid hb
    have hz1 := hb.size
    have a0 := (hb.cell (p := ⟨w.heap.size, 0, none⟩) hz).trans C0.out
    have a1 := (hb.cell (p := ⟨w.heap.size, 1, none⟩) hz).trans C1.out
    have HWB := Lib.hid (HA.out.trans (HB.out.mono (by omega)))
    have hz1' : w.heap.size < w1.heap.size := by omega
    clear hb
    go_wp2_with (go_at_call 45; refine (HKI.out _).mono ?_; rintro y w2 ⟨rfl, rfl⟩)
  iterate 2
    · have HRB := Lib.hid (show runB d rest o key = false by rw [runB, HS.out]; rfl)
      go_ret3
      exact ⟨ret3 (runTN_no HRB.out).symm (runCN_no HRB.out).symm HRB.out.symm, HWB.out⟩
  · have HRB := Lib.hid (show runB d rest o key = false by rw [runB, HKB.out, Bool.and_false])
    go_ret3
    exact ⟨ret3 (runTN_no HRB.out).symm (runCN_no HRB.out).symm HRB.out.symm, HWB.out⟩
  · obtain ⟨hok, hord⟩ := ordS_on HS.out
    have hrb : runB d rest o key = true := by rw [runB, HS.out, HKB.out]; rfl
    have HRT := Lib.hid (show runTN d rest o key = runT d key by rw [runTN, if_pos hrb])
    have HRC := Lib.hid (show runCN d rest o key = runC d o key by rw [runCN, if_pos hrb])
    have HRB := Lib.hid hrb
    have HOK := Lib.hid hok
    have HORD := Lib.hid hord
    have h8d : (d.size : Int) ≤ 8 := by have := hok.size; omega
    refine (HK.out _ HWB.out hok hord).mono ?_
    rintro x w2 ⟨g, rfl, hg, hbx, hb2⟩
    have HX := Lib.hid hbx
    have HB2 := Lib.hid (HWB.out.trans (hb2.mono HWB.out.size))
    have a0 := (hb2.cell (p := ⟨w.heap.size, 0, none⟩) hz1').trans a0
    have a1 := (hb2.cell (p := ⟨w.heap.size, 1, none⟩) hz1').trans a1
    have hz2 := hb2.size
    have hz2' : w.heap.size < w2.heap.size := by omega
    have hla := HAT.out _ HB2.out hok.size
    rcases atN_cases d key with ⟨k, hkd, hat, _⟩ | ⟨hat, _⟩
    · rw [hat] at hla
      have HLA := Lib.hid hla
      have HT1 := Lib.hid (show runT d key = d[k]!.target by rw [runT, hat, if_pos (by omega), Int.toNat_natCast])
      have HC1 := Lib.hid (show runC d o key = (reachA d o)[k]! by rw [runC, hat, if_pos (by omega), Int.toNat_natCast])
      have hko : k < (reachA d o).size := by rw [reachA_size, hord.1]; exact hkd
      have HKO := Lib.hid hko
      have hki : (k : Int) < (o.size : Int) := by rw [hord.1]; omega
      clear hla hok hord hbx hb2 hrb hat hko
      go_wp2_with fail
      refine HLA.out.mono ?_
      rintro x w3 ⟨rfl, hb3⟩
      have HB3 := Lib.hid (HB2.out.trans (hb3.mono HB2.out.size))
      have a0 := (hb3.cell (p := ⟨w.heap.size, 0, none⟩) hz2').trans a0
      have a1 := (hb3.cell (p := ⟨w.heap.size, 1, none⟩) hz2').trans a1
      have x2 := (HR.out.below HB3.out).target k hkd
      have y0 := (hb3.cell (p := ⟨g, 0 + k, none⟩) HX.out.lt).trans (HX.out.row.cell k HKO.out)
      simp only [Nat.zero_add] at y0
      clear hb3
      obtain ⟨tg, htg⟩ : ∃ tg, tg = d[k]!.target := ⟨_, rfl⟩
      obtain ⟨rc, hrc⟩ : ∃ rc, rc = (reachA d o)[k]! := ⟨_, rfl⟩
      rw [← htg] at x2 HT1
      rw [← hrc] at y0 HC1
      clear htg hrc
      have hkd' : (k : Int) < (d.size : Int) := by omega
      go_wp2_with fail
      go_region
      all_goals
        go_wp2
        go_ret3
        exact ⟨ret3 (HRT.out.trans HT1.out).symm (HRC.out.trans HC1.out).symm HRB.out.symm, HB3.out.drew⟩
    · rw [hat] at hla
      have HLA := Lib.hid hla
      have HT1 := Lib.hid (show runT d key = zS by rw [runT, hat, if_neg (by omega)])
      have HC1 := Lib.hid (show runC d o key = rsum d o o.size by rw [runC, hat, if_neg (by omega)])
      clear hla hok hord hbx hb2 hrb hat
      go_wp2_with fail
      refine HLA.out.mono ?_
      rintro x w3 ⟨rfl, hb3⟩
      have HB3 := Lib.hid (HB2.out.trans (hb3.mono HB2.out.size))
      clear hb3
      go_wp2
      go_ret3
      exact ⟨ret3 (HRT.out.trans HT1.out).symm (HRC.out.trans HC1.out).symm HRB.out.symm, HB3.out⟩
end Go.Proofs.YthchhgjnelkmhaaDoor
