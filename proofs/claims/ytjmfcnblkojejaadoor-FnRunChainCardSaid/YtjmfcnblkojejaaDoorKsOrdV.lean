
/- OrderValid: the program's and the model's. -/
import Derived.Test.YtjmfcnblkojejaaDoorKsHasAll
import Derived.Test.YtjmfcnblkojejaaDoorKsModel
namespace Go.Proofs.YtjmfcnblkojejaaDoor
open Go.RowKit Go.Shelf Go.Lib Go.Sort

noncomputable def ordS (d : Array CaseD) (rest : Int) (o : Array Int) : Bool := swB d rest && ordB d.size o

set_option maxRecDepth 100000 in
set_option maxHeartbeats 1000000 in
theorem implOrder_any (b off cap : Nat) (d : Array CaseD) (rest : Int) (bo co : Nat) (o : Array Int) (w : World) (hR : RowC w b off d) (hE : ErrAt w) (hcap : d.size ≤ cap) (hmax : cap ≤ maxLen) (hO : RowN w bo 0 o) (ho : o.size ≤ 1048576) :
    Calls Tryd.prog 34 #[.agg #[.slice (some ⟨b, off, none⟩) d.size cap, .int .i64 rest], .slice (some ⟨bo, 0, none⟩) o.size co] w fun x w' => x = .returned (.bool (ordS d rest o)) ∧ RowKit.Below w.heap.size w w' := by
  have hv := fun W (hW : RowKit.Below w.heap.size w W) => switchValid_any b off cap d rest W (hR.below hW) (hE.below hW) hcap hmax
  have hk := fun W (hW : RowKit.Below w.heap.size w W) (hn : d.size ≤ 8) => hasAll_any bo co d.size o W hn (hO.below hW) ho
  have HK := Lib.hid hk
  obtain ⟨wa, hwa⟩ : ∃ wa, wa = w.alloc (.cells #[.slice (some ⟨b, off, none⟩) d.size cap, .int .i64 rest] 25) := ⟨_, rfl⟩
  have c0 : wa.cell? ⟨w.heap.size, 0, none⟩ = some (.slice (some ⟨b, off, none⟩) d.size cap) := by rw [hwa]; simp
  have c1 : wa.cell? ⟨w.heap.size, 1, none⟩ = some (.int .i64 rest) := by rw [hwa]; simp
  have hz : w.heap.size < wa.heap.size := by rw [hwa]; simp
  have hba : RowKit.Below w.heap.size w wa := by rw [hwa]; exact (Below.refl _ _).alloc (Nat.le_refl _) _
  have HA := Lib.hid hba
  have C0 := Lib.hid c0
  have C1 := Lib.hid c1
  have HWA := Lib.hid hwa
  clear hba c0 c1 hwa hR hE hO hk
  cases hs : swB d rest
  all_goals
    simp only [hs] at hv
    have HV := Lib.hid hv
    have HS := Lib.hid hs
    clear hv hs
    go_enter Tryd.func34, Tryd.ntmps34
    go_wp2_with fail
    rw [← HWA.out]
    refine (HV.out _ HA.out).mono ?_
    rintro x w1 ⟨rfl, hb⟩
    have HB := Lib.hid hb
    have hz1 := hb.size
    have a0 := (hb.cell (p := ⟨w.heap.size, 0, none⟩) hz).trans C0.out
    have a1 := (hb.cell (p := ⟨w.heap.size, 1, none⟩) hz).trans C1.out
    clear hb
    have HWB := Lib.hid (HA.out.trans (HB.out.mono (by omega)))
    go_wp2_with fail
  · go_ret
    exact ⟨retB (by rw [ordS, HS.out]; rfl), HWB.out⟩
  · refine (HK.out _ HWB.out ((swB_iff _ _).1 HS.out).size).mono ?_
    rintro x w2 ⟨rfl, hb2⟩
    have HB2 := Lib.hid (HWB.out.trans (hb2.mono HWB.out.size))
    clear hb2
    go_wp2
    go_ret
    exact ⟨retB (by rw [ordS, HS.out]; rfl), HB2.out⟩

set_option maxRecDepth 100000 in
set_option maxHeartbeats 1000000 in
theorem specOrder_any (b off cap : Nat) (d : Array CaseD) (rest : Int) (bo co : Nat) (o : Array Int) (w : World) (hR : RowC w b off d) (hcap : d.size ≤ cap) (hmax : cap ≤ maxLen) (hO : RowN w bo 0 o) (ho : o.size ≤ 1048576) :
    Calls Tryd.prog 35 #[.agg #[.slice (some ⟨b, off, none⟩) d.size cap, .int .i64 rest], .slice (some ⟨bo, 0, none⟩) o.size co] w fun x w' => x = .returned (.bool (ordS d rest o)) ∧ RowKit.Below w.heap.size w w' := by
  have hv := fun W (hW : RowKit.Below w.heap.size w W) => specValid_any b off cap d rest W (hR.below hW) hcap hmax
  have hk := fun W (hW : RowKit.Below w.heap.size w W) (hn : d.size ≤ 8) => l3Order_any d.size bo 0 co o W hn (hO.below hW) ho
  have HK := Lib.hid hk
  obtain ⟨wa, hwa⟩ : ∃ wa, wa = w.alloc (.cells #[.slice (some ⟨b, off, none⟩) d.size cap, .int .i64 rest] 25) := ⟨_, rfl⟩
  have c0 : wa.cell? ⟨w.heap.size, 0, none⟩ = some (.slice (some ⟨b, off, none⟩) d.size cap) := by rw [hwa]; simp
  have c1 : wa.cell? ⟨w.heap.size, 1, none⟩ = some (.int .i64 rest) := by rw [hwa]; simp
  have hz : w.heap.size < wa.heap.size := by rw [hwa]; simp
  have hba : RowKit.Below w.heap.size w wa := by rw [hwa]; exact (Below.refl _ _).alloc (Nat.le_refl _) _
  have HA := Lib.hid hba
  have C0 := Lib.hid c0
  have C1 := Lib.hid c1
  have HWA := Lib.hid hwa
  clear hba c0 c1 hwa hR hO hk
  cases hs : swB d rest
  all_goals
    simp only [hs] at hv
    have HV := Lib.hid hv
    have HS := Lib.hid hs
    clear hv hs
    go_enter Tryd.func35, Tryd.ntmps35
    go_wp2_with fail
    rw [← HWA.out]
    refine (HV.out _ HA.out).mono ?_
    rintro x w1 ⟨rfl, hb⟩
    have HB := Lib.hid hb
    have hz1 := hb.size
    have a0 := (hb.cell (p := ⟨w.heap.size, 0, none⟩) hz).trans C0.out
    have a1 := (hb.cell (p := ⟨w.heap.size, 1, none⟩) hz).trans C1.out
    clear hb
    have HWB := Lib.hid (HA.out.trans (HB.out.mono (by omega)))
    go_wp2_with fail
  · go_ret
    exact ⟨retB (by rw [ordS, HS.out]; rfl), HWB.out⟩
  · refine (HK.out _ HWB.out ((swB_iff _ _).1 HS.out).size).mono ?_
    rintro x w2 ⟨rfl, hb2⟩
    have HB2 := Lib.hid (HWB.out.trans (hb2.mono HWB.out.size))
    clear hb2
    go_wp2
    go_ret
    exact ⟨retB (by rw [ordS, HS.out]; rfl), HB2.out⟩
end Go.Proofs.YtjmfcnblkojejaaDoor
