
/- LeastPrice: the program's and the model's. -/
import Derived.Test.YtjpcpiffffobcaaDoorKsTailC
import Derived.Test.YtjpcpiffffobcaaDoorKsTailS
namespace Go.Proofs.YtjpcpiffffobcaaDoor
open Go.RowKit Go.Shelf Go.Lib Go.Sort

noncomputable def leastN (d : Array CaseD) (rest : Int) : Int := if swB d rest = true then (finT d 0).1 else -1
theorem tail_field0 (z : Int) (v : Value) (W : World) : (Instr.field 82 (.agg #[.int .i64 z, v]) 0).run Tryd.prog W = .ok (.int .i64 z) W := by kernel_rfl
theorem tail_field1 (z : Int) (v : Value) (W : World) : (Instr.field 82 (.agg #[.int .i64 z, v]) 1).run Tryd.prog W = .ok v W := by kernel_rfl
set_option maxRecDepth 100000 in
set_option maxHeartbeats 1000000 in
theorem implLeastP_any (b off cap : Nat) (d : Array CaseD) (rest : Int) (w : World) (hR : RowC w b off d) (hE : ErrAt w) (hcap : d.size ≤ cap) (hmax : cap ≤ maxLen) :
    Calls Tryd.prog 34 #[.agg #[.slice (some ⟨b, off, none⟩) d.size cap, .int .i64 rest]] w fun x w' => x = .returned (.int .i64 (leastN d rest)) ∧ RowKit.Below w.heap.size w w' := by
  have HV := Lib.hid (fun W (hW : RowKit.Below w.heap.size w W) => switchValid_any b off cap d rest W (hR.below hW) (hE.below hW) hcap hmax)
  obtain ⟨wa, hwa⟩ : ∃ wa, wa = w.alloc (.cells #[.slice (some ⟨b, off, none⟩) d.size cap, .int .i64 rest] 32) := ⟨_, rfl⟩
  have hba : RowKit.Below w.heap.size w wa := by rw [hwa]; exact (Below.refl _ _).alloc (Nat.le_refl _) _
  have c0 : wa.cell? ⟨w.heap.size, 0, none⟩ = some (.slice (some ⟨b, off, none⟩) d.size cap) := by rw [hwa]; simp
  have c1 : wa.cell? ⟨w.heap.size, 1, none⟩ = some (.int .i64 rest) := by rw [hwa]; simp
  have hz : w.heap.size < wa.heap.size := by rw [hwa]; simp
  have HWA := Lib.hid hwa
  have HBA := Lib.hid hba
  clear hwa hba
  cases hs : swB d rest with
  | false =>
    have HK := Lib.hid (show leastN d rest = -1 by rw [leastN, if_neg (by rw [hs]; simp)])
    rw [hs] at HV
    clear hs hR hE hcap hmax
    go_enter Tryd.func34, Tryd.ntmps34
    go_wp2_with fail
    rw [← HWA.out]
    go_wp2_with fail
    refine (HV.out _ HBA.out).mono ?_
    rintro y w1 ⟨rfl, hb⟩
    have HB := Lib.hid (HBA.out.trans (hb.mono HBA.out.size))
    clear hb c0 c1
    go_wp2_with fail
    go_ret
    exact ⟨retI HK.out.symm, HB.out⟩
  | true =>
    have HK := Lib.hid (show leastN d rest = (finT d 0).1 by rw [leastN, if_pos hs])
    have HT := Lib.hid (fun W (hW : RowKit.Below w.heap.size w W) => bestTail_any b off cap d rest W (hR.below hW) (hE.below hW) hcap hmax ((swB_iff _ _).1 hs))
    obtain ⟨z, hzz⟩ : ∃ z, z = (finT d 0).1 := ⟨_, rfl⟩
    rw [← hzz] at HK HT
    rw [hs] at HV
    clear hs hR hE hcap hmax hzz
    go_enter Tryd.func34, Tryd.ntmps34
    go_wp2_with fail
    rw [← HWA.out]
    go_wp2_with fail
    refine (HV.out _ HBA.out).mono ?_
    rintro y w1 ⟨rfl, hb⟩
    have HB := Lib.hid (HBA.out.trans (hb.mono HBA.out.size))
    have e0 := (hb.cell (p := ⟨w.heap.size, 0, none⟩) hz).trans c0
    have e1 := (hb.cell (p := ⟨w.heap.size, 1, none⟩) hz).trans c1
    clear hb c0 c1
    go_wp2_with fail
    refine (HT.out _ HB.out).mono ?_
    rintro y w2 ⟨v, rfl, -, hb⟩
    have HB2 := Lib.hid (HB.out.trans (hb.mono HB.out.size))
    have hf0 := fun W => tail_field0 z v W
    clear hb e0 e1
    go_wp2_with fail
    go_ret
    exact ⟨retI HK.out.symm, HB2.out⟩
set_option maxRecDepth 100000 in
set_option maxHeartbeats 1000000 in
theorem specLeastP_any (b off cap : Nat) (d : Array CaseD) (rest : Int) (w : World) (hR : RowC w b off d) (hcap : d.size ≤ cap) (hmax : cap ≤ maxLen) :
    Calls Tryd.prog 33 #[.agg #[.slice (some ⟨b, off, none⟩) d.size cap, .int .i64 rest]] w fun x w' => x = .returned (.int .i64 (leastN d rest)) ∧ RowKit.Below w.heap.size w w' := by
  have HV := Lib.hid (fun W (hW : RowKit.Below w.heap.size w W) => specValid_any b off cap d rest W (hR.below hW) hcap hmax)
  obtain ⟨wa, hwa⟩ : ∃ wa, wa = w.alloc (.cells #[.slice (some ⟨b, off, none⟩) d.size cap, .int .i64 rest] 32) := ⟨_, rfl⟩
  have hba : RowKit.Below w.heap.size w wa := by rw [hwa]; exact (Below.refl _ _).alloc (Nat.le_refl _) _
  have c0 : wa.cell? ⟨w.heap.size, 0, none⟩ = some (.slice (some ⟨b, off, none⟩) d.size cap) := by rw [hwa]; simp
  have c1 : wa.cell? ⟨w.heap.size, 1, none⟩ = some (.int .i64 rest) := by rw [hwa]; simp
  have hz : w.heap.size < wa.heap.size := by rw [hwa]; simp
  have HWA := Lib.hid hwa
  have HBA := Lib.hid hba
  clear hwa hba
  cases hs : swB d rest with
  | false =>
    have HK := Lib.hid (show leastN d rest = -1 by rw [leastN, if_neg (by rw [hs]; simp)])
    rw [hs] at HV
    clear hs hR hcap hmax
    go_enter Tryd.func33, Tryd.ntmps33
    go_wp2_with fail
    rw [← HWA.out]
    go_wp2_with fail
    refine (HV.out _ HBA.out).mono ?_
    rintro y w1 ⟨rfl, hb⟩
    have HB := Lib.hid (HBA.out.trans (hb.mono HBA.out.size))
    clear hb c0 c1
    go_wp2_with fail
    go_ret
    exact ⟨retI HK.out.symm, HB.out⟩
  | true =>
    have HK := Lib.hid (show leastN d rest = (finT d 0).1 by rw [leastN, if_pos hs])
    have HT := Lib.hid (fun W (hW : RowKit.Below w.heap.size w W) => l8Plans_any b off cap d rest W (hR.below hW) ((swB_iff _ _).1 hs) hcap)
    have h8 : (d.size : Int) ≤ 8 := by have := ((swB_iff _ _).1 hs).size; omega
    rw [hs] at HV
    clear hs hR hcap hmax
    go_enter Tryd.func33, Tryd.ntmps33
    go_wp2_with fail
    rw [← HWA.out]
    go_wp2_with fail
    refine (HV.out _ HBA.out).mono ?_
    rintro y w1 ⟨rfl, hb⟩
    have HB := Lib.hid (HBA.out.trans (hb.mono HBA.out.size))
    have e0 := (hb.cell (p := ⟨w.heap.size, 0, none⟩) hz).trans c0
    have e1 := (hb.cell (p := ⟨w.heap.size, 1, none⟩) hz).trans c1
    clear hb c0 c1
    go_wp2_with fail
    refine (HT.out _ HB.out).mono ?_
    rintro y w2 ⟨g1, g2, rfl, hb1, -, -, -, hb⟩
    have HB2 := Lib.hid (HB.out.trans (hb.mono HB.out.size))
    have p0 := hb1.cell 0 (by omega)

    obtain ⟨z, hzz⟩ : ∃ z, z = (tabT d d.size 0).1 := ⟨_, rfl⟩
    have HZ := Lib.hid (show leastN d rest = z from HK.out.trans hzz.symm)
    rw [← hzz] at p0
    clear hb e0 e1 hb1 hzz
    go_wp2_with fail
    go_ret
    exact ⟨retI HZ.out.symm, HB2.out⟩
end Go.Proofs.YtjpcpiffffobcaaDoor
