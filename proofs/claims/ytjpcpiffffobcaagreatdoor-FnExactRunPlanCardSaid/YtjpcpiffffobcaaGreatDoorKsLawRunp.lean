
/- The law on RunPlan, walked: it returns true whatever the switch and the numbers. -/
import Derived.Test.YtjpcpiffffobcaaGreatDoorKsCopy
import Derived.Test.YtjpcpiffffobcaaGreatDoorKsSizeG
import Derived.Test.YtjpcpiffffobcaaGreatDoorKsRunP
import Derived.Deep.DeepCutAuto
namespace Go.Proofs.YtjpcpiffffobcaaGreatDoor
open Go.RowKit Go.Shelf Go.Lib Go.Sort

set_option maxRecDepth 100000 in
set_option maxHeartbeats 4000000 in
theorem lawRunp_any (v u : Value) (rest key : Int) (d : Array CaseD) (o : Array CluD) (w : World) (hv : SliceC w v d) (hu : SliceQ w u o) (hs : ∀ j, j < d.size → d[j]!.target.size ≤ maxLen) (ho : ∀ j, j < o.size → o[j]!.kind.size ≤ maxLen) (hE : ErrAt w) :
    Calls Tryz.prog 3 #[.agg #[v, .int .i64 rest], u, .int .i64 key] w fun x w' => x = .returned (.bool true) ∧ RowKit.Below w.heap.size w w' := by
  obtain ⟨ua, un, uc, hform⟩ := hu.form
  have HE := Lib.hid hE
  have hszA := Lib.hid (fun W (hW : RowKit.Below w.heap.size w W) => szSwitch_anyG v rest d 1048576 W (by omega) (by omega) (hv.below hW) hs)
  have SZB := Lib.hid (fun l W (h0 : (0 : Int) ≤ l) (h1 : l ≤ 1048576) (hW : RowKit.Below w.heap.size w W) => szClusterS_any u o l W h0 h1 (hu.below hW) ho)
  have TOA := Lib.hid (fun (hn : d.size ≤ 1048576) W (hW : RowKit.Below w.heap.size w W) => toSwitch_any v rest d W (hv.below hW) hn)
  have tob := fun (hn : o.size ≤ 1048576) W (hW : RowKit.Below w.heap.size w W) => toClusterS_any u o W (hu.below hW) hn
  subst hform
  have TOB := Lib.hid tob
  clear hv hu hs hE tob
  go_enter Tryz.func3, Tryz.ntmps3
  go_wp2_with fail
  -- the argument's box
  obtain ⟨wa, hwa⟩ : ∃ wa, wa = w.alloc (.cells #[v, .int .i64 rest] 24) := ⟨_, rfl⟩
  have c0 : wa.cell? ⟨w.heap.size, 0, none⟩ = some v := by rw [hwa]; simp [go_sem]
  have c1 : wa.cell? ⟨w.heap.size, 1, none⟩ = some (.int .i64 rest) := by rw [hwa]; simp [go_sem]
  have hz : wa.heap.size = w.heap.size + 1 := by rw [hwa]; simp
  have hba : RowKit.Below w.heap.size w wa := by rw [hwa]; exact (Below.refl _ _).alloc (Nat.le_refl _) _
  rw [← hwa]
  have HA := Lib.hid hba
  have C := Lib.hid (⟨c0, c1⟩ : _ ∧ _)
  have CC := Lib.hid (fun (W : World) (h : RowKit.Below wa.heap.size wa W) => (⟨(h.cell (p := ⟨w.heap.size, 0, none⟩) (by omega : w.heap.size < wa.heap.size)).trans C.out.1, (h.cell (p := ⟨w.heap.size, 1, none⟩) (by omega : w.heap.size < wa.heap.size)).trans C.out.2⟩ : _ ∧ _))
  clear hwa hba c0 c1
  have HOF := Lib.hid (fun (W : World) (h : RowKit.Below wa.heap.size wa W) => HA.out.trans (h.mono (by omega : w.heap.size ≤ wa.heap.size)))
  refine (hszA.out _ HA.out).mono ?_
  rintro x w1 ⟨r, rfl, hr1, hr, hb1⟩
  have HR := Lib.hid hr
  have HR1 := Lib.hid hr1
  have B1 := Lib.hid hb1
  obtain ⟨a0, a1⟩ := CC.out _ B1.out
  clear hr hr1 hb1 hszA
  go_wp2_with fail
  · go_ret
    exact ⟨rfl, HOF.out _ B1.out⟩
  have hr0 : 0 ≤ r := by assumption
  have hn := HR.out hr0
  have HN := Lib.hid hn
  have HML := Lib.hid (show d.size ≤ maxLen by unfold maxLen; omega)
  clear hn HR a0 a1
  refine (SZB.out r _ hr0 HR1.out (HOF.out _ B1.out)).mono ?_
  rintro x w1' ⟨r', rfl, -, hr', hb1'⟩
  have HR' := Lib.hid hr'
  have B1' := Lib.hid (B1.out.trans (hb1'.mono B1.out.size))
  obtain ⟨a0, a1⟩ := CC.out _ B1'.out
  clear hr' hb1'
  go_wp2_with fail
  · go_ret
    exact ⟨rfl, HOF.out _ B1'.out⟩
  · have hr0' : 0 ≤ r' := by assumption
    have HM := Lib.hid (HR'.out hr0').1
    clear a0 a1 HR'
    -- the model's answer
    refine (TOA.out HN.out _ (HOF.out _ B1'.out)).mono ?_
    rintro x w2 ⟨g1, rfl, hf1⟩
    have R1 := Lib.hid hf1.2.1
    have B2 := Lib.hid (B1'.out.trans (hf1.2.2.mono B1'.out.size))
    clear hf1
    go_wp2_with fail
    refine (TOB.out HM.out _ (HOF.out _ B2.out)).mono ?_
    rintro x w3 ⟨g2, rfl, hf2⟩
    have R13 := Lib.hid (R1.out.below hf2.2.2)
    have R2 := Lib.hid hf2.2.1
    have B3 := Lib.hid (B2.out.trans (hf2.2.2.mono B2.out.size))
    clear hf2
    go_wp2_with fail
    refine (specRunP_any g1 0 d.size d rest g2 0 o.size o key w3 R13.out (Nat.le_refl _) HML.out R2.out HM.out).mono ?_
    rintro x w4 ⟨rfl, hb4⟩
    obtain ⟨z, hzz⟩ : ∃ z, z = runTQ d rest o key := ⟨_, rfl⟩
    obtain ⟨zc, hcc⟩ : ∃ zc, zc = runKQ d rest o key := ⟨_, rfl⟩
    obtain ⟨y, hyy⟩ : ∃ y, y = runOkQ d rest o key := ⟨_, rfl⟩
    have HI := Lib.hid (fun (b1 k1 bo ko : Nat) (W : World) hA hE h1 h2 h3 h4 => implRunP_any b1 0 k1 d rest bo 0 ko o key W hA hE h1 h2 h3 h4)
    rw [← hzz, ← hcc, ← hyy] at HI ⊢
    clear hzz hcc hyy
    have B4 := Lib.hid (B3.out.trans (hb4.mono B3.out.size))
    clear hb4
    obtain ⟨a0, a1⟩ := CC.out _ B4.out
    go_wp2_with fail
    clear a0 a1
    -- the program's arguments
    refine (TOA.out HN.out _ (HOF.out _ B4.out)).mono ?_
    rintro x w5 ⟨g3, rfl, hf3⟩
    have R3 := Lib.hid hf3.2.1
    have B5 := Lib.hid (B4.out.trans (hf3.2.2.mono B4.out.size))
    clear hf3
    go_wp2_with fail
    obtain ⟨w6, hw6⟩ : ∃ w6, w6 = w5.alloc (.cells #[.slice (some ⟨g3, 0, none⟩) d.size d.size, .int .i64 rest] 32) := ⟨_, rfl⟩
    have d0 : w6.cell? ⟨w5.heap.size, 0, none⟩ = some (.slice (some ⟨g3, 0, none⟩) d.size d.size) := by rw [hw6]; simp
    have d1 : w6.cell? ⟨w5.heap.size, 1, none⟩ = some (.int .i64 rest) := by rw [hw6]; simp
    have hz6 : w6.heap.size = w5.heap.size + 1 := by rw [hw6]; simp
    have hb6 : RowKit.Below w5.heap.size w5 w6 := by rw [hw6]; exact (Below.refl _ _).alloc (Nat.le_refl _) _
    rw [← hw6]
    have D := Lib.hid (⟨d0, d1⟩ : _ ∧ _)
    have B6 := Lib.hid (B5.out.trans (hb6.mono B5.out.size))
    have R36 := Lib.hid (R3.out.below hb6)
    clear hw6 d0 d1 hb6
    refine (TOB.out HM.out _ (HOF.out _ B6.out)).mono ?_
    rintro x w7 ⟨g4, rfl, hf4⟩
    have R4 := Lib.hid hf4.2.1
    have R37 := Lib.hid (R36.out.below hf4.2.2)
    have hz7 := hf4.2.2.size
    have d0 := (hf4.2.2.cell (p := ⟨w5.heap.size, 0, none⟩) (by omega : w5.heap.size < w6.heap.size)).trans D.out.1
    have d1 := (hf4.2.2.cell (p := ⟨w5.heap.size, 1, none⟩) (by omega : w5.heap.size < w6.heap.size)).trans D.out.2
    have B7 := Lib.hid (B6.out.trans (hf4.2.2.mono B6.out.size))
    clear hf4
    go_wp2_with fail
    refine (HI.out g3 d.size g4 o.size w7 R37.out (HE.out.below (HOF.out _ B7.out)) (Nat.le_refl _) HML.out R4.out HM.out).mono ?_
    rintro x w8 ⟨rfl, hb8⟩
    have R38 := Lib.hid (R37.out.below hb8)
    have R48 := Lib.hid (R4.out.below hb8)
    have hz8 := hb8.size
    replace d0 := (hb8.cell (p := ⟨w5.heap.size, 0, none⟩) (by omega : w5.heap.size < w7.heap.size)).trans d0
    replace d1 := (hb8.cell (p := ⟨w5.heap.size, 1, none⟩) (by omega : w5.heap.size < w7.heap.size)).trans d1
    have B8 := Lib.hid (B7.out.trans (hb8.mono B7.out.size))
    have hl8 : w5.heap.size < w8.heap.size := by omega
    obtain ⟨a0, a1⟩ := CC.out _ B8.out
    clear hb8 hz6 hz7 hz8
    go_wp2
    go_region_with (first
      | (go_at_call 9; refine (TOA.out HN.out _ (HOF.out _ B8.out.drew)).mono ?_; rintro x w9 ⟨g5, rfl, hf5⟩; have hk9 := (Below.refl w8.heap.size w8).drew.trans hf5.2.2; have K9 := Lib.hid hk9; have R5 := Lib.hid hf5.2.1; have k0 := (hk9.cell (p := ⟨w5.heap.size, 0, none⟩) hl8).trans d0; have k1 := (hk9.cell (p := ⟨w5.heap.size, 1, none⟩) hl8).trans d1; clear hf5 hk9)
      | (go_at_call 12; refine (eqSwitch_same g3 0 d.size g5 0 d.size rest d _ (R38.out.below K9.out) R5.out HN.out).mono ?_; rintro x w10 ⟨rfl, hb10⟩; have K10 := Lib.hid (K9.out.trans (hb10.mono K9.out.size)); clear hb10))
    all_goals
      have B10 := Lib.hid (B8.out.trans (K10.out.mono B8.out.size))
      have R410 := Lib.hid (R48.out.below K10.out)
      go_wp2_with fail
      refine (TOB.out HM.out _ (HOF.out _ B10.out)).mono ?_
      rintro x w11 ⟨g6, rfl, hf6⟩
      have R6 := Lib.hid hf6.2.1
      have R411 := Lib.hid (R410.out.below hf6.2.2)
      have B11 := Lib.hid (B10.out.trans (hf6.2.2.mono B10.out.size))
      clear hf6
      go_wp2_with fail
      refine (eqClusterS_same g4 0 o.size g6 0 o.size o _ R411.out R6.out HM.out).mono ?_
      rintro x w12 ⟨rfl, hb12⟩
      have B12 := Lib.hid (B11.out.trans (hb12.mono B11.out.size))
      clear hb12
      go_wp2
      go_ret
      exact ⟨rfl, HOF.out _ B12.out⟩
end Go.Proofs.YtjpcpiffffobcaaGreatDoor
