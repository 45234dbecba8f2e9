
/- The law on LeastPrice, walked: it returns true whatever the switch. -/
import Derived.Test.YtjpcpiffffobcaaDoorKsCopy
import Derived.Test.YtjpcpiffffobcaaDoorKsLeast
import Derived.Deep.RegionHeld3
namespace Go.Proofs.YtjpcpiffffobcaaDoor
open Go.RowKit Go.Shelf Go.Lib Go.Sort

set_option maxRecDepth 100000 in
set_option maxHeartbeats 1000000 in
theorem lawLeastP_any (v : Value) (rest : Int) (d : Array CaseD) (w : World) (hv : SliceC w v d) (hs : ∀ j, j < d.size → d[j]!.target.size ≤ maxLen) (hE : ErrAt w) :
    Calls Tryd.prog 8 #[.agg #[v, .int .i64 rest]] w fun x w' => x = .returned (.bool true) ∧ RowKit.Below w.heap.size w w' := by
  have HV := Lib.hid hv
  have HE := Lib.hid hE
  have hsz := Lib.hid (fun W (hW : RowKit.Below w.heap.size w W) => szSwitch_any v rest d W (hv.below hW) hs)
  have hto := fun (hn : d.size ≤ 1048576) W (hW : RowKit.Below w.heap.size w W) => toSwitch_any v rest d W (hv.below hW) hn
  have HTO := Lib.hid hto
  clear hv hs hE hto
  go_enter Tryd.func8, Tryd.ntmps8
  go_wp2_with fail
  -- the argument's box
  obtain ⟨wa, hwa⟩ : ∃ wa, wa = w.alloc (.cells #[v, .int .i64 rest] 24) := ⟨_, rfl⟩
  have c0 : wa.cell? ⟨w.heap.size, 0, none⟩ = some v := by rw [hwa]; simp
  have c1 : wa.cell? ⟨w.heap.size, 1, none⟩ = some (.int .i64 rest) := by rw [hwa]; simp
  have hz : w.heap.size < wa.heap.size := by rw [hwa]; simp
  have hba : RowKit.Below w.heap.size w wa := by rw [hwa]; exact (Below.refl _ _).alloc (Nat.le_refl _) _
  rw [← hwa]
  have HA := Lib.hid hba
  have C0 := Lib.hid c0
  have C1 := Lib.hid c1
  clear hwa hba c0 c1
  refine (hsz.out _ HA.out).mono ?_
  rintro x w1 ⟨r, rfl, hr, hb1⟩
  have HR := Lib.hid hr
  have HB1 := Lib.hid hb1
  have hz1 := hb1.size
  have a0 := (hb1.cell (p := ⟨w.heap.size, 0, none⟩) hz).trans C0.out
  have a1 := (hb1.cell (p := ⟨w.heap.size, 1, none⟩) hz).trans C1.out
  clear hr hb1 hsz
  go_wp2_with fail
  · go_ret
    exact ⟨rfl, HA.out.trans (HB1.out.mono (by omega))⟩
  · have hr0 : 0 ≤ r := by assumption
    have hn := HR.out hr0
    have HN := Lib.hid hn
    clear hn HR a0 a1
    -- the model's answer
    refine (HTO.out HN.out _ (HA.out.trans (HB1.out.mono (by omega)))).mono ?_
    rintro x w2 ⟨g1, rfl, hf1⟩
    have HF1 := Lib.hid hf1
    have HB2 := Lib.hid (HB1.out.trans (hf1.2.2.mono hz1))
    have hz2 := HB2.out.size
    clear hf1
    go_wp2_with fail
    refine (specLeastP_any g1 0 d.size d rest w2 HF1.out.2.1 (Nat.le_refl _) (by have := HN.out; unfold maxLen; omega)).mono ?_
    rintro x w3 ⟨rfl, hb3⟩
    have HB3 := Lib.hid (HB2.out.trans (hb3.mono hz2))
    have hz3 := HB3.out.size
    have a0 := (HB3.out.cell (p := ⟨w.heap.size, 0, none⟩) hz).trans C0.out
    have a1 := (HB3.out.cell (p := ⟨w.heap.size, 1, none⟩) hz).trans C1.out
    clear hb3
    go_wp2_with fail
    clear a0 a1
    refine (HTO.out HN.out _ (HA.out.trans (HB3.out.mono (by omega)))).mono ?_
    rintro x w4 ⟨g2, rfl, hf2⟩
    have HF2 := Lib.hid hf2
    have HB4 := Lib.hid (HB3.out.trans (hf2.2.2.mono hz3))
    have hz4 := HB4.out.size
    clear hf2
    go_wp2_with fail
    -- the copy's box
    obtain ⟨w5, hw5⟩ : ∃ w5, w5 = w4.alloc (.cells #[.slice (some ⟨g2, 0, none⟩) d.size d.size, .int .i64 rest] 32) := ⟨_, rfl⟩
    have d0 : w5.cell? ⟨w4.heap.size, 0, none⟩ = some (.slice (some ⟨g2, 0, none⟩) d.size d.size) := by rw [hw5]; simp
    have d1 : w5.cell? ⟨w4.heap.size, 1, none⟩ = some (.int .i64 rest) := by rw [hw5]; simp
    have hz5 : w4.heap.size < w5.heap.size := by rw [hw5]; simp
    have hb5 : RowKit.Below w4.heap.size w4 w5 := by rw [hw5]; exact (Below.refl _ _).alloc (Nat.le_refl _) _
    rw [← hw5]
    have D0 := Lib.hid d0
    have D1 := Lib.hid d1
    have HB5 := Lib.hid (HB4.out.trans (hb5.mono hz4))
    have HR5 := Lib.hid (HF2.out.2.1.below hb5)
    clear hw5 d0 d1 hb5
    refine (implLeastP_any g2 0 d.size d rest w5 HR5.out (HE.out.below (HA.out.trans (HB5.out.mono (by omega)))) (Nat.le_refl _) (by have := HN.out; unfold maxLen; omega)).mono ?_
    rintro x w6 ⟨rfl, hb6⟩
    have HB6 := Lib.hid (HB5.out.trans (hb6.mono (by omega)))
    have HR6 := Lib.hid (HR5.out.below hb6)
    have hz6 := hb6.size
    have e0 := (hb6.cell (p := ⟨w4.heap.size, 0, none⟩) hz5).trans D0.out
    have e1 := (hb6.cell (p := ⟨w4.heap.size, 1, none⟩) hz5).trans D1.out
    have a0 := (HB6.out.cell (p := ⟨w.heap.size, 0, none⟩) hz).trans C0.out
    have a1 := (HB6.out.cell (p := ⟨w.heap.size, 1, none⟩) hz).trans C1.out
    clear hb6
    go_wp2
    have HC6 := Lib.hid (HA.out.trans (HB6.out.mono (by omega)))
    go_region_with (first
      | (go_at_call 15; refine (HTO.out HN.out _ (HC6.out.drew)).mono ?_; rintro x w7 ⟨g3, rfl, hf3⟩; have HF3 := Lib.hid hf3; have hz7 := hf3.2.2.size; have HR7 := Lib.hid (HR6.out.below ((Below.refl w6.heap.size w6).drew.trans hf3.2.2)); have e2 := (hf3.2.2.cell (p := ⟨w4.heap.size, 0, none⟩) (Nat.lt_of_lt_of_le hz5 hz6)).trans e0; have e3 := (hf3.2.2.cell (p := ⟨w4.heap.size, 1, none⟩) (Nat.lt_of_lt_of_le hz5 hz6)).trans e1; have HC7 := Lib.hid (HC6.out.trans ((Below.refl w6.heap.size w6).drew.trans hf3.2.2 |>.mono HC6.out.size)); clear hf3)
      | (go_at_call 18; refine (eqSwitch_same g2 0 d.size g3 0 d.size rest d _ HR7.out HF3.out.2.1 HN.out).mono ?_; rintro x w8 ⟨rfl, hb8⟩; have HC8 := Lib.hid (HC7.out.trans (hb8.mono HC7.out.size)); clear hb8))
    all_goals
      go_wp2
      go_ret
      exact ⟨rfl, HC8.out⟩
end Go.Proofs.YtjpcpiffffobcaaDoor
