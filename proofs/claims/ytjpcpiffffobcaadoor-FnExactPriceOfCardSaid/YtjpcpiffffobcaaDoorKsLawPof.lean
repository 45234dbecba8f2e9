
/- The law on PriceOf, walked: it returns true whatever the switch and the cluster. -/
import Derived.Test.YtjpcpiffffobcaaDoorKsCopy
import Derived.Test.YtjpcpiffffobcaaDoorKsSizeG
import Derived.Test.YtjpcpiffffobcaaDoorKsPof
import Derived.Deep.DeepCutAuto
import Derived.Deep.RegionHeld3
namespace Go.Proofs.YtjpcpiffffobcaaDoor
open Go.RowKit Go.Shelf Go.Lib Go.Sort

set_option maxRecDepth 100000 in
set_option maxHeartbeats 4000000 in
theorem lawPof_any (v : Value) (rest : Int) (d : Array CaseD) (c : CluD) (w : World) (hv : SliceC w v d) (hs : ∀ j, j < d.size → d[j]!.target.size ≤ maxLen) (hc : c.kind.size ≤ maxLen) (hE : ErrAt w) :
    Calls Tryd.prog 3 #[.agg #[v, .int .i64 rest], aggQ c] w fun x w' => x = .returned (.bool true) ∧ RowKit.Below w.heap.size w w' := by
  have HE := Lib.hid hE
  have hszA := Lib.hid (fun W (hW : RowKit.Below w.heap.size w W) => szSwitch_anyG v rest d 1048576 W (by omega) (by omega) (hv.below hW) hs)
  have TOA := Lib.hid (fun (hn : d.size ≤ 1048576) W (hW : RowKit.Below w.heap.size w W) => toSwitch_any v rest d W (hv.below hW) hn)
  have SZB := Lib.hid (fun l W (h0 : (0 : Int) ≤ l) (h1 : l ≤ 1048576) => szCluster_any c l W h0 h1 hc)
  have TOB := Lib.hid (fun W => toCluster_any c W)
  have HMO := Lib.hid (fun (g : Nat) W h1 h2 h3 => specPriceOf_any g 0 d.size d rest c W h1 h2 h3)
  have HPR := Lib.hid (fun (g : Nat) W h1 h2 h3 h4 => implPriceOf_any g 0 d.size d rest c W h1 h2 h3 h4)
  obtain ⟨z, hzz⟩ : ∃ z, z = priceN d rest c := ⟨_, rfl⟩
  rw [← hzz] at HMO HPR
  obtain ⟨cf, cl, ck⟩ := c
  unfold aggQ at SZB TOB HMO HPR ⊢
  clear hv hs hE hc hzz
  go_enter Tryd.func3, Tryd.ntmps3
  go_wp2_with fail
  -- the arguments' boxes
  obtain ⟨wa, hwa⟩ : ∃ wa, wa = (w.alloc (.cells #[v, .int .i64 rest] 24)).alloc (.cells #[.int .i64 cf, .int .i64 cl, .string ck] 26) := ⟨_, rfl⟩
  have c0 : wa.cell? ⟨w.heap.size, 0, none⟩ = some v := by rw [hwa]; simp [go_sem]
  have c1 : wa.cell? ⟨w.heap.size, 1, none⟩ = some (.int .i64 rest) := by rw [hwa]; simp [go_sem]
  have c2 : wa.cell? ⟨w.heap.size + 1, 0, none⟩ = some (.int .i64 cf) := by rw [hwa]; simp [go_sem]
  have c3 : wa.cell? ⟨w.heap.size + 1, 1, none⟩ = some (.int .i64 cl) := by rw [hwa]; simp [go_sem]
  have c4 : wa.cell? ⟨w.heap.size + 1, 2, none⟩ = some (.string ck) := by rw [hwa]; simp [go_sem]
  have hz : wa.heap.size = w.heap.size + 2 := by rw [hwa]; simp
  have hba : RowKit.Below w.heap.size w wa := by rw [hwa]; exact ((Below.refl _ _).alloc (Nat.le_refl _) _).alloc (by simp) _
  rw [← hwa]
  have HA := Lib.hid hba
  have C := Lib.hid (⟨c0, c1, c2, c3, c4⟩ : _ ∧ _ ∧ _ ∧ _ ∧ _)
  have CC := Lib.hid (fun (W : World) (h : RowKit.Below wa.heap.size wa W) => (⟨(h.cell (p := ⟨w.heap.size, 0, none⟩) (by omega : w.heap.size < wa.heap.size)).trans C.out.1, (h.cell (p := ⟨w.heap.size, 1, none⟩) (by omega : w.heap.size < wa.heap.size)).trans C.out.2.1,
    (h.cell (p := ⟨w.heap.size + 1, 0, none⟩) (by omega : w.heap.size + 1 < wa.heap.size)).trans C.out.2.2.1, (h.cell (p := ⟨w.heap.size + 1, 1, none⟩) (by omega : w.heap.size + 1 < wa.heap.size)).trans C.out.2.2.2.1, (h.cell (p := ⟨w.heap.size + 1, 2, none⟩) (by omega : w.heap.size + 1 < wa.heap.size)).trans C.out.2.2.2.2⟩ : _ ∧ _ ∧ _ ∧ _ ∧ _))
  clear hwa hba c0 c1 c2 c3 c4
  have HOF := Lib.hid (fun (W : World) (h : RowKit.Below wa.heap.size wa W) => HA.out.trans (h.mono (by omega : w.heap.size ≤ wa.heap.size)))
  have HZ := Lib.hid (show w.heap.size < wa.heap.size ∧ w.heap.size + 1 < wa.heap.size by omega)
  refine (hszA.out _ HA.out).mono ?_
  rintro x w1 ⟨r, rfl, hr1, hr, hb1⟩
  have HR := Lib.hid hr
  have HR1 := Lib.hid hr1
  have B1 := Lib.hid hb1
  obtain ⟨a0, a1, a2, a3, a4⟩ := CC.out _ B1.out
  clear hr hr1 hb1 hszA hz
  go_wp2_with fail
  · go_ret
    exact ⟨rfl, HOF.out _ B1.out⟩
  · have hr0 : 0 ≤ r := by assumption
    have hn := HR.out hr0
    have HN := Lib.hid hn
    have HML := Lib.hid (show d.size ≤ maxLen by unfold maxLen; omega)
    clear hn HR
    refine (SZB.out r _ hr0 HR1.out).mono ?_
    rintro x w1' ⟨r', rfl, hr1', -, hb1'⟩
    have B1' := Lib.hid (B1.out.trans (hb1'.mono B1.out.size))
    clear a0 a1 a2 a3 a4 hb1'
    obtain ⟨a0, a1, a2, a3, a4⟩ := CC.out _ B1'.out
    go_wp2_with fail
    · go_ret
      exact ⟨rfl, HOF.out _ B1'.out⟩
    · -- the model's answer
      have CB1 := Lib.hid (B1'.out.drew)
      go_region_held3 (fun W => W.cell? ⟨w.heap.size, 0, none⟩ = some v ∧ W.cell? ⟨w.heap.size, 1, none⟩ = some (.int .i64 rest) ∧ W.cell? ⟨w.heap.size + 1, 0, none⟩ = some (.int .i64 cf) ∧ W.cell? ⟨w.heap.size + 1, 1, none⟩ = some (.int .i64 cl) ∧ W.cell? ⟨w.heap.size + 1, 2, none⟩ = some (.string ck))
        (first | exact ⟨a0, a1, a2, a3, a4⟩ | exact K4.out | exact K3.out | exact K2.out | go_keep) (first
        | (go_at_call 15; refine (TOA.out HN.out _ (HOF.out _ CB1.out)).mono ?_; rintro x w2 ⟨g1, rfl, hf1⟩; have R1 := Lib.hid hf1.2.1; have B2 := Lib.hid (CB1.out.trans (hf1.2.2.mono CB1.out.size)); have K2 := Lib.hid (CC.out _ B2.out); clear hf1)
        | (go_at_call 15; with_reducible refine (TOA.out HN.out _ (HOF.out _ B2.out)).mono ?_; rintro x w3 ⟨g1, rfl, hf1⟩; have R3 := Lib.hid hf1.2.1; have B3 := Lib.hid (B2.out.trans (hf1.2.2.mono B2.out.size)); have K3 := Lib.hid (CC.out _ B3.out); clear hf1)
        | (go_at_call 14; with_reducible refine (HMO.out g1 _ R3.out (Nat.le_refl _) HML.out).mono ?_; rintro x w4 ⟨rfl, hb4⟩; have B4 := Lib.hid (B3.out.trans (hb4.mono B3.out.size)); have K4 := Lib.hid (CC.out _ B4.out); clear hb4)
        | (go_at_call 16; with_reducible refine (TOB.out w2).mono ?_; rintro x w3 ⟨rfl, hb3⟩; have R3 := Lib.hid (R1.out.below hb3); have B3 := Lib.hid (B2.out.trans (hb3.mono B2.out.size)); have K3 := Lib.hid (CC.out _ B3.out); clear hb3)
        | (go_at_call 16; with_reducible refine (TOB.out _).mono ?_; rintro x w2 ⟨rfl, hb2⟩; have B2 := Lib.hid (CB1.out.trans (hb2.mono CB1.out.size)); have K2 := Lib.hid (CC.out _ B2.out); clear hb2))
      all_goals
        clear a0 a1 a2 a3 a4
        obtain ⟨a0, a1, a2, a3, a4⟩ := CC.out _ B4.out
        go_wp2_with fail
        clear a0 a1 a2 a3 a4
        -- the program's arguments
        refine (TOA.out HN.out _ (HOF.out _ B4.out)).mono ?_
        rintro x w5 ⟨g3, rfl, hf3⟩
        have R5 := Lib.hid hf3.2.1
        have B5 := Lib.hid (B4.out.trans (hf3.2.2.mono B4.out.size))
        clear hf3
        go_wp2_with fail
        obtain ⟨w6, hw6⟩ : ∃ w6, w6 = w5.alloc (.cells #[.slice (some ⟨g3, 0, none⟩) d.size d.size, .int .i64 rest] 32) := ⟨_, rfl⟩
        have d0 : w6.cell? ⟨w5.heap.size, 0, none⟩ = some (.slice (some ⟨g3, 0, none⟩) d.size d.size) := by rw [hw6]; simp
        have d1 : w6.cell? ⟨w5.heap.size, 1, none⟩ = some (.int .i64 rest) := by rw [hw6]; simp
        have hz6 : w5.heap.size < w6.heap.size := by rw [hw6]; simp
        have hb6 : RowKit.Below w5.heap.size w5 w6 := by rw [hw6]; exact (Below.refl _ _).alloc (Nat.le_refl _) _
        rw [← hw6]
        have D := Lib.hid (⟨d0, d1⟩ : _ ∧ _)
        have B6 := Lib.hid (B5.out.trans (hb6.mono B5.out.size))
        have R36 := Lib.hid (R5.out.below hb6)
        clear hw6 d0 d1 hb6
        obtain ⟨a0, a1, a2, a3, a4⟩ := CC.out _ B6.out
        have q0 := fun P : BW w6 => P.cell (a := ⟨w5.heap.size, 0, none⟩) hz6 D.out.1
        have q1 := fun P : BW w6 => P.cell (a := ⟨w5.heap.size, 1, none⟩) hz6 D.out.2
        have hl0 : w.heap.size < w6.heap.size := Nat.lt_of_lt_of_le (HZ.out.1) B6.out.size
        have hl1 : w.heap.size + 1 < w6.heap.size := Nat.lt_of_lt_of_le (HZ.out.2) B6.out.size
        have q2 := fun P : BW w6 => P.cell (a := ⟨w.heap.size + 1, 0, none⟩) hl1 a2
        have q3 := fun P : BW w6 => P.cell (a := ⟨w.heap.size + 1, 1, none⟩) hl1 a3
        have q4 := fun P : BW w6 => P.cell (a := ⟨w.heap.size + 1, 2, none⟩) hl1 a4
        have JP := Lib.hid (fun P : BW w6 => HPR.out g3 P.W (R36.out.below P.h) (HE.out.below (HOF.out _ (B6.out.trans (P.h.mono B6.out.size)))) (Nat.le_refl _) HML.out)
        clear a0 a1 a2 a3 a4 K2 K3 K4
        refine wp_region_bw (by kernel_rfl) (by kernel_rfl) ?_
        repeat (go_big_quiet_step ((first | (go_at_call 16; with_reducible refine bw_of (TOB.out _)) | (go_at_call 17; with_reducible refine bw_of (JP.out _)))))
        refine wpQuiet_nil ?_
        rintro _ ⟨P, rfl⟩
        have hb := P.h
        generalize P.W = w8 at hb ⊢
        have R38 := Lib.hid (R36.out.below hb)
        have d0 := (hb.cell (p := ⟨w5.heap.size, 0, none⟩) hz6).trans D.out.1
        have d1 := (hb.cell (p := ⟨w5.heap.size, 1, none⟩) hz6).trans D.out.2
        have B8 := Lib.hid (B6.out.trans (hb.mono B6.out.size))
        have hl8 : w5.heap.size < w8.heap.size := Nat.lt_of_lt_of_le hz6 hb.size
        obtain ⟨a0, a1, -, -, -⟩ := CC.out _ B8.out
        clear hb q0 q1 q2 q3 q4 hl0 hl1 hz6
        go_wp2
        go_region_with (first
          | (go_at_call 15; refine (TOA.out HN.out _ (HOF.out _ B8.out.drew)).mono ?_; rintro x w9 ⟨g5, rfl, hf5⟩; have hk9 := (Below.refl w8.heap.size w8).drew.trans hf5.2.2; have K9 := Lib.hid hk9; have R5' := Lib.hid hf5.2.1; have k0 := (hk9.cell (p := ⟨w5.heap.size, 0, none⟩) hl8).trans d0; have k1 := (hk9.cell (p := ⟨w5.heap.size, 1, none⟩) hl8).trans d1; clear hf5 hk9)
          | (go_at_call 18; refine (eqSwitch_same g3 0 d.size g5 0 d.size rest d _ (R38.out.below K9.out) R5'.out HN.out).mono ?_; rintro x w10 ⟨rfl, hb10⟩; have K10 := Lib.hid (K9.out.trans (hb10.mono K9.out.size)); clear hb10))
        all_goals
          go_wp2
          go_ret
          exact ⟨rfl, HOF.out _ (B8.out.trans (K10.out.mono B8.out.size))⟩
end Go.Proofs.YtjpcpiffffobcaaDoor
