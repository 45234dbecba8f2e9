/- The law on FirstOther, walked: it returns true whatever the two switches. -/
import Derived.Test.YtlcekocbaffnnaaDoorKsSizeG
import Derived.Test.YtlcekocbaffnnaaDoorKsCopy
import Derived.Test.YtlcekocbaffnnaaDoorKsOtherS
import Derived.Deep.DeepCutAuto
namespace Go.Proofs.YtlcekocbaffnnaaDoor
open Go.RowKit Go.Shelf Go.Lib Go.Sort

set_option maxRecDepth 100000 in
set_option maxHeartbeats 4000000 in
theorem lawOther_any (v u : Value) (ra rb : Int) (d e : Array CaseD) (w : World) (hv : SliceC w v d) (hu : SliceC w u e) (hs : ∀ j, j < d.size → d[j]!.target.size ≤ maxLen) (ht : ∀ j, j < e.size → e[j]!.target.size ≤ maxLen) (hE : ErrAt w) :
    Calls Tryd.prog 11 #[.agg #[v, .int .i64 ra], .agg #[u, .int .i64 rb]] w fun x w' => x = .returned (.bool true) ∧ RowKit.Below w.heap.size w w' := by
  have HE := Lib.hid hE
  have hszA := Lib.hid (fun W (hW : RowKit.Below w.heap.size w W) => szSwitch_anyG v ra d 1048576 W (by omega) (by omega) (hv.below hW) hs)
  have hszB := Lib.hid (fun l (h0 : 0 ≤ l) (h1 : l ≤ 1048576) W (hW : RowKit.Below w.heap.size w W) => szSwitch_anyG u rb e l W h0 h1 (hu.below hW) ht)
  have TOA := Lib.hid (fun (hn : d.size ≤ 1048576) W (hW : RowKit.Below w.heap.size w W) => toSwitch_any v ra d W (hv.below hW) hn)
  have TOB := Lib.hid (fun (hn : e.size ≤ 1048576) W (hW : RowKit.Below w.heap.size w W) => toSwitch_any u rb e W (hu.below hW) hn)
  clear hv hu hs ht hE
  go_enter Tryd.func11, Tryd.ntmps11
  go_wp2_with fail
  -- the arguments' boxes
  obtain ⟨wa, hwa⟩ : ∃ wa, wa = (w.alloc (.cells #[v, .int .i64 ra] 57)).alloc (.cells #[u, .int .i64 rb] 57) := ⟨_, rfl⟩
  have c0 : wa.cell? ⟨w.heap.size, 0, none⟩ = some v := by rw [hwa]; simp [go_sem]
  have c1 : wa.cell? ⟨w.heap.size, 1, none⟩ = some (.int .i64 ra) := by rw [hwa]; simp [go_sem]
  have c2 : wa.cell? ⟨w.heap.size + 1, 0, none⟩ = some u := by rw [hwa]; simp [go_sem]
  have c3 : wa.cell? ⟨w.heap.size + 1, 1, none⟩ = some (.int .i64 rb) := by rw [hwa]; simp [go_sem]
  have hz : wa.heap.size = w.heap.size + 2 := by rw [hwa]; simp
  have hba : RowKit.Below w.heap.size w wa := by rw [hwa]; exact ((Below.refl _ _).alloc (Nat.le_refl _) _).alloc (by simp) _
  rw [← hwa]
  have HA := Lib.hid hba
  have C := Lib.hid (⟨c0, c1, c2, c3⟩ : _ ∧ _ ∧ _ ∧ _)
  have CC := Lib.hid (fun (W : World) (h : RowKit.Below wa.heap.size wa W) => (⟨(h.cell (p := ⟨w.heap.size, 0, none⟩) (by omega : w.heap.size < wa.heap.size)).trans C.out.1, (h.cell (p := ⟨w.heap.size, 1, none⟩) (by omega : w.heap.size < wa.heap.size)).trans C.out.2.1,
    (h.cell (p := ⟨w.heap.size + 1, 0, none⟩) (by omega : w.heap.size + 1 < wa.heap.size)).trans C.out.2.2.1, (h.cell (p := ⟨w.heap.size + 1, 1, none⟩) (by omega : w.heap.size + 1 < wa.heap.size)).trans C.out.2.2.2⟩ : _ ∧ _ ∧ _ ∧ _))
  clear hwa hba c0 c1 c2 c3
  have HOF := Lib.hid (fun (W : World) (h : RowKit.Below wa.heap.size wa W) => HA.out.trans (h.mono (by omega : w.heap.size ≤ wa.heap.size)))
  refine (hszA.out _ HA.out).mono ?_
  rintro x w1 ⟨r, rfl, hr1, hr, hb1⟩
  have HR := Lib.hid hr
  have B1 := Lib.hid hb1
  obtain ⟨a0, a1, a2, a3⟩ := CC.out _ B1.out
  clear hr hb1 hszA
  go_wp2_with fail
  · go_ret
    exact ⟨rfl, HOF.out _ B1.out⟩
  · have hr0 : 0 ≤ r := by assumption
    have hn := HR.out hr0
    have HN := Lib.hid hn
    have HML := Lib.hid (show d.size ≤ maxLen by unfold maxLen; omega)
    clear hn HR
    refine (hszB.out r hr0 hr1 _ (HOF.out _ B1.out)).mono ?_
    rintro x w2 ⟨q, rfl, hq1, hq, hb2⟩
    have HQ := Lib.hid hq
    have B2 := Lib.hid (B1.out.trans (hb2.mono B1.out.size))
    clear hq hb2 hszB a0 a1 a2 a3
    obtain ⟨a0, a1, a2, a3⟩ := CC.out _ B2.out
    go_wp2_with fail
    · go_ret
      exact ⟨rfl, HOF.out _ B2.out⟩
    · have hq0 : 0 ≤ q := by assumption
      have hm := HQ.out hq0
      have HM := Lib.hid hm
      have HMM := Lib.hid (show e.size ≤ maxLen by unfold maxLen; omega)
      clear hm HQ
      -- the model's answer
      obtain ⟨z, hzz⟩ : ∃ z, z = otherN d ra e rb := ⟨_, rfl⟩
      have HI := Lib.hid (fun (b1 o1 k1 b2 o2 k2 : Nat) (W : World) hA hB hE h1 h2 h3 h4 => implOther_any b1 o1 k1 b2 o2 k2 d e ra rb W hA hB hE h1 h2 h3 h4)
      have HS := Lib.hid (fun (b1 o1 k1 b2 o2 k2 : Nat) (W : World) hA hB h1 h2 h3 h4 => specOther_any b1 o1 k1 b2 o2 k2 d e ra rb W hA hB h1 h2 h3 h4)
      rw [← hzz] at HI HS
      clear hzz
      go_cut [6] (fun s6 wx => s6 = .int .i64 z ∧ Hid (RowKit.Below wa.heap.size wa wx))
      case first =>
        go_region_with (first
          | (go_at_call 53; ((with_reducible refine (TOA.out HN.out _ (HOF.out _ B2.out.drew)).mono ?_); rintro x w3 ⟨g1, rfl, hf1⟩; have B3 := Lib.hid (B2.out.drew.trans (hf1.2.2.mono B2.out.drew.size)); have R1 := Lib.hid hf1.2.1; have b2 := (CC.out _ B3.out).2.2.1; have b3 := (CC.out _ B3.out).2.2.2; clear hf1))
          | (go_at_call 53; ((with_reducible refine (TOB.out HM.out _ (HOF.out _ B3.out)).mono ?_); rintro x w4 ⟨g2, rfl, hf2⟩; have B4 := Lib.hid (B3.out.trans (hf2.2.2.mono B3.out.size)); have R2 := Lib.hid hf2.2.1; have R14 := Lib.hid (R1.out.below hf2.2.2); clear hf2))
          | (go_at_call 49; refine (HS.out g1 0 d.size g2 0 e.size w4 R14.out R2.out (Nat.le_refl _) HML.out (Nat.le_refl _) HMM.out).mono ?_; rintro x w5 ⟨rfl, hb5⟩; have B5 := Lib.hid (B4.out.trans (hb5.mono B4.out.size)); clear hb5))
        all_goals (go_wp2_with fail; go_meet; exact ⟨rfl, B5.out⟩)
      case rest =>
      obtain ⟨rfl, B5⟩ := hcut
      clear a0 a1 a2 a3
      obtain ⟨w5, hw5⟩ : ∃ w5, w5 = wc := ⟨_, rfl⟩
      rw [← hw5] at B5 ⊢
      clear hw5
      obtain ⟨a0, a1, a2, a3⟩ := CC.out _ B5.out
      go_wp2_with fail
      -- the program's arguments
      refine (TOA.out HN.out _ (HOF.out _ B5.out)).mono ?_
      rintro x w6 ⟨g3, rfl, hf3⟩
      have B6 := Lib.hid (B5.out.trans (hf3.2.2.mono B5.out.size))
      have R3 := Lib.hid hf3.2.1
      clear hf3 a0 a1 a2 a3
      obtain ⟨a0, a1, a2, a3⟩ := CC.out _ B6.out
      have hl6 : w.heap.size + 1 < w6.heap.size := by have := B6.out.size; omega
      go_wp2_with fail
      obtain ⟨w7, hw7⟩ : ∃ w7, w7 = w6.alloc (.cells #[.slice (some ⟨g3, 0, none⟩) d.size d.size, .int .i64 ra] 25) := ⟨_, rfl⟩
      have d0 : w7.cell? ⟨w6.heap.size, 0, none⟩ = some (.slice (some ⟨g3, 0, none⟩) d.size d.size) := by rw [hw7]; simp
      have d1 : w7.cell? ⟨w6.heap.size, 1, none⟩ = some (.int .i64 ra) := by rw [hw7]; simp
      have hz7 : w7.heap.size = w6.heap.size + 1 := by rw [hw7]; simp
      have hb7 : RowKit.Below w6.heap.size w6 w7 := by rw [hw7]; exact (Below.refl _ _).alloc (Nat.le_refl _) _
      rw [← hw7]
      have D := Lib.hid (⟨d0, d1⟩ : _ ∧ _)
      have B7 := Lib.hid (B6.out.trans (hb7.mono B6.out.size))
      have R37 := Lib.hid (R3.out.below hb7)
      clear hw7 d0 d1 hb7 a0 a1 a2 a3
      refine (TOB.out HM.out _ (HOF.out _ B7.out)).mono ?_
      rintro x w8 ⟨g4, rfl, hf4⟩
      have B8 := Lib.hid (B7.out.trans (hf4.2.2.mono B7.out.size))
      have R4 := Lib.hid hf4.2.1
      have R38 := Lib.hid (R37.out.below hf4.2.2)
      have d0 := (hf4.2.2.cell (p := ⟨w6.heap.size, 0, none⟩) (by omega : w6.heap.size < w7.heap.size)).trans D.out.1
      have d1 := (hf4.2.2.cell (p := ⟨w6.heap.size, 1, none⟩) (by omega : w6.heap.size < w7.heap.size)).trans D.out.2
      have hz8 := hf4.2.2.size
      have hl8 : w6.heap.size < w8.heap.size := by omega
      clear hf4
      go_wp2_with fail
      obtain ⟨w9, hw9⟩ : ∃ w9, w9 = w8.alloc (.cells #[.slice (some ⟨g4, 0, none⟩) e.size e.size, .int .i64 rb] 25) := ⟨_, rfl⟩
      have e0 : w9.cell? ⟨w8.heap.size, 0, none⟩ = some (.slice (some ⟨g4, 0, none⟩) e.size e.size) := by rw [hw9]; simp
      have e1 : w9.cell? ⟨w8.heap.size, 1, none⟩ = some (.int .i64 rb) := by rw [hw9]; simp
      have hz9 : w9.heap.size = w8.heap.size + 1 := by rw [hw9]; simp
      have hb9 : RowKit.Below w8.heap.size w8 w9 := by rw [hw9]; exact (Below.refl _ _).alloc (Nat.le_refl _) _
      rw [← hw9]
      have B9 := Lib.hid (B8.out.trans (hb9.mono B8.out.size))
      have R39 := Lib.hid (R38.out.below hb9)
      have R49 := Lib.hid (R4.out.below hb9)
      have f0 := (hb9.cell (p := ⟨w6.heap.size, 0, none⟩) hl8).trans d0
      have f1 := (hb9.cell (p := ⟨w6.heap.size, 1, none⟩) hl8).trans d1
      have DE := Lib.hid (⟨f0, f1, e0, e1⟩ : _ ∧ _ ∧ _ ∧ _)
      clear hw9 hb9 d0 d1 e0 e1 f0 f1
      refine (HI.out g3 0 d.size g4 0 e.size w9 R39.out R49.out (HE.out.below (HOF.out _ B9.out)) (Nat.le_refl _) HML.out (Nat.le_refl _) HMM.out).mono ?_
      rintro x w10 ⟨rfl, hb10⟩
      have B10 := Lib.hid (B9.out.trans (hb10.mono B9.out.size))
      have R3X := Lib.hid (R39.out.below hb10)
      have R4X := Lib.hid (R49.out.below hb10)
      have hz10 := hb10.size
      have DX := Lib.hid (⟨(hb10.cell (p := ⟨w6.heap.size, 0, none⟩) (by omega : w6.heap.size < w9.heap.size)).trans DE.out.1, (hb10.cell (p := ⟨w6.heap.size, 1, none⟩) (by omega : w6.heap.size < w9.heap.size)).trans DE.out.2.1,
        (hb10.cell (p := ⟨w8.heap.size, 0, none⟩) (by omega : w8.heap.size < w9.heap.size)).trans DE.out.2.2.1, (hb10.cell (p := ⟨w8.heap.size, 1, none⟩) (by omega : w8.heap.size < w9.heap.size)).trans DE.out.2.2.2⟩ : _ ∧ _ ∧ _ ∧ _)
      clear hb10
      obtain ⟨d0, d1, e0, e1⟩ := DX.out
      obtain ⟨a0, a1, a2, a3⟩ := CC.out _ B10.out
      have hs10 : w6.heap.size < w10.heap.size := by omega
      have ht10 : w8.heap.size < w10.heap.size := by omega
      go_wp2_with fail
      go_cut [39] (fun s39 wx => s39 = .bool false ∧ Hid (RowKit.Below w10.heap.size w10 wx))
      case first =>
        go_region_with (first
          | (go_at_call 53; refine (TOA.out HN.out _ (HOF.out _ B10.out.drew)).mono ?_; rintro x w11 ⟨g5, rfl, hf5⟩; have hk11 := (Below.refl w10.heap.size w10).drew.trans hf5.2.2; have K11 := Lib.hid hk11; have R5 := Lib.hid hf5.2.1; have k0 := (hk11.cell (p := ⟨w6.heap.size, 0, none⟩) hs10).trans d0; have k1 := (hk11.cell (p := ⟨w6.heap.size, 1, none⟩) hs10).trans d1; clear hf5 hk11)
          | (go_at_call 55; refine (eqSwitch_same g3 0 d.size g5 0 d.size ra d _ (R3X.out.below K11.out) R5.out HN.out).mono ?_; rintro x w12 ⟨rfl, hb12⟩; have K12 := Lib.hid (K11.out.trans (hb12.mono K11.out.size)); clear hb12))
        all_goals (go_wp2_with fail; go_meet; exact ⟨rfl, K12.out⟩)
      case rest =>
      obtain ⟨rfl, K12⟩ := hcut
      obtain ⟨w12, hw12⟩ : ∃ w12, w12 = wc := ⟨_, rfl⟩
      rw [← hw12] at K12 ⊢
      clear hw12 d0 d1 e0 e1 a0 a1 a2 a3
      have B12 := Lib.hid (B10.out.trans (K12.out.mono B10.out.size))
      have R4Y := Lib.hid (R4X.out.below K12.out)
      have e0 := (K12.out.cell (p := ⟨w8.heap.size, 0, none⟩) ht10).trans DX.out.2.2.1
      have e1 := (K12.out.cell (p := ⟨w8.heap.size, 1, none⟩) ht10).trans DX.out.2.2.2
      obtain ⟨a0, a1, a2, a3⟩ := CC.out _ B12.out
      have hu12 : w8.heap.size < w12.heap.size := Nat.lt_of_lt_of_le ht10 K12.out.size
      go_wp2_with fail
      go_region_with (first
        | (go_at_call 53; refine (TOB.out HM.out _ (HOF.out _ B12.out.drew)).mono ?_; rintro x w13 ⟨g6, rfl, hf6⟩; have hk13 := (Below.refl w12.heap.size w12).drew.trans hf6.2.2; have K13 := Lib.hid hk13; have R6 := Lib.hid hf6.2.1; have k0 := (hk13.cell (p := ⟨w8.heap.size, 0, none⟩) hu12).trans e0; have k1 := (hk13.cell (p := ⟨w8.heap.size, 1, none⟩) hu12).trans e1; clear hf6 hk13)
        | (go_at_call 55; refine (eqSwitch_same g4 0 e.size g6 0 e.size rb e _ (R4Y.out.below K13.out) R6.out HM.out).mono ?_; rintro x w14 ⟨rfl, hb14⟩; have K14 := Lib.hid (K13.out.trans (hb14.mono K13.out.size)); clear hb14))
      all_goals
        go_wp2
        go_ret
        exact ⟨rfl, HOF.out _ (B12.out.trans (K14.out.mono B12.out.size))⟩
end Go.Proofs.YtlcekocbaffnnaaDoor
