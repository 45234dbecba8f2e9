/- The law on ReachCosts, walked: it returns true whatever the switch and the numbers. -/
import Derived.Test.YthchhgjnelkmhaaDoorKsMarkS
import Derived.Test.YthchhgjnelkmhaaDoorKsIntMark
import Derived.Test.YthchhgjnelkmhaaDoorKsReachC
import Derived.Deep.RegionHeld3
namespace Go.Proofs.YthchhgjnelkmhaaDoor
open Go.RowKit Go.Shelf Go.Lib Go.Sort

set_option maxRecDepth 100000 in
set_option maxHeartbeats 8000000 in
theorem lawReach_any (v u : Value) (rest : Int) (d : Array CaseD) (o : Array Int) (w : World) (hv : SliceC w v d) (hu : SliceN w u o) (hs : ∀ j, j < d.size → d[j]!.target.size ≤ maxLen) (ho : o.size ≤ maxLen) (hE : ErrAt w) :
    Calls Tryd.prog 10 #[.agg #[v, .int .i64 rest], u] w fun x w' => x = .returned (.bool true) ∧ RowKit.Below w.heap.size w w' := by
  obtain ⟨ua, uc, hform⟩ := hu.form
  have HE := Lib.hid hE
  have hszA := Lib.hid (fun W (hW : RowKit.Below w.heap.size w W) => szSwitch_any v rest d W (hv.below hW) hs)
  have TOA := Lib.hid (fun (hn : d.size ≤ 1048576) W (hW : RowKit.Below w.heap.size w W) => toSwitch_any v rest d W (hv.below hW) hn)
  have TOAH := Lib.hid (fun (hn : d.size ≤ 1048576) W (hW : RowKit.Below w.heap.size w W) => toSwitch_hot v rest d W (hv.below hW) hn)
  have tob := fun (hn : o.size ≤ 1048576) W (hW : RowKit.Below w.heap.size w W) => toIntS_any u o W (hu.below hW) hn
  have tobh := fun (hn : o.size ≤ 1048576) W (hW : RowKit.Below w.heap.size w W) => toIntS_hot u o W (hu.below hW) hn
  subst hform
  have TOB := Lib.hid tob
  have TOBH := Lib.hid tobh
  unfold maxLen at ho
  clear hv hu hs hE tob tobh
  by_cases hbig : 1048576 < o.size
  · go_enter Tryd.func10, Tryd.ntmps10
    go_wp2
    go_ret
    exact ⟨rfl, (Below.refl _ _).alloc (Nat.le_refl _) _⟩
  have hM : o.size ≤ 1048576 := by omega
  have HM := Lib.hid hM
  have hMi : (o.size : Int) ≤ 1048576 := by omega
  clear hbig
  go_enter Tryd.func10, Tryd.ntmps10
  go_wp2_with fail
  -- the argument's box
  obtain ⟨wa, hwa⟩ : ∃ wa, wa = w.alloc (.cells #[v, .int .i64 rest] 24) := ⟨_, rfl⟩
  have c0 : wa.cell? ⟨w.heap.size, 0, none⟩ = some v := by rw [hwa]; simp [go_sem]
  have c1 : wa.cell? ⟨w.heap.size, 1, none⟩ = some (.int .i64 rest) := by rw [hwa]; simp [go_sem]
  have hz : wa.heap.size = w.heap.size + 1 := by rw [hwa]; simp
  have hba : RowKit.Below w.heap.size w wa := by rw [hwa]; exact (Below.refl _ _).alloc (Nat.le_refl _) _
  rw [← hwa]
  have HA := Lib.hid hba
  have C := Lib.hid (⟨c0, c1⟩ : _ ∧ _)
  have CC := Lib.hid (fun (W : World) (h : RowKit.Below wa.heap.size wa W) => (⟨(h.cell (p := ⟨w.heap.size, 0, none⟩) (by omega : w.heap.size < wa.heap.size)).trans C.out.1, (h.cell (p := ⟨w.heap.size, 1, none⟩) (by omega : w.heap.size < wa.heap.size)).trans C.out.2⟩ : _ ∧ _))
  clear hwa hba c0 c1
  have HOF := Lib.hid (fun (W : World) (h : RowKit.Below wa.heap.size wa W) => HA.out.trans (h.mono (by omega : w.heap.size ≤ wa.heap.size)))
  refine (hszA.out _ HA.out).mono ?_
  rintro x w1 ⟨r, rfl, hr, hb1⟩
  have HR := Lib.hid hr
  have B1 := Lib.hid hb1
  obtain ⟨a0, a1⟩ := CC.out _ B1.out
  clear hr hb1 hszA
  go_wp2_with fail
  · go_ret
    exact ⟨rfl, HOF.out _ B1.out⟩
  · have hr0 : 0 ≤ r := by assumption
    have hn := HR.out hr0
    have HN := Lib.hid hn
    have HML := Lib.hid (show d.size ≤ maxLen by unfold maxLen; omega)
    clear hn HR
    clear a0 a1
    -- the model's answer
    refine (TOA.out HN.out _ (HOF.out _ B1.out)).mono ?_
    rintro x w2 ⟨g1, rfl, hf1⟩
    have R1 := Lib.hid hf1.2.1
    have B2 := Lib.hid (B1.out.trans (hf1.2.2.mono B1.out.size))
    clear hf1
    go_wp2_with fail
    refine (TOB.out HM.out _ (HOF.out _ B2.out)).mono ?_
    rintro x w3 ⟨g2, rfl, hf2⟩
    have R13 := Lib.hid (R1.out.below hf2.2.2)
    have R2 := Lib.hid hf2.2.1
    have B3 := Lib.hid (B2.out.trans (hf2.2.2.mono B2.out.size))
    clear hf2
    go_wp2_with fail
    refine (specReach_any g1 0 d.size d rest g2 o.size o w3 R13.out (Nat.le_refl _) HML.out R2.out HM.out).mono ?_
    rintro x w4 ⟨v0, rfl, ho4, hb4⟩
    have HLEN := Lib.hid (show (reachN d rest o).length ≤ 1048576 by
      unfold reachN
      split
      · have := HM.out
        rw [Array.length_toList, reachA_size]
        exact this
      · exact Nat.zero_le _)
    obtain ⟨L, hL⟩ : ∃ L, L = reachN d rest o := ⟨_, rfl⟩
    obtain ⟨ok, hok⟩ : ∃ ok, ok = ordS d rest o := ⟨_, rfl⟩
    have HI := Lib.hid (fun (b1 k1 bo ko : Nat) (W : World) hA hE h1 h2 h3 h4 => implReach_any b1 0 k1 d rest bo ko o W hA hE h1 h2 h3 h4)
    unfold Ints2 at HI
    rw [← hL] at ho4 HLEN HI
    rw [← hok] at HI ⊢
    have O4 := Lib.hid ho4
    clear hL hok ho4
    have B4 := Lib.hid (B3.out.trans (hb4.mono B3.out.size))
    clear hb4
    have hwa4 : wa.heap.size ≤ w4.heap.size := B4.out.size
    obtain ⟨a0, a1⟩ := CC.out _ B4.out
    go_wp2_with fail
    clear a0 a1
    -- the program's arguments
    refine (TOAH.out HN.out _ (HOF.out _ B4.out)).mono ?_
    rintro x w5 ⟨g3, rfl, hf3⟩
    have H5 := Lib.hid hf3.2.1
    have hg3 := hf3.1
    have B5 := Lib.hid (B4.out.trans (hf3.2.2.mono B4.out.size))
    have O5 := Lib.hid (ownsN_below O4.out hf3.2.2)
    have hz5 := hf3.2.2.size
    have hg3l := H5.out.1.old
    clear hf3
    go_wp2_with fail
    obtain ⟨w6, hw6⟩ : ∃ w6, w6 = w5.alloc (.cells #[.slice (some ⟨g3, 0, none⟩) d.size d.size, .int .i64 rest] 30) := ⟨_, rfl⟩
    have d0 : w6.cell? ⟨w5.heap.size, 0, none⟩ = some (.slice (some ⟨g3, 0, none⟩) d.size d.size) := by rw [hw6]; simp
    have d1 : w6.cell? ⟨w5.heap.size, 1, none⟩ = some (.int .i64 rest) := by rw [hw6]; simp
    have hz6 : w6.heap.size = w5.heap.size + 1 := by rw [hw6]; simp
    have hb6 : RowKit.Below w5.heap.size w5 w6 := by rw [hw6]; exact (Below.refl _ _).alloc (Nat.le_refl _) _
    rw [← hw6]
    have D := Lib.hid (⟨d0, d1⟩ : _ ∧ _)
    have B6 := Lib.hid (B5.out.trans (hb6.mono B5.out.size))
    have H6 := Lib.hid (H5.out.below hb6)
    have O6 := Lib.hid (ownsN_below O5.out hb6)
    clear hw6 d0 d1 hb6
    refine (TOBH.out HM.out _ (HOF.out _ B6.out)).mono ?_
    rintro x w7 ⟨g4, rfl, hg4, hf4, hb7⟩
    have R7 := Lib.hid (show RowN w7 g4 0 o from ⟨hf4.1, fun j hj => (hf4.2 j hj).1⟩)
    have I7 := Lib.hid (HotI.of_holds (1 + d.size * 4) hf4.2 hf4.1)
    have hg4l := hf4.1
    have H7 := Lib.hid (H6.out.below hb7)
    have O7 := Lib.hid (ownsN_below O6.out hb7)
    have hz7 := hb7.size
    have d0 := (hb7.cell (p := ⟨w5.heap.size, 0, none⟩) (by omega : w5.heap.size < w6.heap.size)).trans D.out.1
    have d1 := (hb7.cell (p := ⟨w5.heap.size, 1, none⟩) (by omega : w5.heap.size < w6.heap.size)).trans D.out.2
    have B7 := Lib.hid (B6.out.trans (hb7.mono B6.out.size))
    clear hf4 hb7
    go_wp2_with fail
    refine (HI.out g3 d.size g4 o.size w7 H7.out.1 (HE.out.below (HOF.out _ B7.out)) (Nat.le_refl _) HML.out R7.out HM.out).mono ?_
    rintro x w8 ⟨v1, rfl, ho8, hb8⟩
    have P8 := Lib.hid ho8
    have H8 := Lib.hid (H7.out.below hb8)
    have R8 := Lib.hid (R7.out.below hb8)
    have I8 := Lib.hid (I7.out.below hb8)
    have O8 := Lib.hid (ownsN_below O7.out hb8)
    have hz8 := hb8.size
    replace d0 := (hb8.cell (p := ⟨w5.heap.size, 0, none⟩) (by omega : w5.heap.size < w7.heap.size)).trans d0
    replace d1 := (hb8.cell (p := ⟨w5.heap.size, 1, none⟩) (by omega : w5.heap.size < w7.heap.size)).trans d1
    have B8 := Lib.hid (B7.out.trans (hb8.mono B7.out.size))
    clear hb8 ho8
    have D8 := Lib.hid (⟨d0, d1⟩ : _ ∧ _)
    clear d0 d1
    go_wp2_with fail
    refine (eqOwnN_any P8.out O8.out HLEN.out).mono ?_
    rintro x w9 ⟨rfl, hb9⟩
    have P9 := Lib.hid (ownsN_below P8.out hb9)
    have B9 := Lib.hid (B8.out.trans (hb9.mono B8.out.size))
    have O9 := Lib.hid (ownsN_below O8.out hb9)
    have H9 := Lib.hid (H8.out.below hb9)
    have R9 := Lib.hid (R8.out.below hb9)
    have I9 := Lib.hid (I8.out.below hb9)
    have hz9 := hb9.size
    have d0 := (hb9.cell (p := ⟨w5.heap.size, 0, none⟩) (by omega : w5.heap.size < w8.heap.size)).trans D8.out.1
    have d1 := (hb9.cell (p := ⟨w5.heap.size, 1, none⟩) (by omega : w5.heap.size < w8.heap.size)).trans D8.out.2
    obtain ⟨a0, a1⟩ := CC.out _ B9.out
    have hl9 : w5.heap.size < w9.heap.size := by omega
    clear hb9
    go_wp2_with fail
    go_region_with (first
      | (go_at_call 13; refine (TOA.out HN.out _ (HOF.out _ B9.out.drew)).mono ?_; rintro x w10 ⟨g5, rfl, hf5⟩; have hk10 := (Below.refl w9.heap.size w9).drew.trans hf5.2.2; have K10 := Lib.hid hk10; have R10 := Lib.hid hf5.2.1; have k0 := (hk10.cell (p := ⟨w5.heap.size, 0, none⟩) hl9).trans d0; have k1 := (hk10.cell (p := ⟨w5.heap.size, 1, none⟩) hl9).trans d1; clear hf5 hk10)
      | (go_at_call 16; refine (eqSwitch_same g3 0 d.size g5 0 d.size rest d _ (H9.out.below K10.out).1 R10.out HN.out).mono ?_; rintro x w11 ⟨rfl, hb11⟩; have K11 := Lib.hid (K10.out.trans (hb11.mono K10.out.size)); clear hb11))
    all_goals
      have B11 := Lib.hid (B9.out.trans (K11.out.mono B9.out.size))
      have O11 := Lib.hid (ownsN_below O9.out K11.out)
      have P11 := Lib.hid (ownsN_below P9.out K11.out)
      have H11 := Lib.hid (H9.out.below K11.out)
      have R11 := Lib.hid (R9.out.below K11.out)
      have I11 := Lib.hid (I9.out.below K11.out)
      have D11 := Lib.hid (⟨(K11.out.cell (p := ⟨w5.heap.size, 0, none⟩) hl9).trans d0, (K11.out.cell (p := ⟨w5.heap.size, 1, none⟩) hl9).trans d1⟩ : _ ∧ _)
      have hz11 := K11.out.size
      clear d0 d1 k0 k1 a0 a1
      go_wp2_with fail
      refine (TOB.out HM.out _ (HOF.out _ B11.out)).mono ?_
      rintro x w12 ⟨g6, rfl, hf6⟩
      have R6 := Lib.hid hf6.2.1
      have R12 := Lib.hid (R11.out.below hf6.2.2)
      have B12 := Lib.hid (B11.out.trans (hf6.2.2.mono B11.out.size))
      have hk12 := hf6.2.2
      clear hf6
      go_wp2_with fail
      refine (eqIntS_same g4 o.size g6 o.size o _ R12.out R6.out HM.out).mono ?_
      rintro x w13 ⟨rfl, hb13⟩
      have hk13 := hk12.trans (hb13.mono hk12.size)
      have B13 := Lib.hid (B11.out.trans (hk13.mono B11.out.size))
      have O13 := Lib.hid (ownsN_below O11.out hk13)
      have P13 := Lib.hid (ownsN_below P11.out hk13)
      have H13 := Lib.hid (H11.out.below hk13)
      have I13 := Lib.hid (I11.out.below hk13)
      have e4 := (hk13.cell (p := ⟨w5.heap.size, 0, none⟩) (by omega : w5.heap.size < w11.heap.size)).trans D11.out.1
      have e5 := (hk13.cell (p := ⟨w5.heap.size, 1, none⟩) (by omega : w5.heap.size < w11.heap.size)).trans D11.out.2
      have hz13 := hk13.size
      clear hb13 hk13 hk12
      -- the arguments are marked
      have hm := markSw_any g3 d.size d.size rest w13 H13.out.2 HN.out
      have hmI := fun W (hH : HotI W g4 o.size (1 + d.size * 4) 0) => markRowN_any g4 o.size o.size (1 + d.size * 4) W hH HM.out (by have := HN.out; omega)
      have hmk1 : (1 + d.size * 4 : Nat) ≤ 99999999 := by have := HN.out; omega
      obtain ⟨mn, hmn⟩ : ∃ mn, mn = (1 + d.size * 4 : Nat) := ⟨_, rfl⟩
      have hmn0 : 0 ≤ mn := Nat.zero_le _
      rw [← hmn] at hm hmI I13 hmk1
      have HM1 := Lib.hid hm
      have HMI := Lib.hid hmI
      clear hm hmI hmn
      go_wp2_with fail
      refine HM1.out.mono ?_
      rintro x w14 ⟨rfl, hg14⟩
      have B14 := Lib.hid (B13.out.grown hg14 B13.out.size (fun k e => by cases e; omega))
      have O14 := Lib.hid (ownsN_grown O13.out hg14 (not_blockN O4.out (.inl hg3)))
      have P14 := Lib.hid (ownsN_grown P13.out hg14 (not_blockN P8.out (.inr (by omega))))
      have I14 := Lib.hid (show HotI w14 g4 o.size mn 0 from ⟨Nat.lt_of_lt_of_le I13.out.lt hg14.size, fun t ht => by
          obtain ⟨u, hu⟩ := I13.out.has t ht
          exact ⟨u, (World.cell?_of_block (a := ⟨g4, t, none⟩) (hg14.block g4 I13.out.lt (by simp; omega))).trans hu⟩,
        fun t ht => (frozen_of_block (hg14.block g4 I13.out.lt (by simp; omega))).trans (I13.out.cold t ht), fun t ht => absurd ht (Nat.not_lt_zero t)⟩)
      have hz14 := hg14.size
      clear hg14 e4 e5
      go_wp2_with fail
      refine (HMI.out _ I14.out).mono ?_
      rintro x w15 ⟨rfl, _, hg15⟩
      have B15 := Lib.hid (B14.out.grown hg15 B14.out.size (fun k e => by cases e; omega))
      have O15 := Lib.hid (ownsN_grown O14.out hg15 (not_blockN O4.out (.inl (by omega))))
      have P15 := Lib.hid (ownsN_grown P14.out hg15 (not_blockN P8.out (.inr (by omega))))
      have hz15 := hg15.size
      have hkk0 := decide_negN (show (0 : Int) ≤ ((mn + o.size : Nat) : Int) by omega)
      obtain ⟨kk, hkk⟩ : ∃ kk : Int, kk = ((mn + o.size : Nat) : Int) := ⟨_, rfl⟩
      rw [← hkk] at hkk0 ⊢
      clear hg15 hkk
      go_wp2_with fail
      refine (eqOwnN_any P15.out O15.out HLEN.out).mono ?_
      rintro x w16 ⟨rfl, hb16⟩
      have P16 := Lib.hid (ownsN_below P15.out hb16)
      have B16 := Lib.hid (B15.out.trans (hb16.mono B15.out.size))
      have O16 := Lib.hid (ownsN_below O15.out hb16)
      have hz16 := hb16.size
      clear hb16
      -- the result is marked, and the marks stand
      have hm2 := markOwnN_any P16.out HLEN.out
      have hh2 := fun W (hM : MarkedN W v1 L.length) => heldOwnN_any (owns_formN P8.out) hM HLEN.out
      obtain ⟨mq, hmq⟩ : ∃ mq, mq = ((1 + L.length : Nat) : Int) := ⟨_, rfl⟩
      rw [← hmq] at hm2 hh2
      have hmq0 := decide_negN (show 0 ≤ mq by omega)
      have HM2 := Lib.hid hm2
      have HH2 := Lib.hid hh2
      clear hm2 hh2 hmq
      go_wp2_with fail
      refine HM2.out.mono ?_
      rintro x w17 ⟨rfl, hM17, hg17⟩
      have M17 := Lib.hid hM17
      have B17 := Lib.hid (B16.out.grown hg17 B16.out.size (fun k e => by have := (World.ownsRow.lt P8.out k e).1; omega))
      have O17 := Lib.hid (ownsN_grown O16.out hg17 (not_sameN O4.out P8.out (by omega)))
      clear hM17 hg17
      go_wp2_with fail
      refine (HH2.out _ M17.out).mono ?_
      rintro x w18 ⟨rfl, hb18⟩
      have M18 := Lib.hid (M17.out.below hb18)
      have B18 := Lib.hid (B17.out.trans (hb18.mono B17.out.size))
      have O18 := Lib.hid (ownsN_below O17.out hb18)
      obtain ⟨a0, a1⟩ := CC.out _ B18.out
      clear hb18
      go_wp2_with fail
      refine (TOA.out HN.out _ (HOF.out _ B18.out)).mono ?_
      rintro x w19 ⟨g7, rfl, hf7⟩
      have M19 := Lib.hid (M18.out.below hf7.2.2)
      have B19 := Lib.hid (B18.out.trans (hf7.2.2.mono B18.out.size))
      have O19 := Lib.hid (ownsN_below O18.out hf7.2.2)
      have R19 := Lib.hid hf7.2.1
      clear hf7 a0 a1
      go_wp2_with fail
      refine (TOB.out HM.out _ (HOF.out _ B19.out)).mono ?_
      rintro x w20 ⟨g8, rfl, hf8⟩
      have M20 := Lib.hid (M19.out.below hf8.2.2)
      have B20 := Lib.hid (B19.out.trans (hf8.2.2.mono B19.out.size))
      have O20 := Lib.hid (ownsN_below O19.out hf8.2.2)
      have R20 := Lib.hid (R19.out.below hf8.2.2)
      have S20 := Lib.hid hf8.2.1
      clear hf8
      go_wp2_with fail
      refine (HI.out g7 d.size g8 o.size w20 R20.out (HE.out.below (HOF.out _ B20.out)) (Nat.le_refl _) HML.out S20.out HM.out).mono ?_
      rintro x w21 ⟨v2, rfl, ho21, hb21⟩
      have Q21 := Lib.hid ho21
      have M21 := Lib.hid (M20.out.below hb21)
      have B21 := Lib.hid (B20.out.trans (hb21.mono B20.out.size))
      have O21 := Lib.hid (ownsN_below O20.out hb21)
      clear ho21 hb21
      go_wp2_with fail
      refine (eqOwnN_any Q21.out O21.out HLEN.out).mono ?_
      rintro x w22 ⟨rfl, hb22⟩
      have M22 := Lib.hid (M21.out.below hb22)
      have B22 := Lib.hid (B21.out.trans (hb22.mono B21.out.size))
      clear hb22
      go_wp2_with fail
      refine (HH2.out _ M22.out).mono ?_
      rintro x w23 ⟨rfl, hb23⟩
      have B23 := Lib.hid (B22.out.trans (hb23.mono B22.out.size))
      clear hb23
      go_wp2
      go_ret
      exact ⟨rfl, HOF.out _ B23.out⟩
end Go.Proofs.YthchhgjnelkmhaaDoor
