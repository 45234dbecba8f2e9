
/- The law on MergeCases, walked: it returns true whatever the switch. -/
import Derived.Test.YtkiaafpggjojiaaDoorKsCopyH
import Derived.Test.YtkiaafpggjojiaaDoorKsSwOwn
import Derived.Test.YtkiaafpggjojiaaDoorKsMergeS
import Derived.Deep.RegionHeld3
namespace Go.Proofs.YtkiaafpggjojiaaDoor
open Go.RowKit Go.Shelf Go.Lib Go.Sort

/-- What the walk knows of a world: nothing below the argument's box has turned since, nor the box. -/
theorem ownsM_below {B : Nat} {v : Value} {l : List CaseD} {w w' : World} (h : OwnsC B v l w) (hb : RowKit.Below w.heap.size w w') : OwnsC B v l w' := owns_below h hb
theorem ownsM_grown {B : Nat} {v : Value} {l : List CaseD} {w w' : World} {row : Option Nat} (h : OwnsC B v l w) (hg : w.grownBy w' row) (hne : v.ownBlock = none ∨ v.ownBlock ≠ row) : OwnsC B v l w' := World.ownsRow.kept h hg hne
theorem not_blockM {B g : Nat} {v : Value} {l : List CaseD} {w : World} (h : OwnsC B v l w) (hg : w.heap.size ≤ g ∨ g < B) : v.ownBlock = none ∨ v.ownBlock ≠ some g := by
  cases hv : v.ownBlock with
  | none => exact .inl rfl
  | some q =>
    refine .inr fun e => ?_
    have := World.ownsRow.lt h q hv
    cases e
    omega

theorem not_sameM {B0 B1 : Nat} {v0 v1 : Value} {l0 l1 : List CaseD} {w0 w1 : World} (h0 : OwnsC B0 v0 l0 w0) (h1 : OwnsC B1 v1 l1 w1) (h : w0.heap.size ≤ B1) : v0.ownBlock = none ∨ v0.ownBlock ≠ v1.ownBlock := by
  cases hv : v0.ownBlock with
  | none => exact .inl rfl
  | some q =>
    refine .inr fun e => ?_
    have a := World.ownsRow.lt h0 q hv
    have b := World.ownsRow.lt h1 q e.symm
    omega
theorem decide_negM {m : Int} (h : 0 ≤ m) : decide (m < 0) = false := by simp; omega

set_option maxRecDepth 100000 in
set_option maxHeartbeats 8000000 in
theorem lawMerge_any (v : Value) (rest : Int) (d : Array CaseD) (w : World) (hv : SliceC w v d) (hs : ∀ j, j < d.size → d[j]!.target.size ≤ maxLen) (hE : ErrAt w) :
    Calls Tryd.prog 11 #[.agg #[v, .int .i64 rest]] w fun x w' => x = .returned (.bool true) ∧ RowKit.Below w.heap.size w w' := by
  have HV := Lib.hid hv
  have HE := Lib.hid hE
  have hsz := Lib.hid (fun W (hW : RowKit.Below w.heap.size w W) => szSwitch_any v rest d W (hv.below hW) hs)
  have hto := fun (hn : d.size ≤ 1048576) W (hW : RowKit.Below w.heap.size w W) => toSwitch_any v rest d W (hv.below hW) hn
  have htoH := fun (hn : d.size ≤ 1048576) W (hW : RowKit.Below w.heap.size w W) => toSwitch_hot v rest d W (hv.below hW) hn
  have HTO := Lib.hid hto
  have HTOH := Lib.hid htoH
  clear hv hs hE hto htoH
  go_enter Tryd.func11, Tryd.ntmps11
  go_wp2_with fail
  -- the argument's box
  obtain ⟨wa, hwa⟩ : ∃ wa, wa = w.alloc (.cells #[v, .int .i64 rest] 29) := ⟨_, rfl⟩
  have c0 : wa.cell? ⟨w.heap.size, 0, none⟩ = some v := by rw [hwa]; simp
  have c1 : wa.cell? ⟨w.heap.size, 1, none⟩ = some (.int .i64 rest) := by rw [hwa]; simp
  have hz : wa.heap.size = w.heap.size + 1 := by rw [hwa]; simp
  have hba : RowKit.Below w.heap.size w wa := by rw [hwa]; exact (Below.refl _ _).alloc (Nat.le_refl _) _
  rw [← hwa]
  have HA := Lib.hid hba
  have C0 := Lib.hid c0
  have C1 := Lib.hid c1
  clear hwa hba c0 c1
  -- whatever is as wa was below its size is as w was below w's
  have HOF := Lib.hid (fun (W : World) (h : RowKit.Below wa.heap.size wa W) => HA.out.trans (h.mono (by omega : w.heap.size ≤ wa.heap.size)))
  refine (hsz.out _ HA.out).mono ?_
  rintro x w1 ⟨r, rfl, hr, hb1⟩
  have HR := Lib.hid hr
  have B1 := Lib.hid hb1
  have a0 := (hb1.cell (p := ⟨w.heap.size, 0, none⟩) (by omega : w.heap.size < wa.heap.size)).trans C0.out
  have a1 := (hb1.cell (p := ⟨w.heap.size, 1, none⟩) (by omega : w.heap.size < wa.heap.size)).trans C1.out
  clear hr hb1 hsz
  go_wp2_with fail
  · go_ret
    exact ⟨rfl, HOF.out _ B1.out⟩
  · have hr0 : 0 ≤ r := by assumption
    have hn := HR.out hr0
    have HN := Lib.hid hn
    have hml : d.size ≤ maxLen := by unfold maxLen; omega
    have HML := Lib.hid hml
    clear hn HR a0 a1 hml
    -- the model's answer
    refine (HTO.out HN.out _ (HOF.out _ B1.out)).mono ?_
    rintro x w2 ⟨g1, rfl, hf1⟩
    have B2 := Lib.hid (B1.out.trans (hf1.2.2.mono B1.out.size))
    have R2 := Lib.hid hf1.2.1
    clear hf1
    go_wp2_with fail
    refine (specMerge_any g1 0 d.size d rest w2 R2.out (Nat.le_refl _) HML.out).mono ?_
    rintro x w3 ⟨v0, rfl, ho, hb3⟩
    have O3 := Lib.hid ho
    have B3 := Lib.hid (B2.out.trans (hb3.mono B2.out.size))
    have hz3 := hb3.size
    have hwa3 : wa.heap.size ≤ w3.heap.size := B3.out.size
    have a0 := (B3.out.cell (p := ⟨w.heap.size, 0, none⟩) (by omega : w.heap.size < wa.heap.size)).trans C0.out
    have a1 := (B3.out.cell (p := ⟨w.heap.size, 1, none⟩) (by omega : w.heap.size < wa.heap.size)).trans C1.out
    clear ho hb3
    have HLEN := Lib.hid (show (mergedN d rest).length ≤ 1048576 by have := mergedN_len d rest; omega)
    obtain ⟨L, hL⟩ : ∃ L, L = mergedN d rest := ⟨_, rfl⟩
    obtain ⟨rs, hrs⟩ : ∃ rs, rs = restN d rest := ⟨_, rfl⟩
    obtain ⟨ok, hok⟩ : ∃ ok, ok = swB d rest := ⟨_, rfl⟩
    have HIS := Lib.hid (fun (b off cap : Nat) (W : World) (hR : RowC W b off d) (hE : ErrAt W) (hc : d.size ≤ cap) (hm : cap ≤ maxLen) => implMerge_any b off cap d rest W hR hE hc hm)
    unfold Merge2 at HIS
    rw [← hL] at O3 HLEN HIS
    rw [← hok] at HIS ⊢
    rw [← hrs] at HIS ⊢
    clear hL hok hrs
    obtain ⟨pv, pc, hform⟩ := row_slice O3.out
    subst hform
    have hwz : w.heap.size < w3.heap.size := by omega
    obtain ⟨w3b, hw3b⟩ : ∃ w3b, w3b = w3.alloc (.cells #[.slice pv L.length pc, .int .i64 rs] 34) := ⟨_, rfl⟩
    have K3 := Lib.hid (show BoxS w3b w3.heap.size (.slice pv L.length pc) rs by rw [hw3b]; exact BoxS.new _ _ _)
    have hb3b : RowKit.Below w3.heap.size w3 w3b := by rw [hw3b]; exact (Below.refl _ _).alloc (Nat.le_refl _) _
    have B3b := Lib.hid (B3.out.trans (hb3b.mono B3.out.size))
    have O3b := Lib.hid (ownsM_below O3.out hb3b)
    have hz3b := hb3b.size
    have hk3 : w3.heap.size < w3b.heap.size := K3.out.lt
    have HW3b := Lib.hid hw3b
    clear hw3b hb3b
    go_wp2_with fail
    rw [← HW3b.out]
    refine (HTOH.out HN.out _ (HOF.out _ B3b.out)).mono ?_
    rintro x w4 ⟨g2, rfl, hf2⟩
    have B4 := Lib.hid (B3b.out.trans (hf2.2.2.mono B3b.out.size))
    have O4 := Lib.hid (ownsM_below O3b.out hf2.2.2)
    have K4 := Lib.hid (BoxS.kept K3.out (grown_of_below hf2.2.2) (by simp))
    have H4 := Lib.hid hf2.2.1
    have hg2 := hf2.1
    have hz4 := hf2.2.2.size
    clear hf2 a0 a1
    go_wp2_with fail
    obtain ⟨w5, hw5⟩ : ∃ w5, w5 = w4.alloc (.cells #[.slice (some ⟨g2, 0, none⟩) d.size d.size, .int .i64 rest] 34) := ⟨_, rfl⟩
    have hz5 : w5.heap.size = w4.heap.size + 1 := by rw [hw5]; simp
    have hb5 : RowKit.Below w4.heap.size w4 w5 := by rw [hw5]; exact (Below.refl _ _).alloc (Nat.le_refl _) _
    have X5 := Lib.hid (show BoxS w5 w4.heap.size (.slice (some ⟨g2, 0, none⟩) d.size d.size) rest by rw [hw5]; exact BoxS.new _ _ _)
    rw [← hw5]
    have B5 := Lib.hid (B4.out.trans (hb5.mono B4.out.size))
    have O5 := Lib.hid (ownsM_below O4.out hb5)
    have K5 := Lib.hid (BoxS.kept K4.out (grown_of_below hb5) (by simp))
    have H5 := Lib.hid (H4.out.below hb5)
    have hg2l := H4.out.1.old
    clear hw5 hb5
    refine (HIS.out g2 0 d.size w5 H5.out.1 (HE.out.below (HOF.out _ B5.out)) (Nat.le_refl _) HML.out).mono ?_
    rintro x w6 ⟨v1, rfl, ho1, hb6⟩
    obtain ⟨pv1, pc1, hf1⟩ := row_slice ho1
    subst hf1
    have P6 := Lib.hid ho1
    have B6 := Lib.hid (B5.out.trans (hb6.mono B5.out.size))
    have O6 := Lib.hid (ownsM_below O5.out hb6)
    have K6 := Lib.hid (BoxS.kept K5.out (grown_of_below hb6) (by simp))
    have X6 := Lib.hid (BoxS.kept X5.out (grown_of_below hb6) (by simp))
    have H6 := Lib.hid (H5.out.below hb6)
    have hz6 := hb6.size
    clear ho1 hb6
    obtain ⟨w7, hw7⟩ : ∃ w7, w7 = w6.alloc (.cells #[.slice pv1 L.length pc1, .int .i64 rs] 34) := ⟨_, rfl⟩
    have hz7 : w7.heap.size = w6.heap.size + 1 := by rw [hw7]; simp
    have hb7 : RowKit.Below w6.heap.size w6 w7 := by rw [hw7]; exact (Below.refl _ _).alloc (Nat.le_refl _) _
    have G7 := Lib.hid (show BoxS w7 w6.heap.size (.slice pv1 L.length pc1) rs by rw [hw7]; exact BoxS.new _ _ _)
    have P7 := Lib.hid (ownsM_below P6.out hb7)
    have O7 := Lib.hid (ownsM_below O6.out hb7)
    have K7 := Lib.hid (BoxS.kept K6.out (grown_of_below hb7) (by simp))
    have X7 := Lib.hid (BoxS.kept X6.out (grown_of_below hb7) (by simp))
    have H7 := Lib.hid (H6.out.below hb7)
    have B7 := Lib.hid (B6.out.trans (hb7.mono B6.out.size))
    have k0 := K6.out.c0
    have k1 := K6.out.c1
    have hk6 : w3.heap.size < w6.heap.size := K6.out.lt
    have HW7 := Lib.hid hw7
    clear hw7 hb7
    go_wp2_with fail
    rw [← HW7.out]
    refine (eqSwOwn_any rs P7.out O7.out HLEN.out).mono ?_
    rintro x w8 ⟨rfl, hb8⟩
    have P8 := Lib.hid (ownsM_below P7.out hb8)
    have O8 := Lib.hid (ownsM_below O7.out hb8)
    have K8 := Lib.hid (BoxS.kept K7.out (grown_of_below hb8) (by simp))
    have X8 := Lib.hid (BoxS.kept X7.out (grown_of_below hb8) (by simp))
    have G8 := Lib.hid (BoxS.kept G7.out (grown_of_below hb8) (by simp))
    have H8 := Lib.hid (H7.out.below hb8)
    have B8 := Lib.hid (B7.out.trans (hb8.mono B7.out.size))
    have hz8 := hb8.size
    have d0 := X8.out.c0
    have d1 := X8.out.c1
    have hx8 := X8.out.lt
    have a0 := (B8.out.cell (p := ⟨w.heap.size, 0, none⟩) (by omega : w.heap.size < wa.heap.size)).trans C0.out
    have a1 := (B8.out.cell (p := ⟨w.heap.size, 1, none⟩) (by omega : w.heap.size < wa.heap.size)).trans C1.out
    clear hb8 k0 k1
    go_wp2_with fail
    go_region_with (first
      | (go_at_call 24; refine (HTO.out HN.out _ (HOF.out _ B8.out.drew)).mono ?_; rintro x w9 ⟨g3, rfl, hf3⟩; have hk9 := (Below.refl w8.heap.size w8).drew.trans hf3.2.2; have Q9 := Lib.hid hk9; have R9 := Lib.hid hf3.2.1; have e2 := (hk9.cell (p := ⟨w4.heap.size, 0, none⟩) hx8).trans d0; have e3 := (hk9.cell (p := ⟨w4.heap.size, 1, none⟩) hx8).trans d1; clear hf3 hk9)
      | (go_at_call 26; refine (eqSwitch_same g2 0 d.size g3 0 d.size rest d _ (H8.out.below Q9.out).1 R9.out HN.out).mono ?_; rintro x w10 ⟨rfl, hb10⟩; have Q10 := Lib.hid (Q9.out.trans (hb10.mono Q9.out.size)); clear hb10))
    all_goals
      have B10 := Lib.hid (B8.out.trans (Q10.out.mono B8.out.size))
      have O10 := Lib.hid (ownsM_below O8.out Q10.out)
      have P10 := Lib.hid (ownsM_below P8.out Q10.out)
      have H10 := Lib.hid (H8.out.below Q10.out)
      have K10 := Lib.hid (BoxS.kept K8.out (grown_of_below Q10.out) (by simp))
      have X10 := Lib.hid (BoxS.kept X8.out (grown_of_below Q10.out) (by simp))
      have G10 := Lib.hid (BoxS.kept G8.out (grown_of_below Q10.out) (by simp))
      have hz10 := Q10.out.size
      have e4 := X10.out.c0
      have e5 := X10.out.c1
      clear d0 d1 e2 e3 a0 a1
      -- the argument is marked
      have hm := markSw_any g2 d.size d.size rest w10 H10.out.2 HN.out
      obtain ⟨mk, hmk⟩ : ∃ mk, mk = ((1 + d.size * 4 : Nat) : Int) := ⟨_, rfl⟩
      rw [← hmk] at hm
      have hmk0 := decide_negM (show 0 ≤ mk by omega)
      have HM := Lib.hid hm
      clear hm hmk
      go_wp2_with fail
      refine HM.out.mono ?_
      rintro x w11 ⟨rfl, hg11⟩
      have B11 := Lib.hid (B10.out.grown hg11 B10.out.size (fun k e => by cases e; omega))
      have O11 := Lib.hid (ownsM_grown O10.out hg11 (not_blockM O3.out (.inl (by omega))))
      have P11 := Lib.hid (ownsM_grown P10.out hg11 (not_blockM P6.out (.inr (by omega))))
      have K11 := Lib.hid (BoxS.kept K10.out hg11 (by simp; omega))
      have G11 := Lib.hid (BoxS.kept G10.out hg11 (by simp; omega))
      have k0 := K11.out.c0
      have k1 := K11.out.c1
      have j0 := G11.out.c0
      have j1 := G11.out.c1
      have hz11 := hg11.size
      clear hg11 e4 e5
      go_wp2_with fail
      refine (eqSwOwn_any rs P11.out O11.out HLEN.out).mono ?_
      rintro x w12 ⟨rfl, hb12⟩
      have P12 := Lib.hid (ownsM_below P11.out hb12)
      have B12 := Lib.hid (B11.out.trans (hb12.mono B11.out.size))
      have O12 := Lib.hid (ownsM_below O11.out hb12)
      have K12 := Lib.hid (BoxS.kept K11.out (grown_of_below hb12) (by simp))
      have G12 := Lib.hid (BoxS.kept G11.out (grown_of_below hb12) (by simp))
      have hz12 := hb12.size
      clear hb12 k0 k1 j0 j1
      have j0 := G12.out.c0
      have j1 := G12.out.c1
      -- the result is marked, and the marks stand
      have hm2 := markSwOwn_any rs P12.out HLEN.out
      have hh2 := fun W (hM : MarkedC W (.slice pv1 L.length pc1) L.length) => heldSwOwn_any rs (owns_formC P6.out) hM HLEN.out
      obtain ⟨mq, hmq⟩ : ∃ mq, mq = ((1 + L.length * 4 : Nat) : Int) := ⟨_, rfl⟩
      rw [← hmq] at hm2 hh2
      have hmq0 := decide_negM (show 0 ≤ mq by omega)
      have HM2 := Lib.hid hm2
      have HH2 := Lib.hid hh2
      clear hm2 hh2 hmq
      go_wp2_with fail
      refine HM2.out.mono ?_
      rintro x w13 ⟨rfl, hM13, hg13⟩
      have M13 := Lib.hid hM13
      have B13 := Lib.hid (B12.out.grown hg13 B12.out.size (fun k e => by have := (World.ownsRow.lt P6.out k e).1; omega))
      have O13 := Lib.hid (ownsM_grown O12.out hg13 (not_sameM O3.out P6.out (by omega)))
      have K13 := Lib.hid (BoxS.kept K12.out hg13 (Ne.symm (K12.out.not_row P12.out)))
      have G13 := Lib.hid (BoxS.kept G12.out hg13 (Ne.symm (G12.out.not_row P12.out)))
      clear hM13 hg13 j0 j1
      have j0 := G13.out.c0
      have j1 := G13.out.c1
      go_wp2_with fail
      refine (HH2.out _ M13.out).mono ?_
      rintro x w14 ⟨rfl, hb14⟩
      have M14 := Lib.hid (M13.out.below hb14)
      have B14 := Lib.hid (B13.out.trans (hb14.mono B13.out.size))
      have O14 := Lib.hid (ownsM_below O13.out hb14)
      have K14 := Lib.hid (BoxS.kept K13.out (grown_of_below hb14) (by simp))
      have G14 := Lib.hid (BoxS.kept G13.out (grown_of_below hb14) (by simp))
      have a0 := (B14.out.cell (p := ⟨w.heap.size, 0, none⟩) (by omega : w.heap.size < wa.heap.size)).trans C0.out
      have a1 := (B14.out.cell (p := ⟨w.heap.size, 1, none⟩) (by omega : w.heap.size < wa.heap.size)).trans C1.out
      clear hb14 j0 j1
      go_wp2_with fail
      refine (HTO.out HN.out _ (HOF.out _ B14.out)).mono ?_
      rintro x w15 ⟨g4, rfl, hf4⟩
      have M15 := Lib.hid (M14.out.below hf4.2.2)
      have B15 := Lib.hid (B14.out.trans (hf4.2.2.mono B14.out.size))
      have O15 := Lib.hid (ownsM_below O14.out hf4.2.2)
      have K15 := Lib.hid (BoxS.kept K14.out (grown_of_below hf4.2.2) (by simp))
      have G15 := Lib.hid (BoxS.kept G14.out (grown_of_below hf4.2.2) (by simp))
      have R15 := Lib.hid hf4.2.1
      clear hf4 a0 a1
      go_wp2_with fail
      refine (HIS.out g4 0 d.size w15 R15.out (HE.out.below (HOF.out _ B15.out)) (Nat.le_refl _) HML.out).mono ?_
      rintro x w16 ⟨v2, rfl, ho2, hb16⟩
      obtain ⟨pv2, pc2, hf2⟩ := row_slice ho2
      subst hf2
      have M16 := Lib.hid (M15.out.below hb16)
      have B16 := Lib.hid (B15.out.trans (hb16.mono B15.out.size))
      have O16 := Lib.hid (ownsM_below O15.out hb16)
      have K16 := Lib.hid (BoxS.kept K15.out (grown_of_below hb16) (by simp))
      have G16 := Lib.hid (BoxS.kept G15.out (grown_of_below hb16) (by simp))
      have k0 := K16.out.c0
      have k1 := K16.out.c1
      have hk16 : w3.heap.size < w16.heap.size := K16.out.lt
      obtain ⟨w17, hw17⟩ : ∃ w17, w17 = w16.alloc (.cells #[.slice pv2 L.length pc2, .int .i64 rs] 34) := ⟨_, rfl⟩
      have hb17 : RowKit.Below w16.heap.size w16 w17 := by rw [hw17]; exact (Below.refl _ _).alloc (Nat.le_refl _) _
      have Q17 := Lib.hid (ownsM_below ho2 hb17)
      have O17 := Lib.hid (ownsM_below O16.out hb17)
      have M17 := Lib.hid (M16.out.below hb17)
      have B17 := Lib.hid (B16.out.trans (hb17.mono B16.out.size))
      have G17 := Lib.hid (BoxS.kept G16.out (grown_of_below hb17) (by simp))
      have HW17 := Lib.hid hw17
      clear ho2 hb16 hw17 hb17
      go_wp2_with fail
      rw [← HW17.out]
      refine (eqSwOwn_any rs Q17.out O17.out HLEN.out).mono ?_
      rintro x w18 ⟨rfl, hb18⟩
      have M18 := Lib.hid (M17.out.below hb18)
      have B18 := Lib.hid (B17.out.trans (hb18.mono B17.out.size))
      have G18 := Lib.hid (BoxS.kept G17.out (grown_of_below hb18) (by simp))
      have j0 := G18.out.c0
      have j1 := G18.out.c1
      clear hb18 k0 k1
      go_wp2_with fail
      refine (HH2.out _ M18.out).mono ?_
      rintro x w19 ⟨rfl, hb19⟩
      have B19 := Lib.hid (B18.out.trans (hb19.mono B18.out.size))
      clear hb19 j0 j1
      go_wp2
      go_ret
      exact ⟨rfl, HOF.out _ B19.out⟩
end Go.Proofs.YtkiaafpggjojiaaDoor
