
/- The law on BestPlan, walked: it returns true whatever the switch. -/
import Derived.Test.YtjpcpiffffobcaaDoorKsCopyH
import Derived.Test.YtjpcpiffffobcaaDoorKsBp
import Derived.Deep.RegionHeld3
namespace Go.Proofs.YtjpcpiffffobcaaDoor
open Go.RowKit Go.Shelf Go.Lib Go.Sort

/-- What the walk knows of a world: nothing below the argument's box has turned since, nor the box. -/
theorem ownsB_below {B : Nat} {v : Value} {l : List CluP} {w w' : World} (h : OwnsQ B v l w) (hb : RowKit.Below w.heap.size w w') : OwnsQ B v l w' := owns_below h hb
theorem ownsB_grown {B : Nat} {v : Value} {l : List CluP} {w w' : World} {row : Option Nat} (h : OwnsQ B v l w) (hg : w.grownBy w' row) (hne : v.ownBlock = none ∨ v.ownBlock ≠ row) : OwnsQ B v l w' := World.ownsRow.kept h hg hne
theorem not_blockB {B g : Nat} {v : Value} {l : List CluP} {w : World} (h : OwnsQ B v l w) (hg : w.heap.size ≤ g ∨ g < B) : v.ownBlock = none ∨ v.ownBlock ≠ some g := by
  cases hv : v.ownBlock with
  | none => exact .inl rfl
  | some q =>
    refine .inr fun e => ?_
    have := World.ownsRow.lt h q hv
    cases e
    omega

theorem not_sameB {B0 B1 : Nat} {v0 v1 : Value} {l0 l1 : List CluP} {w0 w1 : World} (h0 : OwnsQ B0 v0 l0 w0) (h1 : OwnsQ B1 v1 l1 w1) (h : w0.heap.size ≤ B1) : v0.ownBlock = none ∨ v0.ownBlock ≠ v1.ownBlock := by
  cases hv : v0.ownBlock with
  | none => exact .inl rfl
  | some q =>
    refine .inr fun e => ?_
    have a := World.ownsRow.lt h0 q hv
    have b := World.ownsRow.lt h1 q e.symm
    omega
theorem decide_negB {m : Int} (h : 0 ≤ m) : decide (m < 0) = false := by simp; omega

set_option maxRecDepth 100000 in
set_option maxHeartbeats 8000000 in
theorem lawBp_any (v : Value) (rest : Int) (d : Array CaseD) (w : World) (hv : SliceC w v d) (hs : ∀ j, j < d.size → d[j]!.target.size ≤ maxLen) (hE : ErrAt w) :
    Calls Tryd.prog 7 #[.agg #[v, .int .i64 rest]] w fun x w' => x = .returned (.bool true) ∧ RowKit.Below w.heap.size w w' := by
  have HV := Lib.hid hv
  have HE := Lib.hid hE
  have hsz := Lib.hid (fun W (hW : RowKit.Below w.heap.size w W) => szSwitch_any v rest d W (hv.below hW) hs)
  have hto := fun (hn : d.size ≤ 1048576) W (hW : RowKit.Below w.heap.size w W) => toSwitch_any v rest d W (hv.below hW) hn
  have htoH := fun (hn : d.size ≤ 1048576) W (hW : RowKit.Below w.heap.size w W) => toSwitch_hot v rest d W (hv.below hW) hn
  have HTO := Lib.hid hto
  have HTOH := Lib.hid htoH
  clear hv hs hE hto htoH
  go_enter Tryd.func7, Tryd.ntmps7
  go_wp2_with fail
  -- the argument's box
  obtain ⟨wa, hwa⟩ : ∃ wa, wa = w.alloc (.cells #[v, .int .i64 rest] 24) := ⟨_, rfl⟩
  have c0 : wa.cell? ⟨w.heap.size, 0, none⟩ = some v := by rw [hwa]; simp
  have c1 : wa.cell? ⟨w.heap.size, 1, none⟩ = some (.int .i64 rest) := by rw [hwa]; simp
  have hz : wa.heap.size = w.heap.size + 1 := by rw [hwa]; simp
  have hba : RowKit.Below w.heap.size w wa := by rw [hwa]; exact (Below.refl _ _).alloc (Nat.le_refl _) _
  rw [← hwa]
  have HA := Lib.hid hba
  have C0 := Lib.hid c0
  have C1 := Lib.hid c1
  clear hwa hba c0 c1
  -- whatever is as wa was below its size is as w was below w's
  have HOF := Lib.hid (fun (W : World) (h : RowKit.Below wa.heap.size wa W) => HA.out.trans (h.mono (by omega : w.heap.size ≤ wa.heap.size)))
  refine (hsz.out _ HA.out).mono ?_
  rintro x w1 ⟨r, rfl, hr, hb1⟩
  have HR := Lib.hid hr
  have B1 := Lib.hid hb1
  have a0 := (hb1.cell (p := ⟨w.heap.size, 0, none⟩) (by omega : w.heap.size < wa.heap.size)).trans C0.out
  have a1 := (hb1.cell (p := ⟨w.heap.size, 1, none⟩) (by omega : w.heap.size < wa.heap.size)).trans C1.out
  clear hr hb1 hsz
  go_wp2_with fail
  · go_ret
    exact ⟨rfl, HOF.out _ B1.out⟩
  · have hr0 : 0 ≤ r := by assumption
    have hn := HR.out hr0
    have HN := Lib.hid hn
    have hml : d.size ≤ maxLen := by unfold maxLen; omega
    have HML := Lib.hid hml
    clear hn HR a0 a1 hml
    -- the model's answer
    refine (HTO.out HN.out _ (HOF.out _ B1.out)).mono ?_
    rintro x w2 ⟨g1, rfl, hf1⟩
    have B2 := Lib.hid (B1.out.trans (hf1.2.2.mono B1.out.size))
    have R2 := Lib.hid hf1.2.1
    clear hf1
    go_wp2_with fail
    refine (specBp_any g1 0 d.size d rest w2 R2.out (Nat.le_refl _) HML.out).mono ?_
    rintro x w3 ⟨v0, rfl, ho, hb3⟩
    have O3 := Lib.hid ho
    have B3 := Lib.hid (B2.out.trans (hb3.mono B2.out.size))
    have hz3 := hb3.size
    have hwa3 : wa.heap.size ≤ w3.heap.size := B3.out.size
    have a0 := (B3.out.cell (p := ⟨w.heap.size, 0, none⟩) (by omega : w.heap.size < wa.heap.size)).trans C0.out
    have a1 := (B3.out.cell (p := ⟨w.heap.size, 1, none⟩) (by omega : w.heap.size < wa.heap.size)).trans C1.out
    clear ho hb3
    have HLEN := Lib.hid (bestLN_len d rest)
    obtain ⟨L, hL⟩ : ∃ L, L = bestLN d rest := ⟨_, rfl⟩
    obtain ⟨ok, hok⟩ : ∃ ok, ok = swB d rest := ⟨_, rfl⟩
    have HIS := Lib.hid (fun (b off cap : Nat) (W : World) (hR : RowC W b off d) (hE : ErrAt W) (hc : d.size ≤ cap) (hm : cap ≤ maxLen) => implBp_any b off cap d rest W hR hE hc hm)
    unfold Bp2 at HIS
    rw [← hL] at O3 HLEN HIS
    rw [← hok] at HIS ⊢
    clear hL hok
    go_wp2_with fail
    -- the program's argument
    refine (HTOH.out HN.out _ (HOF.out _ B3.out)).mono ?_
    rintro x w4 ⟨g2, rfl, hf2⟩
    have B4 := Lib.hid (B3.out.trans (hf2.2.2.mono B3.out.size))
    have O4 := Lib.hid (ownsB_below O3.out hf2.2.2)
    have H4 := Lib.hid hf2.2.1
    have hg2 := hf2.1
    have hz4 := hf2.2.2.size
    clear hf2 a0 a1
    go_wp2_with fail
    obtain ⟨w5, hw5⟩ : ∃ w5, w5 = w4.alloc (.cells #[.slice (some ⟨g2, 0, none⟩) d.size d.size, .int .i64 rest] 32) := ⟨_, rfl⟩
    have d0 : w5.cell? ⟨w4.heap.size, 0, none⟩ = some (.slice (some ⟨g2, 0, none⟩) d.size d.size) := by rw [hw5]; simp
    have d1 : w5.cell? ⟨w4.heap.size, 1, none⟩ = some (.int .i64 rest) := by rw [hw5]; simp
    have hz5 : w5.heap.size = w4.heap.size + 1 := by rw [hw5]; simp
    have hb5 : RowKit.Below w4.heap.size w4 w5 := by rw [hw5]; exact (Below.refl _ _).alloc (Nat.le_refl _) _
    rw [← hw5]
    have D0 := Lib.hid d0
    have D1 := Lib.hid d1
    have B5 := Lib.hid (B4.out.trans (hb5.mono B4.out.size))
    have O5 := Lib.hid (ownsB_below O4.out hb5)
    have H5 := Lib.hid (H4.out.below hb5)
    have hg2l := H4.out.1.old
    clear hw5 d0 d1 hb5
    refine (HIS.out g2 0 d.size w5 H5.out.1 (HE.out.below (HOF.out _ B5.out)) (Nat.le_refl _) HML.out).mono ?_
    rintro x w6 ⟨v1, rfl, ho1, hb6⟩
    have P6 := Lib.hid ho1
    have B6 := Lib.hid (B5.out.trans (hb6.mono B5.out.size))
    have O6 := Lib.hid (ownsB_below O5.out hb6)
    have H6 := Lib.hid (H5.out.below hb6)
    have E60 := Lib.hid ((hb6.cell (p := ⟨w4.heap.size, 0, none⟩) (by omega : w4.heap.size < w5.heap.size)).trans D0.out)
    have E61 := Lib.hid ((hb6.cell (p := ⟨w4.heap.size, 1, none⟩) (by omega : w4.heap.size < w5.heap.size)).trans D1.out)
    have hz6 := hb6.size
    clear ho1 hb6
    go_wp2_with fail
    refine (eqOwnQ_any P6.out O6.out HLEN.out).mono ?_
    rintro x w7 ⟨rfl, hb7⟩
    have P7 := Lib.hid (ownsB_below P6.out hb7)
    have B7 := Lib.hid (B6.out.trans (hb7.mono B6.out.size))
    have O7 := Lib.hid (ownsB_below O6.out hb7)
    have H7 := Lib.hid (H6.out.below hb7)
    have e0 := (hb7.cell (p := ⟨w4.heap.size, 0, none⟩) (by omega : w4.heap.size < w6.heap.size)).trans E60.out
    have e1 := (hb7.cell (p := ⟨w4.heap.size, 1, none⟩) (by omega : w4.heap.size < w6.heap.size)).trans E61.out
    have a0 := (B7.out.cell (p := ⟨w.heap.size, 0, none⟩) (by omega : w.heap.size < wa.heap.size)).trans C0.out
    have a1 := (B7.out.cell (p := ⟨w.heap.size, 1, none⟩) (by omega : w.heap.size < wa.heap.size)).trans C1.out
    have hz7 := hb7.size
    clear hb7
    go_wp2_with fail
    have hsw7 : w4.heap.size < w7.heap.size := by omega
    go_region_with (first
      | (go_at_call 15; refine (HTO.out HN.out _ (HOF.out _ B7.out.drew)).mono ?_; rintro x w8 ⟨g3, rfl, hf3⟩; have hk8 := (Below.refl w7.heap.size w7).drew.trans hf3.2.2; have K8 := Lib.hid hk8; have R8 := Lib.hid hf3.2.1; have e2 := (hk8.cell (p := ⟨w4.heap.size, 0, none⟩) hsw7).trans e0; have e3 := (hk8.cell (p := ⟨w4.heap.size, 1, none⟩) hsw7).trans e1; clear hf3 hk8)
      | (go_at_call 18; refine (eqSwitch_same g2 0 d.size g3 0 d.size rest d _ (H7.out.below K8.out).1 R8.out HN.out).mono ?_; rintro x w9 ⟨rfl, hb9⟩; have K9 := Lib.hid (K8.out.trans (hb9.mono K8.out.size)); clear hb9))
    all_goals
      have B9 := Lib.hid (B7.out.trans (K9.out.mono B7.out.size))
      have O9 := Lib.hid (ownsB_below O7.out K9.out)
      have P9 := Lib.hid (ownsB_below P7.out K9.out)
      have H9 := Lib.hid (H7.out.below K9.out)
      have e4 := (K9.out.cell (p := ⟨w4.heap.size, 0, none⟩) hsw7).trans e0
      have e5 := (K9.out.cell (p := ⟨w4.heap.size, 1, none⟩) hsw7).trans e1
      have hz9 := K9.out.size
      clear e0 e1 e2 e3 a0 a1
      -- the argument is marked
      have hm := markSw_any g2 d.size d.size rest w9 H9.out.2 HN.out
      obtain ⟨mk, hmk⟩ : ∃ mk, mk = ((1 + d.size * 4 : Nat) : Int) := ⟨_, rfl⟩
      rw [← hmk] at hm
      have hmk0 := decide_negB (show 0 ≤ mk by omega)
      have HM := Lib.hid hm
      clear hm hmk
      go_wp2_with fail
      refine HM.out.mono ?_
      rintro x w10 ⟨rfl, hg10⟩
      have B10 := Lib.hid (B9.out.grown hg10 B9.out.size (fun k e => by cases e; omega))
      have O10 := Lib.hid (ownsB_grown O9.out hg10 (not_blockB O3.out (.inl hg2)))
      have P10 := Lib.hid (ownsB_grown P9.out hg10 (not_blockB P6.out (.inr (by omega))))
      have hz10 := hg10.size
      clear hg10 e4 e5
      go_wp2_with fail
      refine (eqOwnQ_any P10.out O10.out HLEN.out).mono ?_
      rintro x w11 ⟨rfl, hb11⟩
      have P11 := Lib.hid (ownsB_below P10.out hb11)
      have B11 := Lib.hid (B10.out.trans (hb11.mono B10.out.size))
      have O11 := Lib.hid (ownsB_below O10.out hb11)
      have hz11 := hb11.size
      clear hb11
      -- the result is marked, and the marks stand
      have hm2 := markOwnQ_any P11.out HLEN.out
      have hh2 := fun W (hM : MarkedQ W v1 L.length) => heldOwnQ_any (owns_formQ P6.out) hM HLEN.out
      obtain ⟨mq, hmq⟩ : ∃ mq, mq = ((1 + L.length * 3 : Nat) : Int) := ⟨_, rfl⟩
      rw [← hmq] at hm2 hh2
      have hmq0 := decide_negB (show 0 ≤ mq by omega)
      have HM2 := Lib.hid hm2
      have HH2 := Lib.hid hh2
      clear hm2 hh2 hmq
      go_wp2_with fail
      refine HM2.out.mono ?_
      rintro x w12 ⟨rfl, hM12, hg12⟩
      have M12 := Lib.hid hM12
      have B12 := Lib.hid (B11.out.grown hg12 B11.out.size (fun k e => by have := (World.ownsRow.lt P6.out k e).1; omega))
      have O12 := Lib.hid (ownsB_grown O11.out hg12 (not_sameB O3.out P6.out (by omega)))
      clear hM12 hg12
      go_wp2_with fail
      refine (HH2.out _ M12.out).mono ?_
      rintro x w13 ⟨rfl, hb13⟩
      have M13 := Lib.hid (M12.out.below hb13)
      have B13 := Lib.hid (B12.out.trans (hb13.mono B12.out.size))
      have O13 := Lib.hid (ownsB_below O12.out hb13)
      have a0 := (B13.out.cell (p := ⟨w.heap.size, 0, none⟩) (by omega : w.heap.size < wa.heap.size)).trans C0.out
      have a1 := (B13.out.cell (p := ⟨w.heap.size, 1, none⟩) (by omega : w.heap.size < wa.heap.size)).trans C1.out
      clear hb13
      go_wp2_with fail
      refine (HTO.out HN.out _ (HOF.out _ B13.out)).mono ?_
      rintro x w14 ⟨g4, rfl, hf4⟩
      have M14 := Lib.hid (M13.out.below hf4.2.2)
      have B14 := Lib.hid (B13.out.trans (hf4.2.2.mono B13.out.size))
      have O14 := Lib.hid (ownsB_below O13.out hf4.2.2)
      have R14 := Lib.hid hf4.2.1
      clear hf4 a0 a1
      go_wp2_with fail
      refine (HIS.out g4 0 d.size w14 R14.out (HE.out.below (HOF.out _ B14.out)) (Nat.le_refl _) HML.out).mono ?_
      rintro x w15 ⟨v2, rfl, ho2, hb15⟩
      have Q15 := Lib.hid ho2
      have M15 := Lib.hid (M14.out.below hb15)
      have B15 := Lib.hid (B14.out.trans (hb15.mono B14.out.size))
      have O15 := Lib.hid (ownsB_below O14.out hb15)
      clear ho2 hb15
      go_wp2_with fail
      refine (eqOwnQ_any Q15.out O15.out HLEN.out).mono ?_
      rintro x w16 ⟨rfl, hb16⟩
      have M16 := Lib.hid (M15.out.below hb16)
      have B16 := Lib.hid (B15.out.trans (hb16.mono B15.out.size))
      clear hb16
      go_wp2_with fail
      refine (HH2.out _ M16.out).mono ?_
      rintro x w17 ⟨rfl, hb17⟩
      have B17 := Lib.hid (B16.out.trans (hb17.mono B16.out.size))
      clear hb17
      go_wp2
      go_ret
      exact ⟨rfl, HOF.out _ B17.out⟩
end Go.Proofs.YtjpcpiffffobcaaDoor
