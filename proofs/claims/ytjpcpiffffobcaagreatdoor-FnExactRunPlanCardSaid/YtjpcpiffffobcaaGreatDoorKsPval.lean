
/- PlanValid: the program's and the model's. -/
import Derived.Test.YtjpcpiffffobcaaGreatDoorKsPof
namespace Go.Proofs.YtjpcpiffffobcaaGreatDoor
open Go.RowKit Go.Shelf Go.Lib Go.Sort

/-- The case that a plan's j-th cluster has to begin with. -/
def nxtQ (q : Array CluD) : Nat → Int
  | 0 => 0
  | j + 1 => q[j]!.last + 1
def okTo8 (d : Array CaseD) (rest : Int) (q : Array CluD) (j : Nat) : Prop := ∀ i, i < j → q[i]!.first = nxtQ q i ∧ priceN d rest q[i]! ≠ -1
noncomputable def planB (d : Array CaseD) (rest : Int) (q : Array CluD) : Bool := @decide (okTo8 d rest q q.size ∧ SwOK d rest ∧ nxtQ q q.size = d.size) (Classical.propDecidable _)
theorem planB_iff (d : Array CaseD) (rest : Int) (q : Array CluD) : planB d rest q = true ↔ okTo8 d rest q q.size ∧ SwOK d rest ∧ nxtQ q q.size = d.size := @decide_eq_true_iff _ (Classical.propDecidable _)
theorem planB_not (d : Array CaseD) (rest : Int) (q : Array CluD) : planB d rest q = false ↔ ¬ (okTo8 d rest q q.size ∧ SwOK d rest ∧ nxtQ q q.size = d.size) := @decide_eq_false_iff_not _ (Classical.propDecidable _)
theorem priceN_range (d : Array CaseD) (rest : Int) (c : CluD) : priceN d rest c = -1 ∨ (1 ≤ priceN d rest c ∧ priceN d rest c ≤ 18) := by
  unfold priceN
  split
  · next h =>
    obtain ⟨hok, i, k, _, _, hik, hk, h3, h4⟩ := hasB8_inQ h
    rw [h3, h4]
    have h0 : 0 < (subD d i k).size := by rw [subD_size hk]; omega
    rcases look_cases (subD d i k) c.kind with ⟨j, _, _, he, _⟩ | ⟨he, _⟩
    · rw [he]
      exact priceE_or (hok.sub hk) h0 j
    · exact .inl he
  · exact .inl rfl
theorem priceN_has {d : Array CaseD} {rest : Int} {c : CluD} (h : priceN d rest c ≠ -1) : hasB8 d rest c.first c.last = true := by
  unfold priceN at h
  split at h
  · next h2 => exact h2
  · exact absurd rfl h
theorem nxtQ_bound {d : Array CaseD} {rest : Int} {q : Array CluD} : ∀ {j : Nat}, okTo8 d rest q j → 0 ≤ nxtQ q j ∧ nxtQ q j ≤ 8
  | 0, _ => by simp [nxtQ]
  | j + 1, h => by
    obtain ⟨hok, i, k, h1, h2, hik, hk, _⟩ := hasB8_inQ (priceN_has (h j (by omega)).2)
    have := hok.size
    show 0 ≤ q[j]!.last + 1 ∧ q[j]!.last + 1 ≤ 8
    omega
theorem okTo8_succ {d : Array CaseD} {rest : Int} {q : Array CluD} {j : Nat} (h : okTo8 d rest q j) (h1 : q[j]!.first = nxtQ q j) (h2 : priceN d rest q[j]! ≠ -1) : okTo8 d rest q (j + 1) := fun i hi => by
  by_cases e : i = j
  · subst e; exact ⟨h1, h2⟩
  · exact h i (by omega)
theorem planB_bad {d : Array CaseD} {rest : Int} {q : Array CluD} {j : Nat} (hj : j < q.size) (h : ¬ (q[j]!.first = nxtQ q j ∧ priceN d rest q[j]! ≠ -1)) : planB d rest q = false := (planB_not _ _ _).2 fun hp => h (hp.1 j hj)
theorem planB_end {d : Array CaseD} {rest : Int} {q : Array CluD} (h : okTo8 d rest q q.size) : planB d rest q = (swB d rest && (nxtQ q q.size == (d.size : Int))) := by
  rw [Bool.eq_iff_iff, planB_iff, Bool.and_eq_true, swB_iff, beq_iff_eq]
  exact ⟨fun hp => hp.2, fun hp => ⟨h, hp⟩⟩
theorem World.cell?_alloc_new8 {w : World} {vs : Array Value} {t : TypeId} (v : Value) (j : Nat) (h : vs[j]? = some v) : (w.alloc (.cells vs t)).cell? ⟨w.heap.size, j, none⟩ = some v := by
  simp [h]
theorem World.cell?_alloc_old8 {w : World} {b : Nat} (h : b < w.heap.size) (o : Obj) (j : Nat) : (w.alloc o).cell? ⟨b, j, none⟩ = w.cell? ⟨b, j, none⟩ :=
  (((Below.refl w.heap.size w).alloc (Nat.le_refl _) o).cell (p := ⟨b, j, none⟩) h)
set_option maxRecDepth 100000 in
set_option maxHeartbeats 4000000 in
theorem implPval_any (b off cap : Nat) (d : Array CaseD) (rest : Int) (pb po pc : Nat) (q : Array CluD) (w : World) (hR : RowC w b off d) (hE : ErrAt w) (hcap : d.size ≤ cap) (hmax : cap ≤ maxLen) (hQ : RowQ w pb po q) (hq : q.size ≤ 1048576) :
    Calls Tryz.prog 16 #[.agg #[.slice (some ⟨b, off, none⟩) d.size cap, .int .i64 rest], .slice (some ⟨pb, po, none⟩) q.size pc] w fun x w' => x = .returned (.bool (planB d rest q)) ∧ RowKit.Below w.heap.size w w' := by
  have HPR := Lib.hid (fun c W (hW : RowKit.Below w.heap.size w W) => implPriceOf_any b off cap d rest c W (hR.below hW) (hE.below hW) hcap hmax)
  have HSV := Lib.hid (fun W (hW : RowKit.Below w.heap.size w W) => switchValid_any b off cap d rest W (hR.below hW) (hE.below hW) hcap hmax)
  have HQ := Lib.hid hQ
  have hqi : (q.size : Int) ≤ 1048576 := by omega
  have hdm : (d.size : Int) ≤ 9223372036854775807 := by unfold maxLen at hmax; omega
  obtain ⟨wa, hwa⟩ : ∃ wa, wa = w.alloc (.cells #[.slice (some ⟨b, off, none⟩) d.size cap, .int .i64 rest] 32) := ⟨_, rfl⟩
  have hba : RowKit.Below w.heap.size w wa := by rw [hwa]; exact (Below.refl _ _).alloc (Nat.le_refl _) _
  have c0 : wa.cell? ⟨w.heap.size, 0, none⟩ = some (.slice (some ⟨b, off, none⟩) d.size cap) := by rw [hwa]; simp
  have c1 : wa.cell? ⟨w.heap.size, 1, none⟩ = some (.int .i64 rest) := by rw [hwa]; simp
  have hz : w.heap.size < wa.heap.size := by rw [hwa]; simp
  have HWA := Lib.hid hwa
  have HBA := Lib.hid hba
  clear hwa hba hR hcap hmax hQ
  go_enter Tryz.func16, Tryz.ntmps16
  go_wp2_with fail
  rw [← HWA.out]
  go_loopw [5, 10] (fun n x wr => ∃ j : Nat, n = .int .i64 (nxtQ q j) ∧ x = .int .i64 j ∧ j ≤ q.size ∧ Hid (okTo8 d rest q j) ∧
    wr.cell? ⟨w.heap.size, 0, none⟩ = some (.slice (some ⟨b, off, none⟩) d.size cap) ∧ wr.cell? ⟨w.heap.size, 1, none⟩ = some (.int .i64 rest) ∧ Hid (RowKit.Below w.heap.size w wr) ∧ w.heap.size < wr.heap.size) (fun _ x _ => q.size - (intOf x).toNat)
  case atStart => exact ⟨0, rfl, rfl, Nat.zero_le _, (fun i hi => absurd hi (Nat.not_lt_zero i)), c0, c1, HBA.out, hz⟩
  case round =>
    obtain ⟨j, rfl, rfl, hj, HO, c0, c1, HW, hzr⟩ := hrel
    have hnb := nxtQ_bound HO.out
    by_cases hlt : j < q.size
    · have hx := HQ.out.below HW.out
      have x0 := hx.first j hlt
      have x1 := hx.last j hlt
      have x2 := hx.kind j hlt
      clear hx
      have HBAD := Lib.hid (@planB_bad d rest q j hlt)
      have HSUC := Lib.hid (fun h1 h2 => @okTo8_succ d rest q j HO.out h1 h2)
      have hpr := priceN_range d rest q[j]!
      have hlast := fun (h : q[j]!.first = nxtQ q j ∧ priceN d rest q[j]! ≠ -1) => nxtQ_bound (j := j + 1) (HSUC.out h.1 h.2)
      have HNX := Lib.hid (show nxtQ q (j + 1) = q[j]!.last + 1 from rfl)
      have hcall := HPR.out q[j]!
      obtain ⟨c, hc⟩ : ∃ c, c = q[j]! := ⟨_, rfl⟩
      rw [← hc] at x0 x1 x2 hpr HBAD HSUC HNX hcall hlast
      obtain ⟨p, hp⟩ : ∃ p, p = priceN d rest c := ⟨_, rfl⟩
      rw [← hp] at hpr hcall HBAD HSUC hlast
      obtain ⟨n, hn⟩ : ∃ n, n = nxtQ q j := ⟨_, rfl⟩
      rw [← hn] at HBAD HSUC hnb hlast ⊢
      unfold aggQ at hcall
      have HCL := Lib.hid hcall
      have HLA := Lib.hid hlast
      obtain ⟨cf, cl, ck⟩ := c
      simp only at *
      clear hc hp hn hcall hlast
      have hji : (j : Int) < (q.size : Int) := by omega
      have HB2 := Lib.hid (HW.out.alloc (Nat.le_of_lt hzr) (.cells #[.int .i64 cf, .int .i64 cl, .string ck] 45))
      by_cases h1 : cf = n
      · have hq1 : (cf != n) = false := by simp [h1]
        have hq2 : (cf == n) = true := by simp [h1]
        rcases hpr with hp | hp
        · have HRES := Lib.hid (HBAD.out (fun h => h.2 hp))
          subst hp
          clear h1
          go_wp2_with (go_at_call 21; refine (HCL.out _ HB2.out).mono ?_; rintro y w2 ⟨rfl, hb⟩)
          go_ret
          exact ⟨retB HRES.out.symm, HB2.out.trans (hb.mono (by simp; omega))⟩
        · have HN2 := Lib.hid (HSUC.out h1 (by omega))
          have hla := HLA.out ⟨h1, by omega⟩
          rw [HNX.out] at hla
          have hpm : (p == -1) = false := by simp; omega
          have hl0 : -1 ≤ cl := by omega
          have hl1 : cl ≤ 7 := by omega
          clear h1 hla
          go_wp2_with (go_at_call 21; refine (HCL.out _ HB2.out).mono ?_; rintro y w2 ⟨rfl, hb⟩; have HBB := Lib.hid hb; have e0 := (hb.cell (p := ⟨wr.heap.size, 0, none⟩) (by simp)).trans (World.cell?_alloc_new8 _ 0 rfl); have e1 := (hb.cell (p := ⟨wr.heap.size, 1, none⟩) (by simp)).trans (World.cell?_alloc_new8 _ 1 rfl); clear hb)
          go_roundw
          case rel =>
            have hb := HBB.out
            exact ⟨j + 1, by rw [HNX.out], by go_num, by omega, HN2.out, (hb.cell (p := ⟨w.heap.size, 0, none⟩) (by simp; omega)).trans ((World.cell?_alloc_old8 hzr _ 0).trans c0), (hb.cell (p := ⟨w.heap.size, 1, none⟩) (by simp; omega)).trans ((World.cell?_alloc_old8 hzr _ 1).trans c1), HB2.out.trans (hb.mono (by simp; omega)), Nat.lt_of_lt_of_le hzr (Nat.le_trans (by simp) hb.size)⟩
          case measure => simp [intOf]; omega
      · have hq1 : (cf != n) = true := by simp [h1]
        have hq2 : (cf == n) = false := by simp [h1]
        have HRES := Lib.hid (HBAD.out (fun h => h1 h.1))
        clear h1
        go_wp2_with fail
        go_ret
        exact ⟨retB HRES.out.symm, HB2.out⟩
    · have hje : j = q.size := by omega
      subst hje
      have HEND := Lib.hid (planB_end HO.out)
      obtain ⟨n, hn⟩ : ∃ n, n = nxtQ q q.size := ⟨_, rfl⟩
      rw [← hn] at HEND hnb ⊢
      clear hn
      cases hs : swB d rest with
      | false =>
        rw [hs] at HEND HSV
        clear hs
        go_wp2_with (go_at_call 49; refine (HSV.out _ HW.out).mono ?_; rintro y w2 ⟨rfl, hb⟩)
        go_ret
        exact ⟨retB (by rw [HEND.out]; rfl), HW.out.trans (hb.mono (Nat.le_of_lt hzr))⟩
      | true =>
        rw [hs] at HEND HSV
        clear hs
        go_wp2_with (go_at_call 49; refine (HSV.out _ HW.out).mono ?_; rintro y w2 ⟨rfl, hb⟩; have e0 := (hb.cell (p := ⟨w.heap.size, 0, none⟩) hzr).trans c0)
        go_ret
        exact ⟨retB (by rw [HEND.out]; rfl), HW.out.trans (hb.mono (Nat.le_of_lt hzr))⟩
set_option maxRecDepth 100000 in
set_option maxHeartbeats 4000000 in
theorem specPval_any (b off cap : Nat) (d : Array CaseD) (rest : Int) (pb po pc : Nat) (q : Array CluD) (w : World) (hR : RowC w b off d) (hcap : d.size ≤ cap) (hmax : cap ≤ maxLen) (hQ : RowQ w pb po q) (hq : q.size ≤ 1048576) :
    Calls Tryz.prog 20 #[.agg #[.slice (some ⟨b, off, none⟩) d.size cap, .int .i64 rest], .slice (some ⟨pb, po, none⟩) q.size pc] w fun x w' => x = .returned (.bool (planB d rest q)) ∧ RowKit.Below w.heap.size w w' := by
  have HPR := Lib.hid (fun c W (hW : RowKit.Below w.heap.size w W) => specPriceOf_any b off cap d rest c W (hR.below hW) hcap hmax)
  have HSV := Lib.hid (fun W (hW : RowKit.Below w.heap.size w W) => specValid_any b off cap d rest W (hR.below hW) hcap hmax)
  have HQ := Lib.hid hQ
  have hqi : (q.size : Int) ≤ 1048576 := by omega
  have hdm : (d.size : Int) ≤ 9223372036854775807 := by unfold maxLen at hmax; omega
  obtain ⟨wa, hwa⟩ : ∃ wa, wa = w.alloc (.cells #[.slice (some ⟨b, off, none⟩) d.size cap, .int .i64 rest] 32) := ⟨_, rfl⟩
  have hba : RowKit.Below w.heap.size w wa := by rw [hwa]; exact (Below.refl _ _).alloc (Nat.le_refl _) _
  have c0 : wa.cell? ⟨w.heap.size, 0, none⟩ = some (.slice (some ⟨b, off, none⟩) d.size cap) := by rw [hwa]; simp
  have c1 : wa.cell? ⟨w.heap.size, 1, none⟩ = some (.int .i64 rest) := by rw [hwa]; simp
  have hz : w.heap.size < wa.heap.size := by rw [hwa]; simp
  have HWA := Lib.hid hwa
  have HBA := Lib.hid hba
  clear hwa hba hR hcap hmax hQ
  go_enter Tryz.func20, Tryz.ntmps20
  go_wp2_with fail
  rw [← HWA.out]
  go_loopw [5, 10] (fun n x wr => ∃ j : Nat, n = .int .i64 (nxtQ q j) ∧ x = .int .i64 j ∧ j ≤ q.size ∧ Hid (okTo8 d rest q j) ∧
    wr.cell? ⟨w.heap.size, 0, none⟩ = some (.slice (some ⟨b, off, none⟩) d.size cap) ∧ wr.cell? ⟨w.heap.size, 1, none⟩ = some (.int .i64 rest) ∧ Hid (RowKit.Below w.heap.size w wr) ∧ w.heap.size < wr.heap.size) (fun _ x _ => q.size - (intOf x).toNat)
  case atStart => exact ⟨0, rfl, rfl, Nat.zero_le _, (fun i hi => absurd hi (Nat.not_lt_zero i)), c0, c1, HBA.out, hz⟩
  case round =>
    obtain ⟨j, rfl, rfl, hj, HO, c0, c1, HW, hzr⟩ := hrel
    have hnb := nxtQ_bound HO.out
    by_cases hlt : j < q.size
    · have hx := HQ.out.below HW.out
      have x0 := hx.first j hlt
      have x1 := hx.last j hlt
      have x2 := hx.kind j hlt
      clear hx
      have HBAD := Lib.hid (@planB_bad d rest q j hlt)
      have HSUC := Lib.hid (fun h1 h2 => @okTo8_succ d rest q j HO.out h1 h2)
      have hpr := priceN_range d rest q[j]!
      have hlast := fun (h : q[j]!.first = nxtQ q j ∧ priceN d rest q[j]! ≠ -1) => nxtQ_bound (j := j + 1) (HSUC.out h.1 h.2)
      have HNX := Lib.hid (show nxtQ q (j + 1) = q[j]!.last + 1 from rfl)
      have hcall := HPR.out q[j]!
      obtain ⟨c, hc⟩ : ∃ c, c = q[j]! := ⟨_, rfl⟩
      rw [← hc] at x0 x1 x2 hpr HBAD HSUC HNX hcall hlast
      obtain ⟨p, hp⟩ : ∃ p, p = priceN d rest c := ⟨_, rfl⟩
      rw [← hp] at hpr hcall HBAD HSUC hlast
      obtain ⟨n, hn⟩ : ∃ n, n = nxtQ q j := ⟨_, rfl⟩
      rw [← hn] at HBAD HSUC hnb hlast ⊢
      unfold aggQ at hcall
      have HCL := Lib.hid hcall
      have HLA := Lib.hid hlast
      obtain ⟨cf, cl, ck⟩ := c
      simp only at *
      clear hc hp hn hcall hlast
      have hji : (j : Int) < (q.size : Int) := by omega
      have HB2 := Lib.hid (HW.out.alloc (Nat.le_of_lt hzr) (.cells #[.int .i64 cf, .int .i64 cl, .string ck] 45))
      by_cases h1 : cf = n
      · have hq1 : (cf != n) = false := by simp [h1]
        have hq2 : (cf == n) = true := by simp [h1]
        rcases hpr with hp | hp
        · have HRES := Lib.hid (HBAD.out (fun h => h.2 hp))
          subst hp
          clear h1
          go_wp2_with (go_at_call 22; refine (HCL.out _ HB2.out).mono ?_; rintro y w2 ⟨rfl, hb⟩)
          go_ret
          exact ⟨retB HRES.out.symm, HB2.out.trans (hb.mono (by simp; omega))⟩
        · have HN2 := Lib.hid (HSUC.out h1 (by omega))
          have hla := HLA.out ⟨h1, by omega⟩
          rw [HNX.out] at hla
          have hpm : ¬ p < 0 := by omega
          have hl0 : -1 ≤ cl := by omega
          have hl1 : cl ≤ 7 := by omega
          clear h1 hla
          go_wp2_with (go_at_call 22; refine (HCL.out _ HB2.out).mono ?_; rintro y w2 ⟨rfl, hb⟩; have HBB := Lib.hid hb; have e0 := (hb.cell (p := ⟨wr.heap.size, 0, none⟩) (by simp)).trans (World.cell?_alloc_new8 _ 0 rfl); have e1 := (hb.cell (p := ⟨wr.heap.size, 1, none⟩) (by simp)).trans (World.cell?_alloc_new8 _ 1 rfl); clear hb)
          go_roundw
          case rel =>
            have hb := HBB.out
            exact ⟨j + 1, by rw [HNX.out], by go_num, by omega, HN2.out, (hb.cell (p := ⟨w.heap.size, 0, none⟩) (by simp; omega)).trans ((World.cell?_alloc_old8 hzr _ 0).trans c0), (hb.cell (p := ⟨w.heap.size, 1, none⟩) (by simp; omega)).trans ((World.cell?_alloc_old8 hzr _ 1).trans c1), HB2.out.trans (hb.mono (by simp; omega)), Nat.lt_of_lt_of_le hzr (Nat.le_trans (by simp) hb.size)⟩
          case measure => simp [intOf]; omega
      · have hq1 : (cf != n) = true := by simp [h1]
        have hq2 : (cf == n) = false := by simp [h1]
        have HRES := Lib.hid (HBAD.out (fun h => h1 h.1))
        clear h1
        go_wp2_with fail
        go_ret
        exact ⟨retB HRES.out.symm, HB2.out⟩
    · have hje : j = q.size := by omega
      subst hje
      have HEND := Lib.hid (planB_end HO.out)
      obtain ⟨n, hn⟩ : ∃ n, n = nxtQ q q.size := ⟨_, rfl⟩
      rw [← hn] at HEND hnb ⊢
      clear hn
      cases hs : swB d rest with
      | false =>
        rw [hs] at HEND HSV
        clear hs
        go_wp2_with (go_at_call 54; refine (HSV.out _ HW.out).mono ?_; rintro y w2 ⟨rfl, hb⟩)
        go_ret
        exact ⟨retB (by rw [HEND.out]; rfl), HW.out.trans (hb.mono (Nat.le_of_lt hzr))⟩
      | true =>
        rw [hs] at HEND HSV
        clear hs
        go_wp2_with (go_at_call 54; refine (HSV.out _ HW.out).mono ?_; rintro y w2 ⟨rfl, hb⟩; have e0 := (hb.cell (p := ⟨w.heap.size, 0, none⟩) hzr).trans c0)
        go_ret
        exact ⟨retB (by rw [HEND.out]; rfl), HW.out.trans (hb.mono (Nat.le_of_lt hzr))⟩
end Go.Proofs.YtjpcpiffffobcaaGreatDoor
