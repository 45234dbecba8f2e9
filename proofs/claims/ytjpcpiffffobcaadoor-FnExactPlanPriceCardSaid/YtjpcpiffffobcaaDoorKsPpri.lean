
/- PlanPrice: the program's and the model's. -/
import Derived.Test.YtjpcpiffffobcaaDoorKsPval
import Derived.Lib.MinMax
namespace Go.Proofs.YtjpcpiffffobcaaDoor
open Go.RowKit Go.Shelf Go.Lib Go.Sort

def joinQ (q : Array CluD) : Int := 2 * max ((q.size : Int) - 1) 0
noncomputable def priceTo8 (d : Array CaseD) (rest : Int) (q : Array CluD) : Nat → Int
  | 0 => joinQ q
  | j + 1 => priceTo8 d rest q j + priceN d rest q[j]!
noncomputable def planP (d : Array CaseD) (rest : Int) (q : Array CluD) : Int := if planB d rest q = true then priceTo8 d rest q q.size else -1
theorem priceTo8_bound {d : Array CaseD} {rest : Int} {q : Array CluD} (h : okTo8 d rest q q.size) : ∀ {j : Nat}, j ≤ q.size → 0 ≤ priceTo8 d rest q j - joinQ q ∧ priceTo8 d rest q j - joinQ q ≤ 18 * j
  | 0, _ => by show 0 ≤ joinQ q - joinQ q ∧ joinQ q - joinQ q ≤ _; omega
  | j + 1, hj => by
    have a := priceTo8_bound h (j := j) (by omega)
    have b := priceN_range d rest q[j]!
    have c := (h j (by omega)).2
    show 0 ≤ priceTo8 d rest q j + priceN d rest q[j]! - joinQ q ∧ priceTo8 d rest q j + priceN d rest q[j]! - joinQ q ≤ _
    omega
set_option maxRecDepth 100000 in
set_option maxHeartbeats 4000000 in
theorem implPpri_any (b off cap : Nat) (d : Array CaseD) (rest : Int) (pb po pc : Nat) (q : Array CluD) (w : World) (hR : RowC w b off d) (hE : ErrAt w) (hcap : d.size ≤ cap) (hmax : cap ≤ maxLen) (hQ : RowQ w pb po q) (hq : q.size ≤ 1048576) :
    Calls Tryd.prog 27 #[.agg #[.slice (some ⟨b, off, none⟩) d.size cap, .int .i64 rest], .slice (some ⟨pb, po, none⟩) q.size pc] w fun x w' => x = .returned (.int .i64 (planP d rest q)) ∧ RowKit.Below w.heap.size w w' := by
  have HPR := Lib.hid (fun c W (hW : RowKit.Below w.heap.size w W) => implPriceOf_any b off cap d rest c W (hR.below hW) (hE.below hW) hcap hmax)
  have HPV := Lib.hid (fun W (hW : RowKit.Below w.heap.size w W) => implPval_any b off cap d rest pb po pc q W (hR.below hW) (hE.below hW) hcap hmax (hQ.below hW) hq)
  have HQ := Lib.hid hQ
  have hqi : (q.size : Int) ≤ 1048576 := by omega
  obtain ⟨wa, hwa⟩ : ∃ wa, wa = w.alloc (.cells #[.slice (some ⟨b, off, none⟩) d.size cap, .int .i64 rest] 32) := ⟨_, rfl⟩
  have hba : RowKit.Below w.heap.size w wa := by rw [hwa]; exact (Below.refl _ _).alloc (Nat.le_refl _) _
  have c0 : wa.cell? ⟨w.heap.size, 0, none⟩ = some (.slice (some ⟨b, off, none⟩) d.size cap) := by rw [hwa]; simp
  have c1 : wa.cell? ⟨w.heap.size, 1, none⟩ = some (.int .i64 rest) := by rw [hwa]; simp
  have hz : w.heap.size < wa.heap.size := by rw [hwa]; simp
  have HWA := Lib.hid hwa
  have HBA := Lib.hid hba
  clear hwa hba hR hcap hmax hQ
  cases hs : planB d rest q with
  | false =>
    have HRES := Lib.hid (show planP d rest q = -1 by rw [planP, if_neg (by rw [hs]; simp)])
    rw [hs] at HPV
    clear hs
    go_enter Tryd.func27, Tryd.ntmps27
    go_wp2_with fail
    rw [← HWA.out]
    go_wp2_with fail
    refine (HPV.out _ HBA.out).mono ?_
    rintro y w1 ⟨rfl, hb⟩
    have HB := Lib.hid (HBA.out.trans (hb.mono HBA.out.size))
    clear hb c0 c1
    go_wp2_with fail
    go_ret
    exact ⟨retI HRES.out.symm, HB.out⟩
  | true =>
    have HRES := Lib.hid (show planP d rest q = priceTo8 d rest q q.size by rw [planP, if_pos hs])
    have HOK := Lib.hid ((planB_iff _ _ _).1 hs).1
    have hj0 : 0 ≤ joinQ q ∧ joinQ q ≤ 2097152 := by unfold joinQ; omega
    have HP0 := Lib.hid (show 2 * max ((q.size : Int) - 1) 0 = priceTo8 d rest q 0 from rfl)
    obtain ⟨J, hJ⟩ : ∃ J, J = joinQ q := ⟨_, rfl⟩
    have HPB := Lib.hid (fun j (hj : j ≤ q.size) => priceTo8_bound HOK.out hj)
    rw [← hJ] at hj0 HPB
    rw [hs] at HPV
    clear hs hJ
    go_enter Tryd.func27, Tryd.ntmps27
    go_wp2_with fail
    rw [← HWA.out]
    go_wp2_with fail
    refine (HPV.out _ HBA.out).mono ?_
    rintro y w1 ⟨rfl, hb⟩
    have HB := Lib.hid (HBA.out.trans (hb.mono HBA.out.size))
    have hz1 : w.heap.size < w1.heap.size := Nat.lt_of_lt_of_le hz hb.size
    have e0 := (hb.cell (p := ⟨w.heap.size, 0, none⟩) hz).trans c0
    have e1 := (hb.cell (p := ⟨w.heap.size, 1, none⟩) hz).trans c1
    clear hb c0 c1
    have hqs : 0 ≤ (q.size : Int) := by omega
    go_wp2_with fail
    go_loopw [5, 19] (fun n x wr => ∃ j : Nat, n = .int .i64 (priceTo8 d rest q j) ∧ x = .int .i64 j ∧ j ≤ q.size ∧
      wr.cell? ⟨w.heap.size, 0, none⟩ = some (.slice (some ⟨b, off, none⟩) d.size cap) ∧ wr.cell? ⟨w.heap.size, 1, none⟩ = some (.int .i64 rest) ∧ Hid (RowKit.Below w.heap.size w wr) ∧ w.heap.size < wr.heap.size) (fun _ x _ => q.size - (intOf x).toNat)
    case atStart => exact ⟨0, by rw [HP0.out], rfl, Nat.zero_le _, e0, e1, HB.out, hz1⟩
    case round =>
      obtain ⟨j, rfl, rfl, hj, c0, c1, HW, hzr⟩ := hrel
      have hpb := HPB.out j hj
      by_cases hlt : j < q.size
      · have hx := HQ.out.below HW.out
        have x0 := hx.first j hlt
        have x1 := hx.last j hlt
        have x2 := hx.kind j hlt
        clear hx
        have hpr := priceN_range d rest q[j]!
        have HNX := Lib.hid (show priceTo8 d rest q (j + 1) = priceTo8 d rest q j + priceN d rest q[j]! from rfl)
        have hcall := HPR.out q[j]!
        obtain ⟨c, hc⟩ : ∃ c, c = q[j]! := ⟨_, rfl⟩
        rw [← hc] at x0 x1 x2 hpr HNX hcall
        obtain ⟨p, hp⟩ : ∃ p, p = priceN d rest c := ⟨_, rfl⟩
        rw [← hp] at hpr hcall HNX
        obtain ⟨n, hn⟩ : ∃ n, n = priceTo8 d rest q j := ⟨_, rfl⟩
        rw [← hn] at HNX hpb ⊢
        unfold aggQ at hcall
        have HCL := Lib.hid hcall
        obtain ⟨cf, cl, ck⟩ := c
        simp only at *
        clear hc hp hn hcall
        have hji : (j : Int) < (q.size : Int) := by omega
        have HB2 := Lib.hid (HW.out.alloc (Nat.le_of_lt hzr) (.cells #[.int .i64 cf, .int .i64 cl, .string ck] 34))
        go_wp2_with (go_at_call 17; refine (HCL.out _ HB2.out).mono ?_; rintro y w2 ⟨rfl, hb⟩; have HBB := Lib.hid hb; clear hb)
        go_roundw
        case rel =>
          have hb := HBB.out
          exact ⟨j + 1, by rw [HNX.out], by go_num, by omega, (hb.cell (p := ⟨w.heap.size, 0, none⟩) (by simp; omega)).trans ((World.cell?_alloc_old8 hzr _ 0).trans c0), (hb.cell (p := ⟨w.heap.size, 1, none⟩) (by simp; omega)).trans ((World.cell?_alloc_old8 hzr _ 1).trans c1), HB2.out.trans (hb.mono (by simp; omega)), Nat.lt_of_lt_of_le hzr (Nat.le_trans (by simp) hb.size)⟩
        case measure => simp [intOf]; omega
      · have hje : j = q.size := by omega
        subst hje
        go_wp2_with fail
        go_ret
        exact ⟨retI HRES.out.symm, HW.out⟩
set_option maxRecDepth 100000 in
set_option maxHeartbeats 4000000 in
theorem specPpri_any (b off cap : Nat) (d : Array CaseD) (rest : Int) (pb po pc : Nat) (q : Array CluD) (w : World) (hR : RowC w b off d) (hcap : d.size ≤ cap) (hmax : cap ≤ maxLen) (hQ : RowQ w pb po q) (hq : q.size ≤ 1048576) :
    Calls Tryd.prog 26 #[.agg #[.slice (some ⟨b, off, none⟩) d.size cap, .int .i64 rest], .slice (some ⟨pb, po, none⟩) q.size pc] w fun x w' => x = .returned (.int .i64 (planP d rest q)) ∧ RowKit.Below w.heap.size w w' := by
  have HPR := Lib.hid (fun c W (hW : RowKit.Below w.heap.size w W) => specPriceOf_any b off cap d rest c W (hR.below hW) hcap hmax)
  have HPV := Lib.hid (fun W (hW : RowKit.Below w.heap.size w W) => specPval_any b off cap d rest pb po pc q W (hR.below hW) hcap hmax (hQ.below hW) hq)
  have HQ := Lib.hid hQ
  have hqi : (q.size : Int) ≤ 1048576 := by omega
  obtain ⟨wa, hwa⟩ : ∃ wa, wa = w.alloc (.cells #[.slice (some ⟨b, off, none⟩) d.size cap, .int .i64 rest] 32) := ⟨_, rfl⟩
  have hba : RowKit.Below w.heap.size w wa := by rw [hwa]; exact (Below.refl _ _).alloc (Nat.le_refl _) _
  have c0 : wa.cell? ⟨w.heap.size, 0, none⟩ = some (.slice (some ⟨b, off, none⟩) d.size cap) := by rw [hwa]; simp
  have c1 : wa.cell? ⟨w.heap.size, 1, none⟩ = some (.int .i64 rest) := by rw [hwa]; simp
  have hz : w.heap.size < wa.heap.size := by rw [hwa]; simp
  have HWA := Lib.hid hwa
  have HBA := Lib.hid hba
  clear hwa hba hR hcap hmax hQ
  cases hs : planB d rest q with
  | false =>
    have HRES := Lib.hid (show planP d rest q = -1 by rw [planP, if_neg (by rw [hs]; simp)])
    rw [hs] at HPV
    clear hs
    go_enter Tryd.func26, Tryd.ntmps26
    go_wp2_with fail
    rw [← HWA.out]
    go_wp2_with fail
    refine (HPV.out _ HBA.out).mono ?_
    rintro y w1 ⟨rfl, hb⟩
    have HB := Lib.hid (HBA.out.trans (hb.mono HBA.out.size))
    clear hb c0 c1
    go_wp2_with fail
    go_ret
    exact ⟨retI HRES.out.symm, HB.out⟩
  | true =>
    have HRES := Lib.hid (show planP d rest q = priceTo8 d rest q q.size by rw [planP, if_pos hs])
    have HOK := Lib.hid ((planB_iff _ _ _).1 hs).1
    have hj0 : 0 ≤ joinQ q ∧ joinQ q ≤ 2097152 := by unfold joinQ; omega
    have HP0 := Lib.hid (show 2 * max ((q.size : Int) - 1) 0 = priceTo8 d rest q 0 from rfl)
    obtain ⟨J, hJ⟩ : ∃ J, J = joinQ q := ⟨_, rfl⟩
    have HPB := Lib.hid (fun j (hj : j ≤ q.size) => priceTo8_bound HOK.out hj)
    rw [← hJ] at hj0 HPB
    rw [hs] at HPV
    clear hs hJ
    go_enter Tryd.func26, Tryd.ntmps26
    go_wp2_with fail
    rw [← HWA.out]
    go_wp2_with fail
    refine (HPV.out _ HBA.out).mono ?_
    rintro y w1 ⟨rfl, hb⟩
    have HB := Lib.hid (HBA.out.trans (hb.mono HBA.out.size))
    have hz1 : w.heap.size < w1.heap.size := Nat.lt_of_lt_of_le hz hb.size
    have e0 := (hb.cell (p := ⟨w.heap.size, 0, none⟩) hz).trans c0
    have e1 := (hb.cell (p := ⟨w.heap.size, 1, none⟩) hz).trans c1
    clear hb c0 c1
    have hqs : 0 ≤ (q.size : Int) := by omega
    go_wp2_with fail
    go_loopw [5, 19] (fun n x wr => ∃ j : Nat, n = .int .i64 (priceTo8 d rest q j) ∧ x = .int .i64 j ∧ j ≤ q.size ∧
      wr.cell? ⟨w.heap.size, 0, none⟩ = some (.slice (some ⟨b, off, none⟩) d.size cap) ∧ wr.cell? ⟨w.heap.size, 1, none⟩ = some (.int .i64 rest) ∧ Hid (RowKit.Below w.heap.size w wr) ∧ w.heap.size < wr.heap.size) (fun _ x _ => q.size - (intOf x).toNat)
    case atStart => exact ⟨0, by rw [HP0.out], rfl, Nat.zero_le _, e0, e1, HB.out, hz1⟩
    case round =>
      obtain ⟨j, rfl, rfl, hj, c0, c1, HW, hzr⟩ := hrel
      have hpb := HPB.out j hj
      by_cases hlt : j < q.size
      · have hx := HQ.out.below HW.out
        have x0 := hx.first j hlt
        have x1 := hx.last j hlt
        have x2 := hx.kind j hlt
        clear hx
        have hpr := priceN_range d rest q[j]!
        have HNX := Lib.hid (show priceTo8 d rest q (j + 1) = priceTo8 d rest q j + priceN d rest q[j]! from rfl)
        have hcall := HPR.out q[j]!
        obtain ⟨c, hc⟩ : ∃ c, c = q[j]! := ⟨_, rfl⟩
        rw [← hc] at x0 x1 x2 hpr HNX hcall
        obtain ⟨p, hp⟩ : ∃ p, p = priceN d rest c := ⟨_, rfl⟩
        rw [← hp] at hpr hcall HNX
        obtain ⟨n, hn⟩ : ∃ n, n = priceTo8 d rest q j := ⟨_, rfl⟩
        rw [← hn] at HNX hpb ⊢
        unfold aggQ at hcall
        have HCL := Lib.hid hcall
        obtain ⟨cf, cl, ck⟩ := c
        simp only at *
        clear hc hp hn hcall
        have hji : (j : Int) < (q.size : Int) := by omega
        have HB2 := Lib.hid (HW.out.alloc (Nat.le_of_lt hzr) (.cells #[.int .i64 cf, .int .i64 cl, .string ck] 34))
        go_wp2_with (go_at_call 14; refine (HCL.out _ HB2.out).mono ?_; rintro y w2 ⟨rfl, hb⟩; have HBB := Lib.hid hb; clear hb)
        go_roundw
        case rel =>
          have hb := HBB.out
          exact ⟨j + 1, by rw [HNX.out], by go_num, by omega, (hb.cell (p := ⟨w.heap.size, 0, none⟩) (by simp; omega)).trans ((World.cell?_alloc_old8 hzr _ 0).trans c0), (hb.cell (p := ⟨w.heap.size, 1, none⟩) (by simp; omega)).trans ((World.cell?_alloc_old8 hzr _ 1).trans c1), HB2.out.trans (hb.mono (by simp; omega)), Nat.lt_of_lt_of_le hzr (Nat.le_trans (by simp) hb.size)⟩
        case measure => simp [intOf]; omega
      · have hje : j = q.size := by omega
        subst hje
        go_wp2_with fail
        go_ret
        exact ⟨retI HRES.out.symm, HW.out⟩
end Go.Proofs.YtjpcpiffffobcaaDoor
