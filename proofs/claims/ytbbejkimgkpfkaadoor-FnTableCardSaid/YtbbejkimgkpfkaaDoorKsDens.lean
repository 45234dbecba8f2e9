
/- Density: the program's and the model's. -/
import Derived.Test.YtbbejkimgkpfkaaDoorKsTabS
import Derived.Test.YtbbejkimgkpfkaaDoorKsRowU
import Derived.IntWalk
namespace Go.Proofs.YtbbejkimgkpfkaaDoor
open Go.RowKit Go.Shelf Go.Lib Go.Sort

/-- The cells of 33 sums. -/
def sumA (f : Nat → Int) : Array Value := ((List.range 33).map fun i => Value.int .i64 (f i)).toArray
theorem sumA_size (f : Nat → Int) : (sumA f).size = 33 := by simp [sumA]
theorem sumA_get (f : Nat → Int) {i : Nat} (h : i < 33) : (sumA f)[i]? = some (.int .i64 (f i)) := by simp [sumA, h]
theorem sumA_set (f : Nat → Int) (k : Nat) (z : Int) : (sumA f).setIfInBounds k (.int .i64 z) = sumA (fun i => if i = k then z else f i) := by
  apply Array.ext_getElem?
  intro i
  rw [Array.getElem?_setIfInBounds]
  by_cases hi : i < 33
  · rw [sumA_get _ hi, sumA_get _ hi]
    by_cases e : k = i
    · subst e; simp [sumA_size, hi]
    · have e' : ¬ i = k := fun x => e x.symm
      simp [e, e']
  · have e1 : (sumA f)[i]? = none := Array.getElem?_eq_none (by rw [sumA_size]; omega)
    have e2 : (sumA (fun i => if i = k then z else f i))[i]? = none := Array.getElem?_eq_none (by rw [sumA_size]; omega)
    rw [e1, e2, sumA_size]
    split
    · next e => rw [if_neg (by omega)]
    · rfl
def SumU (W : World) (R : Nat) (f : Nat → Int) : Prop := W.heap[R]? = some (.cells (sumA f) 142 (0, 0))
theorem SumU.lt {W : World} {R : Nat} {f : Nat → Int} (h : SumU W R f) : R < W.heap.size := (Array.getElem?_eq_some_iff.1 h).1
theorem SumU.cell {W : World} {R : Nat} {f : Nat → Int} (h : SumU W R f) {k : Nat} (hk : k < 33) : W.cell? ⟨R, k, none⟩ = some (.int .i64 (f k)) := (cell_of_row W R k _ _ _ h).trans (sumA_get f hk)
theorem SumU.frozen {W : World} {R : Nat} {f : Nat → Int} (h : SumU W R f) (k : Nat) : W.frozen? ⟨R, k, none⟩ = false := frozen_of_row W R k _ _ h
theorem SumU.below {W W' : World} {R : Nat} {f : Nat → Int} (h : SumU W R f) (hb : RowKit.Below W.heap.size W W') : SumU W' R f := (hb.block R h.lt).trans h
theorem SumU.set {W : World} {R : Nat} {f : Nat → Int} (h : SumU W R f) (k : Nat) (z : Int) : SumU (W.setCell ⟨R, k, none⟩ (.int .i64 z)) R (fun i => if i = k then z else f i) := by
  unfold SumU
  rw [heap_setCell_same W R k _ _ _ h, sumA_set]
def sumG (d : Array CaseD) (k : Nat) : Nat → Int := fun i => if i ≤ k then cntK (covB d) i else 0
theorem sumG_at (d : Array CaseD) {k i : Nat} (h : i ≤ k) : sumG d k i = cntK (covB d) i := by rw [sumG, if_pos h]
theorem sumG_no (d : Array CaseD) (k : Nat) (h : covB d k = false) : (fun i => if i = k + 1 then cntK (covB d) k else sumG d k i) = sumG d (k + 1) := by
  funext i
  unfold sumG
  by_cases e : i = k + 1
  · subst e
    rw [if_pos rfl, if_pos (Nat.le_refl _)]
    simp [cntK, h]
  · rw [if_neg e]
    by_cases h2 : i ≤ k
    · rw [if_pos h2, if_pos (by omega)]
    · rw [if_neg h2, if_neg (by omega)]
theorem sumG_yes (d : Array CaseD) (k : Nat) (h : covB d k = true) : (fun i => if i = k + 1 then cntK (covB d) k + 1 else if i = k + 1 then cntK (covB d) k else sumG d k i) = sumG d (k + 1) := by
  funext i
  unfold sumG
  by_cases e : i = k + 1
  · subst e
    rw [if_pos rfl, if_pos (Nat.le_refl _)]
    simp [cntK, h]
  · rw [if_neg e, if_neg e]
    by_cases h2 : i ≤ k
    · rw [if_pos h2, if_pos (by omega)]
    · rw [if_neg h2, if_neg (by omega)]
theorem zero_sum (d : Array CaseD) : sumA (sumG d 0) = #[.int .i64 0, .int .i64 0, .int .i64 0, .int .i64 0, .int .i64 0, .int .i64 0, .int .i64 0, .int .i64 0, .int .i64 0, .int .i64 0, .int .i64 0, .int .i64 0, .int .i64 0, .int .i64 0, .int .i64 0, .int .i64 0, .int .i64 0, .int .i64 0, .int .i64 0, .int .i64 0, .int .i64 0, .int .i64 0, .int .i64 0, .int .i64 0, .int .i64 0, .int .i64 0, .int .i64 0, .int .i64 0, .int .i64 0, .int .i64 0, .int .i64 0, .int .i64 0, .int .i64 0] := rfl
/-- The sums that a density is told by. -/
structure SumsAt (W : World) (S : Nat) (d : Array CaseD) : Prop where
  lt : S < W.heap.size
  at_ : ∀ k, k ≤ 32 → W.cell? ⟨S, k, none⟩ = some (.int .i64 (cntK (covB d) k))
theorem SumsAt.below {W W' : World} {S : Nat} {d : Array CaseD} (h : SumsAt W S d) (hb : RowKit.Below W.heap.size W W') : SumsAt W' S d :=
  ⟨Nat.lt_of_lt_of_le h.lt hb.size, fun k hk => (hb.cell (p := ⟨S, k, none⟩) h.lt).trans (h.at_ k hk)⟩

set_option maxRecDepth 100000 in
set_option maxHeartbeats 1000000 in
theorem dens1_any (d : Array CaseD) (ln n : Nat) (hi : Int) (S : Nat) (w : World) (hS : SumsAt w S d) (hn : hi + 1 = ln + n) (hp : 0 < n) (hmx : hi ≤ 31) :
    Calls Tryd.prog 123 #[.int .i64 ln, .int .i64 hi, .pointer (some ⟨S, 0, none⟩)] w fun x w' => x = .returned (.int .i64 (densZ d ln n)) ∧ ∃ q, w' = w.drewN q := by
  obtain ⟨hn', rfl⟩ : ∃ k : Nat, hi = k := ⟨hi.toNat, by omega⟩
  have c1 := hS.at_ (hn' + 1) (by omega)
  have c0 := hS.at_ ln (by omega)
  have hd := cntK_diff d ln n
  have hcl := cntK_le (fun i => covB d (ln + i)) n
  have h1 := cntK_le (covB d) ln
  have h2 := cntK_le (covB d) (hn' + 1)
  have e : ln + n = hn' + 1 := by omega
  rw [e] at hd
  obtain ⟨a, ha⟩ : ∃ a, a = cntK (covB d) (hn' + 1) := ⟨_, rfl⟩
  obtain ⟨z, hz⟩ : ∃ z, z = cntK (covB d) ln := ⟨_, rfl⟩
  obtain ⟨y, hy⟩ : ∃ y, y = cntK (fun i => covB d (ln + i)) n := ⟨_, rfl⟩
  rw [← ha] at c1 hd h2
  rw [← hz] at c0 hd h1
  rw [← hy] at hd hcl
  have HY := Lib.hid (show densZ d ln n = 100 * y / n by rw [densZ, ← hy])
  have HD := Lib.hid hd
  have HN := Lib.hid hn
  have b1 : 0 ≤ a - z := by omega
  have b2 : a - z ≤ 32 := by omega
  have b3 : 0 < (hn' : Int) + 1 - ln := by omega
  have b4 : (hn' : Int) + 1 - ln ≤ 32 := by omega
  have b5 : (ln : Int) ≤ 32 := by omega
  have b6 : (hn' : Int) ≤ 31 := by omega
  clear ha hz hy hd hn h1 h2 e hS hcl hmx
  go_enter Tryd.func123, Tryd.ntmps123
  go_wp2_with fail
  have w1 : IntKind.i64.wrap ((hn' : Int) + 1) = (hn' : Int) + 1 := IntWalk.i64_in _ (by omega)
  have w2 : IntKind.i64.wrap (a - z) = a - z := IntWalk.i64_in _ (by omega)
  have w3 : IntKind.i64.wrap ((a - z) * 100) = (a - z) * 100 := IntWalk.i64_in _ (by omega)
  have w4 : IntKind.i64.wrap ((hn' : Int) + 1 - ln) = (hn' : Int) + 1 - ln := IntWalk.i64_in _ (by omega)
  have w5 : ((hn' : Int) + 1).toNat = hn' + 1 := by omega
  have w6 : 0 ≤ (hn' : Int) + 1 := by omega
  have w7 : (hn' : Int) + 1 < 33 := by omega
  have w8 : (ln : Int) < 33 := by omega
  have w9 : ¬ ((hn' : Int) + 1 - ln = 0) := by omega
  go_quiet (fail)
  go_wp2_with fail
  go_ret
  refine ⟨retI ?_, _, rfl⟩
  rw [HY.out, ← HD.out, Int.mul_comm]
  congr 1
  have := HN.out
  omega

set_option maxRecDepth 100000 in
set_option maxHeartbeats 2000000 in
theorem densIn_any (b off cap : Nat) (d : Array CaseD) (rest : Int) (w : World) (hR : RowC w b off d) (hok : SwOK d rest) :
    Calls Tryd.prog 76 #[.agg #[.slice (some ⟨b, off, none⟩) d.size cap, .int .i64 rest]] w fun x w' => (∃ S, w.heap.size ≤ S ∧ x = .returned (.func (.func 123) #[] #[.pointer (some ⟨S, 0, none⟩)]) ∧ SumsAt w' S d) ∧ RowKit.Below w.heap.size w w' := by
  have HRW := Lib.hid (fun W (hW : RowKit.Below w.heap.size w W) => implRow_any b off cap d rest W (hR.below hW) hok)
  have HTC := Lib.hid (fun i => tgt_cov hok i)
  have HGR := Lib.hid (fun i => goB_range hok i)
  clear hR hok
  go_enter Tryd.func76, Tryd.ntmps76
  go_wp2_with fail
  rw [← zero_sum d]
  obtain ⟨W0, hW0⟩ : ∃ W0, W0 = (w.alloc (.cells #[.slice (some ⟨b, off, none⟩) d.size cap, .int .i64 rest] 25)).alloc (.cells (sumA (sumG d 0)) 142) := ⟨_, rfl⟩
  have hS : SumU W0 (w.heap.size + 1) (sumG d 0) := by
    have := World.alloc_heap_new (w.alloc (.cells #[.slice (some ⟨b, off, none⟩) d.size cap, .int .i64 rest] 25)) (.cells (sumA (sumG d 0)) 142)
    rw [hW0]
    simpa [SumU] using this
  have hB0 : RowKit.Below w.heap.size w W0 := by rw [hW0]; exact ((Below.refl _ _).alloc (Nat.le_refl _) _).alloc (by simp) _
  rw [← hW0]
  clear hW0
  refine (HRW.out _ hB0).mono ?_
  rintro x w1 ⟨rfl, hb1⟩
  have HB1 := Lib.hid (hB0.trans (hb1.mono hB0.size))
  have HS1 := Lib.hid (hS.below hb1)
  have HSL := Lib.hid hS.lt
  have HZ := Lib.hid hb1.size
  clear hb1 hS hB0
  go_wp2_with fail
  go_loopw [8] (fun i wr => ∃ k : Nat, i = .int .i64 k ∧ k ≤ 32 ∧ Hid (SumU wr (w.heap.size + 1) (sumG d k)) ∧ Hid (RowKit.Below w.heap.size w wr)) (fun i _ => 32 - (intOf i).toNat)
  case atStart => exact ⟨0, rfl, by omega, HS1.out, HB1.out⟩
  case round =>
    obtain ⟨k, rfl, hk, HS, HB⟩ := hrel
    by_cases hlt : k < 32
    · have hg := fun W => index_row (goB d) hlt W
      have hr := HGR.out k
      have htc := HTC.out k
      have hcl := cntK_le (covB d) k
      have y0 := HS.out.cell (k := k) (by omega)
      have y1 := HS.out.cell (k := k + 1) (by omega)
      have y2 := HS.out.frozen (k + 1)
      rw [sumG_at d (Nat.le_refl k)] at y0
      have HSN := Lib.hid (sumG_no d k)
      have HSY := Lib.hid (sumG_yes d k)
      obtain ⟨g, hgg⟩ : ∃ g, g = goB d k := ⟨_, rfl⟩
      obtain ⟨c, hcc⟩ : ∃ c, c = cntK (covB d) k := ⟨_, rfl⟩
      obtain ⟨u, hu⟩ : ∃ u, u = Value.int .i64 (sumG d k (k + 1)) := ⟨_, rfl⟩
      rw [← hgg] at hg hr htc
      rw [← hcc] at y0 hcl HSN HSY
      rw [← hu] at y1
      clear hgg hcc hu
      have hki : (k : Int) < 32 := by omega
      have hc0 : 0 ≤ c := hcl.1
      have hc1 : c ≤ 32 := by omega
      have hr0 : 0 ≤ g := by omega
      have hr1 : g ≤ 255 := by omega
      have hoc := fun W => ofCase_any g W
      clear hcl hr
      cases hcv : covB d k
      · rw [htc, hcv] at hoc
        have HOC := Lib.hid hoc
        have HCV := Lib.hid hcv
        clear hoc hcv htc
        go_wp2_with (go_at_call 122; refine (HOC.out _).mono ?_; rintro y w2 ⟨rfl, rfl⟩)
        go_roundw
        case rel =>
          refine ⟨k + 1, by go_num, by omega, ?_, HB.out.setCell (p := ⟨w.heap.size + 1, k + 1, none⟩) (by show w.heap.size ≤ w.heap.size + 1; omega) _⟩
          show SumU _ _ _
          rw [← HSN.out HCV.out]
          exact HS.out.set (k + 1) c
        case measure => simp [intOf]; omega
      · rw [htc, hcv] at hoc
        have HOC := Lib.hid hoc
        have HCV := Lib.hid hcv
        clear hoc hcv htc
        go_wp2_with (go_at_call 122; refine (HOC.out _).mono ?_; rintro y w2 ⟨rfl, rfl⟩)
        go_roundw
        case rel =>
          refine ⟨k + 1, by go_num, by omega, ?_, (HB.out.setCell (p := ⟨w.heap.size + 1, k + 1, none⟩) (by show w.heap.size ≤ w.heap.size + 1; omega) _).setCell (p := ⟨w.heap.size + 1, k + 1, none⟩) (by show w.heap.size ≤ w.heap.size + 1; omega) _⟩
          show SumU _ _ _
          rw [← HSY.out HCV.out]
          exact (HS.out.set (k + 1) c).set (k + 1) (c + 1)
        case measure => simp [intOf]; omega
    · go_wp2_with fail
      go_ret
      have hk32 : k = 32 := by omega
      subst hk32
      exact ⟨⟨w.heap.size + 1, by omega, rfl, HS.out.lt, fun q hq => (HS.out.cell (by omega)).trans (by rw [sumG_at d hq])⟩, HB.out⟩

set_option maxRecDepth 100000 in
set_option maxHeartbeats 1000000 in
theorem specDens_any (b off cap : Nat) (d : Array CaseD) (rest lo hi : Int) (w : World) (hR : RowC w b off d) (hcap : d.size ≤ cap) (hmax : cap ≤ maxLen) :
    Calls Tryd.prog 29 #[.agg #[.slice (some ⟨b, off, none⟩) d.size cap, .int .i64 rest], .int .i64 lo, .int .i64 hi] w fun x w' => x = .returned (.int .i64 (densN d rest lo hi)) ∧ RowKit.Below w.heap.size w w' := by
  have hv := fun W (hW : RowKit.Below w.heap.size w W) => specValid_any b off cap d rest W (hR.below hW) hcap hmax
  have HT := Lib.hid (fun (ln n : Nat) (ho : SwOK d rest) (h1 : hi + 1 = ln + n) (h2 : hi ≤ 31) (h3 : 0 < n) W (hW : RowKit.Below w.heap.size w W) => l6Dense_any b off cap d rest hi ln n W (hR.below hW) ho.size h1 h2 h3)
  have hk := fun W => l6Range_any lo hi W
  clear hR
  obtain ⟨wa, hwa⟩ : ∃ wa, wa = w.alloc (.cells #[.slice (some ⟨b, off, none⟩) d.size cap, .int .i64 rest] 25) := ⟨_, rfl⟩
  have c0 : wa.cell? ⟨w.heap.size, 0, none⟩ = some (.slice (some ⟨b, off, none⟩) d.size cap) := by rw [hwa]; simp
  have c1 : wa.cell? ⟨w.heap.size, 1, none⟩ = some (.int .i64 rest) := by rw [hwa]; simp
  have hz : w.heap.size < wa.heap.size := by rw [hwa]; simp
  have hba : RowKit.Below w.heap.size w wa := by rw [hwa]; exact (Below.refl _ _).alloc (Nat.le_refl _) _
  have HA := Lib.hid hba
  have C0 := Lib.hid c0
  have C1 := Lib.hid c1
  have HWA := Lib.hid hwa
  clear hba c0 c1 hwa
  cases hs : swB d rest <;> cases hkb : rangeB lo hi
  all_goals
    simp only [hs] at hv
    simp only [hkb] at hk
    have HV := Lib.hid hv
    have HS := Lib.hid hs
    have HK := Lib.hid hk
    have HKB := Lib.hid hkb
    clear hv hs hk hkb
    go_enter Tryd.func29, Tryd.ntmps29
    go_wp2_with fail
    rw [← HWA.out]
    refine (HV.out _ HA.out).mono ?_
    rintro x w1 ⟨rfl, hb⟩
    have HB := Lib.hid hb
    have hz1 := hb.size
    have a0 := (hb.cell (p := ⟨w.heap.size, 0, none⟩) hz).trans C0.out
    have a1 := (hb.cell (p := ⟨w.heap.size, 1, none⟩) hz).trans C1.out
    have HWB := Lib.hid (HA.out.trans (HB.out.mono (by omega)))
    clear hb
    go_wp2_with (go_at_call 74; refine (HK.out _).mono ?_; rintro y w2 ⟨rfl, rfl⟩)
  iterate 3
    · go_ret
      exact ⟨retI (by simp [densN, tabB, HS.out, HKB.out]), HWB.out⟩
  · have hrg := (rangeB_iff _ _).1 HKB.out
    obtain ⟨ln, rfl⟩ : ∃ ln : Nat, lo = ln := ⟨lo.toNat, by omega⟩
    obtain ⟨n, hn⟩ : ∃ n : Nat, hi + 1 = ln + n := ⟨(hi + 1 - ln).toNat, by omega⟩
    refine (HT.out ln n ((swB_iff _ _).1 HS.out) hn hrg.2.2 (by omega) _ HWB.out).mono ?_
    rintro x w2 ⟨rfl, hb2⟩
    have HB2 := Lib.hid (HWB.out.trans (hb2.mono (by omega)))
    have HTN := Lib.hid (show densN d rest ln hi = densZ d ln n by rw [densN, if_pos (by simp [tabB, HS.out, HKB.out]), show (hi - (ln : Int) + 1).toNat = n by omega]; rfl)
    clear hb2 hrg hn
    go_wp2
    go_ret
    exact ⟨retI HTN.out.symm, HB2.out⟩

set_option maxRecDepth 100000 in
set_option maxHeartbeats 1000000 in
theorem implDens_any (b off cap : Nat) (d : Array CaseD) (rest lo hi : Int) (w : World) (hR : RowC w b off d) (hE : ErrAt w) (hcap : d.size ≤ cap) (hmax : cap ≤ maxLen) :
    Calls Tryd.prog 25 #[.agg #[.slice (some ⟨b, off, none⟩) d.size cap, .int .i64 rest], .int .i64 lo, .int .i64 hi] w fun x w' => x = .returned (.int .i64 (densN d rest lo hi)) ∧ RowKit.Below w.heap.size w w' := by
  have hv := fun W (hW : RowKit.Below w.heap.size w W) => switchValid_any b off cap d rest W (hR.below hW) (hE.below hW) hcap hmax
  have HT := Lib.hid (fun (ho : SwOK d rest) W (hW : RowKit.Below w.heap.size w W) => densIn_any b off cap d rest W (hR.below hW) ho)
  have hk := fun W => isRange_any lo hi W
  have hcl : ∀ args W, Sem.run Tryd.prog (callFunc 123 args) W = .ok (.enter 123 args) W := fun args W => enters_of Tryd.func123 (by kernel_rfl) rfl args W
  clear hR hE
  obtain ⟨wa, hwa⟩ : ∃ wa, wa = w.alloc (.cells #[.slice (some ⟨b, off, none⟩) d.size cap, .int .i64 rest] 25) := ⟨_, rfl⟩
  have c0 : wa.cell? ⟨w.heap.size, 0, none⟩ = some (.slice (some ⟨b, off, none⟩) d.size cap) := by rw [hwa]; simp
  have c1 : wa.cell? ⟨w.heap.size, 1, none⟩ = some (.int .i64 rest) := by rw [hwa]; simp
  have hz : w.heap.size < wa.heap.size := by rw [hwa]; simp
  have hba : RowKit.Below w.heap.size w wa := by rw [hwa]; exact (Below.refl _ _).alloc (Nat.le_refl _) _
  have HA := Lib.hid hba
  have C0 := Lib.hid c0
  have C1 := Lib.hid c1
  have HWA := Lib.hid hwa
  clear hba c0 c1 hwa
  cases hs : swB d rest <;> cases hkb : rangeB lo hi
  all_goals
    simp only [hs] at hv
    simp only [hkb] at hk
    have HV := Lib.hid hv
    have HS := Lib.hid hs
    have HK := Lib.hid hk
    have HKB := Lib.hid hkb
    clear hv hs hk hkb
    go_enter Tryd.func25, Tryd.ntmps25
    go_wp2_with fail
    rw [← HWA.out]
    refine (HV.out _ HA.out).mono ?_
    rintro x w1 ⟨rfl, hb⟩
    have HB := Lib.hid hb
    have hz1 := hb.size
    have a0 := (hb.cell (p := ⟨w.heap.size, 0, none⟩) hz).trans C0.out
    have a1 := (hb.cell (p := ⟨w.heap.size, 1, none⟩) hz).trans C1.out
    have HWB := Lib.hid (HA.out.trans (HB.out.mono (by omega)))
    clear hb
    go_wp2_with (go_at_call 72; refine (HK.out _).mono ?_; rintro y w2 ⟨rfl, rfl⟩)
  iterate 3
    · go_ret
      exact ⟨retI (by simp [densN, tabB, HS.out, HKB.out]), HWB.out⟩
  · have hrg := (rangeB_iff _ _).1 HKB.out
    obtain ⟨ln, rfl⟩ : ∃ ln : Nat, lo = ln := ⟨lo.toNat, by omega⟩
    obtain ⟨n, hn⟩ : ∃ n : Nat, hi + 1 = ln + n := ⟨(hi + 1 - ln).toNat, by omega⟩
    refine (HT.out ((swB_iff _ _).1 HS.out) _ HWB.out).mono ?_
    rintro x w2 ⟨⟨S, hS0, rfl, hS⟩, hb2⟩
    have HB2 := Lib.hid (HWB.out.trans (hb2.mono (by omega)))
    have HTN := Lib.hid (show densN d rest ln hi = densZ d ln n by rw [densN, if_pos (by simp [tabB, HS.out, HKB.out]), show (hi - (ln : Int) + 1).toNat = n by omega]; rfl)
    have HD := Lib.hid (dens1_any d ln n hi S w2 hS hn (by omega) (by omega))
    clear hb2 hrg hn hS
    go_wp2_with (refine HD.out.mono ?_; rintro y w3 ⟨rfl, q, rfl⟩)
    go_ret
    exact ⟨retI HTN.out.symm, below_drewN HB2.out _⟩
end Go.Proofs.YtbbejkimgkpfkaaDoor
