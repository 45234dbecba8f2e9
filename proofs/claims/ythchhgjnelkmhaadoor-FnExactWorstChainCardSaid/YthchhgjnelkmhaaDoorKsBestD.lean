/- What BestChain's sort compares by; the library's insertion sort of indices by it. -/
import Derived.Test.YthchhgjnelkmhaaDoorKsBestC
import Derived.Test.YthchhgjnelkmhaaDoorKsInts
import Derived.Test.YthchhgjnelkmhaaDoorKsApart
import Derived.Test.YthchhgjnelkmhaaDoorKsBoxN
namespace Go.Proofs.YthchhgjnelkmhaaDoor
open Go.RowKit Go.Shelf Go.Lib Go.Sort

/-- The comparison of two indices. -/
def worthX (d : Array CaseD) (x y : Int) : Int := worth d[y.toNat]! d[x.toNat]!

set_option maxRecDepth 100000 in
set_option maxHeartbeats 1000000 in
theorem bestCmp_any (b off cap sb : Nat) (d : Array CaseD) (rest : Int) (x y : Nat) (w : World) (hR : RowC w b off d) (hsb : sb < w.heap.size)
    (c0 : w.cell? ⟨sb, 0, none⟩ = some (.slice (some ⟨b, off, none⟩) d.size cap)) (hok : SwOK d rest) (hx : x < d.size) (hy : y < d.size) :
    Calls Tryd.prog 56 #[.int .i64 x, .int .i64 y, .pointer (some ⟨sb, 0, none⟩)] w fun e w' => e = .returned (.int .i64 (worthX d x y)) ∧ RowKit.Below w.heap.size w w' := by
  have hw := fun W => worth_any d[y]! d[x]! W (hok.case y hy) (hok.case x hx)
  have HW := Lib.hid hw
  have HWX := Lib.hid (show worthX d x y = worth d[y]! d[x]! by simp [worthX])
  clear hw
  go_enter Tryd.func56, Tryd.ntmps56
  have hbl : b < w.heap.size := hR.old
  have x0 := fun p : BW w => p.cell (a := ⟨b, off + x * 4, none⟩) hbl (hR.low x hx)
  have x1 := fun p : BW w => p.cell (a := ⟨b, off + x * 4 + 1, none⟩) hbl (hR.high x hx)
  have x2 := fun p : BW w => p.cell (a := ⟨b, off + x * 4 + 2, none⟩) hbl (hR.target x hx)
  have x3 := fun p : BW w => p.cell (a := ⟨b, off + x * 4 + 3, none⟩) hbl (hR.weight x hx)
  have y0 := fun p : BW w => p.cell (a := ⟨b, off + y * 4, none⟩) hbl (hR.low y hy)
  have y1 := fun p : BW w => p.cell (a := ⟨b, off + y * 4 + 1, none⟩) hbl (hR.high y hy)
  have y2 := fun p : BW w => p.cell (a := ⟨b, off + y * 4 + 2, none⟩) hbl (hR.target y hy)
  have y3 := fun p : BW w => p.cell (a := ⟨b, off + y * 4 + 3, none⟩) hbl (hR.weight y hy)
  have s0 := fun p : BW w => p.cell hsb c0
  have GW := Lib.hid fun p : BW w => HW.out p.W
  have z1 : (0 : Int) ≤ x := by omega
  have z2 : (x : Int) < d.size := by omega
  have z3 : (0 : Int) ≤ y := by omega
  have z4 : (y : Int) < d.size := by omega
  have HOK := Lib.hid hok
  clear HW hR hok c0
  obtain ⟨A, hA⟩ : ∃ A, A = d[x]! := ⟨_, rfl⟩
  obtain ⟨B, hB⟩ : ∃ B, B = d[y]! := ⟨_, rfl⟩
  rw [← hA] at x0 x1 x2 x3 GW HWX
  rw [← hB] at y0 y1 y2 y3 GW HWX
  clear hA hB
  unfold aggC at GW
  go_wp2_with fail
  refine wp_region_bw (by kernel_rfl) (by kernel_rfl) ?_
  repeat (go_big_quiet_step (with_reducible refine bw_of (GW.out _)))
  refine wpQuiet_nil ?_
  rintro _ ⟨⟨W', hBW⟩, rfl⟩
  have HBW := Lib.hid hBW
  clear hBW
  go_wp2
  go_ret
  exact ⟨retIA HWX.out.symm, HBW.out⟩

theorem grown_of_belowR {w w' : World} {r : Option Nat} (h : RowKit.Below w.heap.size w w') : w.grownBy w' r := ⟨h.os, h.tape, h.output, h.size, fun k hk _ => h.block k hk⟩
theorem ok_swp {Ok : Int → Prop} {d : Array Int} {i j : Nat} (h : ∀ k, k < d.size → Ok d[k]!) (hi : i < d.size) (hj : j < d.size) : ∀ k, k < (swp d i j).size → Ok (swp d i j)[k]! := by
  intro k hk
  rw [swp_size] at hk
  by_cases he : i = j
  · subst he
    have e : (swp d i i)[k]! = d[k]! := by
      unfold swp
      by_cases h1 : k = i
      · subst h1; rw [getElem!_set_same _ _ _ (by simpa using hi)]
      · rw [getElem!_set_other _ _ _ _ h1, getElem!_set_other _ _ _ _ h1]
    rw [e]; exact h k hk
  · rw [swp_get hi hj he]
    split
    · exact h i hi
    · split
      · exact h j hj
      · exact h k hk

set_option maxRecDepth 100000 in
set_option maxHeartbeats 1000000 in
theorem insCmp_any (g cap : Nat) (d : Array Int) (w : World) (hH : BoxN w g d) (hn : d.size ≤ 12) (fg : Nat) (cb : Array Value) (cf : Int → Int → Int) (Ok : Int → Prop)
    (hC : ∀ x y W, Ok x → Ok y → w.grownBy W (some g) → Calls Tryd.prog fg (#[.int .i64 x, .int .i64 y] ++ cb) W fun e w' => e = .returned (.int .i64 (cf x y)) ∧ RowKit.Below W.heap.size W w')
    (hO : ∀ j, j < d.size → Ok d[j]!) (hgs : g < w.heap.size) (eg : ∀ args w, (callFunc fg args).run Tryd.prog w = .ok (.enter fg args) w) :
    Calls Tryd.prog 88 #[.slice (some ⟨g, 0, none⟩) d.size cap, .int .i64 0, .int .i64 d.size, .func (.func fg) #[] cb] w fun e w' => e = .returned (.tuple #[]) ∧ BoxN w' g (insertionSort (ltOf cf) d 0 d.size) ∧ w.grownBy w' (some g) := by
  have HH0 := Lib.hid hH
  have hn' : (d.size : Int) ≤ 12 := by omega
  have HC := Lib.hid hC
  have HO := Lib.hid hO
  clear hH hC hO
  go_enter Tryd.func88, Tryd.ntmps88
  go_wp2
  go_loopw [8] (fun vi wr => ∃ (i : Nat) (dk : Array Int), vi = .int .i64 i ∧ 0 < i ∧ i ≤ d.size + 1 ∧ Hid (dk.size = d.size) ∧ Hid (BoxN wr g dk) ∧ Hid (w.grownBy wr (some g)) ∧ Hid (∀ j, j < dk.size → Ok dk[j]!) ∧ Hid (insOuter (ltOf cf) 0 d.size i dk = insOuter (ltOf cf) 0 d.size 1 d)) (fun vi _ => d.size + 1 - (intOf vi).toNat)
  case atStart => exact ⟨1, d, rfl, by omega, by omega, rfl, HH0.out, grown_reflN _ _, HO.out, rfl⟩
  case round =>
    obtain ⟨i, dk, rfl, hi0, hib, HK, HH, HG, HA, HOO⟩ := hrel
    by_cases hlt : i < d.size
    · go_wp2
      go_loopw [9] (fun vj wr2 => ∃ (j : Nat) (dj : Array Int), vj = .int .i64 j ∧ j ≤ i ∧ Hid (dj.size = d.size) ∧ Hid (BoxN wr2 g dj) ∧ Hid (w.grownBy wr2 (some g)) ∧ Hid (∀ j, j < dj.size → Ok dj[j]!) ∧ Hid (insInner (ltOf cf) 0 j dj = insInner (ltOf cf) 0 i dk)) (fun vj _ => (intOf vj).toNat)
      case atStart => exact ⟨i, dk, rfl, Nat.le_refl _, HK.out, HH.out, HG.out, HA.out, rfl⟩
      case round =>
        obtain ⟨j, dj, rfl, hji, HKj, HHj, HGj, HAj, HI⟩ := hrel
        have OUT := Lib.hid (fun (hs : j ≤ 0 ∨ ltOf cf dj[j]! dj[j - 1]! = false) => (show insOuter (ltOf cf) 0 d.size (i + 1) dj = insOuter (ltOf cf) 0 d.size 1 d by
          rw [← HOO.out, insOuter_go _ _ _ _ _ hlt, ← HI.out, insInner_stop _ _ _ _ hs]))
        by_cases hj0 : 0 < j
        · have hjs : j < dj.size := by rw [HKj.out]; omega
          have hjs1 : j - 1 < dj.size := by omega
          have x0 : wr.cell? ⟨g, 0 + j, none⟩ = some (.int .i64 dj[j]!) := (HHj.out.holds j hjs).1
          have x1 : wr.cell? ⟨g, 0 + (j - 1), none⟩ = some (.int .i64 dj[j - 1]!) := (HHj.out.holds (j - 1) hjs1).1
          have y0 := (HHj.out.holds j hjs).2
          have y1 := (HHj.out.holds (j - 1) hjs1).2
          have hgr : g < wr.heap.size := Nat.lt_of_lt_of_le hgs HGj.out.size
          simp only [Nat.zero_add] at x0 x1 y0 y1
          have oka := HAj.out j hjs
          have okb := HAj.out (j - 1) hjs1
          obtain ⟨a, ha⟩ : ∃ a, a = dj[j]! := ⟨_, rfl⟩
          obtain ⟨b, hb⟩ : ∃ b, b = dj[j - 1]! := ⟨_, rfl⟩
          rw [← ha] at x0 oka
          rw [← hb] at x1 okb
          have GC := Lib.hid fun p : BW wr => HC.out a b p.W oka okb (HGj.out.trans (grown_of_belowR p.h))
          have q0 := fun p : BW wr => p.cell hgr x0
          have q1 := fun p : BW wr => p.cell hgr x1
          have EA := Lib.hid ha
          have EB := Lib.hid hb
          have HJ := Lib.hid hjs
          have OKA := Lib.hid oka
          have OKB := Lib.hid okb
          have X0 := Lib.hid x0
          have X1 := Lib.hid x1
          have Y0 := Lib.hid y0
          have Y1 := Lib.hid y1
          clear ha hb hjs hjs1 oka okb x0 x1 y0 y1
          have hd0 : decide (0 < j) = true := by simp; omega
          have hs2 : IntKind.i64.wrap ((j : Int) - 1) = (j : Int) - 1 := IntWalk.i64_in _ (by omega)
          have hs3 : (0 : Int) ≤ (j : Int) - 1 := by omega
          have hs4 : ((j : Int) - 1).toNat = j - 1 := by omega
          have hs5 : (j : Int) - 1 < (d.size : Int) := by omega
          have hs6 : (j : Int) < (d.size : Int) := by omega
          have hs7 : (0 : Int) ≤ (j : Int) := by omega
          have HCF := Lib.hid (show ltOf cf a b = decide (cf a b < 0) from rfl)
          obtain ⟨r, hr⟩ : ∃ r, r = cf a b := ⟨_, rfl⟩
          rw [← hr] at GC HCF
          clear hr
          cases hq : decide (r < 0)
          all_goals
            rw [hq] at HCF
            go_wp2
            refine wp_region_bw (by kernel_rfl) (by kernel_rfl) ?_
            repeat (go_big_quiet_step (with_reducible refine bw_of (GC.out _)))
            refine wpQuiet_nil ?_
            rintro _ ⟨pp, rfl⟩
            have hBW := pp.h
            have x0 := (hBW.cell (p := ⟨g, j, none⟩) hgr).trans X0.out
            have x1 := (hBW.cell (p := ⟨g, j - 1, none⟩) hgr).trans X1.out
            have y0 := (hBW.frozen (p := ⟨g, j, none⟩) hgr).trans Y0.out
            have y1 := (hBW.frozen (p := ⟨g, j - 1, none⟩) hgr).trans Y1.out
            have HHW := Lib.hid (show BoxN pp.W g dj from HHj.out.below hBW)
            have HGW := Lib.hid (HGj.out.trans (grown_of_belowR (r := some g) hBW))
            clear hBW q0 q1
            go_wp2
          · go_roundw
            case rel => exact ⟨i + 1, dj, by go_num, by omega, by omega, HKj.out, HHW.out, HGW.out, HAj.out, OUT.out (.inr (by rw [← EA.out, ← EB.out]; exact HCF.out))⟩
            case measure => simp [intOf]; omega
          · have hne1 : ¬ j = j - 1 := by omega
            have hne2 : ¬ j - 1 = j := by omega
            go_region
            all_goals go_wp2
            go_roundw
            case rel =>
              have hs := HJ.out
              have h1 := (show BoxN pp.W.drew g dj from HHW.out).set j b
              have h2 := h1.set (j - 1) a
              refine ⟨j - 1, swp dj j (j - 1), by first | rfl | go_num | (congr 1; omega), by omega, (show _ = _ by rw [size_swp]; exact HKj.out), (show BoxN _ _ _ by unfold swp; rw [← EA.out, ← EB.out]; exact h2), grown_setN (grown_setN (grown_drew1N HGW.out) _ _) _ _, ok_swp HAj.out hs (by omega), (show _ = _ from ?_)⟩
              rw [← HI.out, insInner_go (ltOf cf) 0 j dj hj0 (by rw [← EA.out, ← EB.out]; exact HCF.out)]
            case measure => simp [intOf]; omega
        · have hd0 : decide (0 < j) = false := by simp; omega
          go_wp2
          go_quiet (fail)
          go_wp2
          go_roundw
          case rel => exact ⟨i + 1, dj, by go_num, by omega, by omega, HKj.out, HHj.out, grown_drewN HGj.out _, HAj.out, OUT.out (.inl (by omega))⟩
          case measure => simp [intOf]; omega
    · go_wp2
      go_end0
      refine ⟨rfl, ?_, HG.out⟩
      have e : insertionSort (ltOf cf) d 0 d.size = dk := by
        unfold insertionSort
        rw [← HOO.out, insOuter_stop _ _ _ _ _ hlt]
      rw [e]
      exact HH.out
end Go.Proofs.YthchhgjnelkmhaaDoor
