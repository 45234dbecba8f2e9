
/- ascending: sorting leaves the cases as they are just where they ascend by Low. -/
import Derived.Test.YtndnbeijmhcepaaDoorKsRow
import Derived.Deep.LoopGhost
namespace Go.Proofs.YtndnbeijmhcepaaDoor
open Go.RowKit Go.Shelf Go.Lib Go.Sort

noncomputable def ascB (d : Array CaseD) : Bool := @decide (AscL d) (Classical.propDecidable _)
theorem ascB_iff (d : Array CaseD) : ascB d = true ↔ AscL d := @decide_eq_true_iff _ (Classical.propDecidable _)
theorem ascB_not (d : Array CaseD) : ascB d = false ↔ ¬ AscL d := @decide_eq_false_iff_not _ (Classical.propDecidable _)

set_option maxHeartbeats 400000 in
theorem cloneC (b off cap : Nat) (d : Array CaseD) (w : World) (hR : RowC w b off d) (hsz : d.size ≤ 8) :
    Calls Tryd.prog 101 #[.slice (some ⟨b, off, none⟩) d.size cap] w fun e w' =>
      ∃ (g cap' : Nat), e = .returned (.slice (some ⟨g, 0, none⟩) d.size cap') ∧ w.heap.size ≤ g ∧ HoldsK encC 4 w' g 0 d ∧ g < w'.heap.size ∧ RowKit.Below w.heap.size w w' := by
  obtain ⟨i0, hi, hz0, hz1, hz2⟩ := info_parts (show (Tryd.prog.info? 47).map (fun i => (i.zero, i.size, i.bytes)) = some (some (.agg #[.int .i64 0, .int .i64 0, .string ⟨#[]⟩, .int .i64 0]), 4, 40) by kernel_rfl)
  refine (AnyE.slices_Clone Tryd.laysClone i0 _ 4 40 hi hz0 hz1 hz2 rfl (by decide) Tryd.sizeOf47 b off d.size cap (flatK encC 4 d).toList w (by simp) (by unfold maxLen; omega) (by omega)
    (fun j u hj => ?_) (flat_one d)).mono ?_
  · obtain ⟨hj', rfl⟩ := List.getElem?_eq_some_iff.1 hj
    have ht : j < d.size * 4 := by simpa using hj'
    rw [hR.flat j ht]
    simp [ht]
  · rintro e w' ⟨v', rfl, ⟨_, ho⟩, hn, hb⟩
    rcases ho with ⟨rfl, _⟩ | ⟨g, cap', cur, rfl, hg, hh, _, _, _, hc⟩
    · exact absurd rfl hn
    · exact ⟨g, cap', rfl, hg, holds_of_cells hh hc, (Array.getElem?_eq_some_iff.1 hh).1, hb⟩

/-- Behind the sort: what lay below the clone's block is as it was; the row is the sorted one. -/
theorem sorted_world {w W : World} {g n : Nat} {os : Array Obj} {d r : Array CaseD} (hb : RowKit.Below w.heap.size w W) (hg : w.heap.size ≤ g) (hgs : g < W.heap.size) (hH : HoldsK encC 4 W g 0 d) (hs : r.size = d.size) :
    RowC (sortWorldK encC 4 W g 0 n r os) g 0 r ∧ RowKit.Below w.heap.size w (sortWorldK encC 4 W g 0 n r os) ∧ w.heap.size ≤ (sortWorldK encC 4 W g 0 n r os).heap.size := by
  refine ⟨RowC.of_holds (holdsK_sortWorldK_c encC 4 W g 0 d r n os hH hgs hs) (Nat.lt_of_lt_of_le hgs (size_sortWorldK_c encC 4 W g 0 n r os)), ?_, Nat.le_trans hb.size (size_sortWorldK_c encC 4 W g 0 n r os)⟩
  refine hb.trans ⟨rfl, rfl, rfl, size_sortWorldK_c encC 4 W g 0 n r os, fun k hk => ?_⟩
  have h1 : k < W.heap.size := Nat.lt_of_lt_of_le hk hb.size
  unfold sortWorldK grow putRowK putRow mapBlock Sort.ahead
  simp only [Array.getElem?_append, Array.size_modify, h1, if_true, Array.getElem?_modify]
  rw [if_neg (by omega)]

set_option maxRecDepth 100000 in
set_option maxHeartbeats 400000 in
theorem ascending_any (b off cap : Nat) (d : Array CaseD) (w : World) (hR : RowC w b off d) (hsz : d.size ≤ 8) :
    Calls Tryd.prog 87 #[.slice (some ⟨b, off, none⟩) d.size cap] w fun e w' => e = .returned (.bool (ascB d)) ∧ RowKit.Below w.heap.size w w' := by
  have hcl := Lib.hid (cloneC b off cap d w hR hsz)
  have HR := Lib.hid hR
  have b1 : (d.size : Int) ≤ 8 := by omega
  clear hR
  go_enter Tryd.func87, Tryd.ntmps87
  go_wp2_with (go_at_call 101; refine hcl.out.mono ?_; rintro e w1 ⟨g, cap', rfl, hg, hH, hgs, hb1⟩)
  have hst := Lib.hid (sortStableC g 0 cap' d w1 hH hgs hsz)
  have hsm := Lib.hid (sort_same d)
  have hss := (asc_sort d).2
  have HH := Lib.hid hH
  have HB := Lib.hid hb1
  clear hH hb1 hcl
  generalize insertionSort ltLow d 0 d.size = r at hst hsm hss
  have HS := Lib.hid hss
  clear hss
  go_wp2_with (go_at_call 102; refine hst.out.mono ?_; rintro e w2 ⟨rfl, n, os, rfl⟩)
  obtain ⟨hR2, hb2, hz2⟩ := sorted_world (n := n) (os := os) HB.out hg hgs HH.out HS.out
  have HR2 := Lib.hid hR2
  have HB2 := Lib.hid hb2
  clear hR2 hb2 hst
  generalize sortWorldK encC 4 w1 g 0 n r os = W at HR2 HB2 hz2 ⊢
  have hb0 : b < w.heap.size := HR.out.old
  have hg2 : g < W.heap.size := HR2.out.old
  have hm : Tryd.prog.eqGuardType Tryd.prog.depth 47 = false := by kernel_rfl
  go_loopw [12] (fun i wr => ∃ k : Nat, i = .int .i64 k ∧ k ≤ d.size ∧ Hid (RowKit.Below W.heap.size W wr) ∧ W.heap.size ≤ wr.heap.size ∧ Hid (∀ j, j < k → r[j]! = d[j]!)) (fun i _ => d.size - (intOf i).toNat)
  case atStart => exact ⟨0, rfl, Nat.zero_le _, Below.refl _ _, Nat.le_refl _, fun j hj => absurd hj (Nat.not_lt_zero _)⟩
  case round =>
    obtain ⟨k, rfl, hk, HW, hw2, HE⟩ := hrel
    by_cases hlt : k < d.size
    · have hx := (HR2.out.below HW.out)
      have hy := (HR.out.below (HB2.out.trans (HW.out.mono hz2)))
      have hrs : k < r.size := by rw [HS.out]; exact hlt
      have x0 := hx.low k hrs
      have x1 := hx.high k hrs
      have x2 := hx.target k hrs
      have x3 := hx.weight k hrs
      simp only [Nat.zero_add] at x0 x1 x2 x3
      have y0 := hy.low k hlt
      have y1 := hy.high k hlt
      have y2 := hy.target k hlt
      have y3 := hy.weight k hlt
      clear hx hy
      obtain ⟨x, hxe⟩ : ∃ x, x = r[k]! := ⟨_, rfl⟩
      obtain ⟨y, hye⟩ : ∃ y, y = d[k]! := ⟨_, rfl⟩
      rw [← hxe] at x0 x1 x2 x3
      rw [← hye] at y0 y1 y2 y3
      have XE := Lib.hid hxe
      have YE := Lib.hid hye
      clear hxe hye
      have he := neqC x y
      have l1 : g < wr.heap.size := by omega
      have l2 : b < wr.heap.size := by omega
      go_wp2
      cases hq : eqC x y with
      | true =>
        rw [hq] at he
        go_quiet (fail)
        go_wp2
        go_roundw
        case rel =>
          refine ⟨k + 1, by go_num, by omega, below_drewN ((HW.out.alloc hw2 _)) _, by simp; omega, (show Hid _ from fun j hj => ?_)⟩
          by_cases e : j = k
          · subst e
            rw [← XE.out, ← YE.out]
            exact (eqC_iff x y).1 hq
          · exact HE.out j (by omega)
        case measure => simp [intOf]; omega
      | false =>
        rw [hq] at he
        go_quiet (fail)
        go_wp2
        go_ret
        refine ⟨retB ?_, HB2.out.trans (below_drewN ((HW.out.alloc hw2 _).mono hz2) _)⟩
        symm
        rw [ascB_not, ← hsm.out]
        intro h
        have := h k hlt
        rw [← XE.out, ← YE.out] at this
        rw [(eqC_iff x y).2 this] at hq
        cases hq
    · go_wp2
      go_ret
      refine ⟨retB ?_, HB2.out.trans (HW.out.mono hz2)⟩
      symm
      rw [ascB_iff, ← hsm.out]
      exact fun j hj => HE.out j (by omega)
end Go.Proofs.YtndnbeijmhcepaaDoor
