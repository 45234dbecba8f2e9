
/- Orders of the cases of a switch: what an order is; the model's l3Order. · slices.Sort on at most twelve integers. · Plain: an order of n numbers is what sorted is 0 to n-1. -/
import Derived.Test.YtjmfcnblkojejaaDoorKsLeaf
import Derived.Test.YtjmfcnblkojejaaDoorKsRowN
import Derived.Sort.LotA
import Derived.Sort.Row
import Derived.Sort.Grow
import Derived.IntWalk
import Derived.Laws.MakeOwn
import Derived.Shelf.SlicesE.Clone
import Derived.Test.YtjmfcnblkojejaaDoorKsLtZ
import Derived.Test.YtjmfcnblkojejaaDoorKsLay4
namespace Go.Proofs.YtjmfcnblkojejaaDoor
open Go.RowKit Go.Shelf Go.Lib Go.Sort

def OrdTo (n : Nat) (o : Array Int) (k : Nat) : Prop := ∀ j, j < k → (0 ≤ o[j]! ∧ o[j]! < n) ∧ ∀ i, i < j → o[i]! ≠ o[j]!
def OrdOK (n : Nat) (o : Array Int) : Prop := o.size = n ∧ OrdTo n o o.size
open Classical in
noncomputable def ordB (n : Nat) (o : Array Int) : Bool := decide (OrdOK n o)
theorem ordB_iff (n : Nat) (o : Array Int) : ordB n o = true ↔ OrdOK n o := @decide_eq_true_iff _ (Classical.propDecidable _)
theorem ordB_not (n : Nat) (o : Array Int) : ordB n o = false ↔ ¬ OrdOK n o := @decide_eq_false_iff_not _ (Classical.propDecidable _)
theorem OrdTo.succ {n : Nat} {o : Array Int} {k : Nat} (h : OrdTo n o k) (h1 : 0 ≤ o[k]! ∧ o[k]! < n) (h2 : ∀ i, i < k → o[i]! ≠ o[k]!) : OrdTo n o (k + 1) := fun j hj => by
  rcases Nat.lt_or_ge j k with h3 | h3
  · exact h j h3
  · obtain rfl : j = k := by omega
    exact ⟨h1, h2⟩

set_option maxRecDepth 100000 in
set_option maxHeartbeats 1000000 in
theorem l3Order_any (n b off cap : Nat) (o : Array Int) (w : World) (hn : n ≤ 8) (hR : RowN w b off o) (ho : o.size ≤ 1048576) :
    Calls Tryd.prog 79 #[.int .i64 n, .slice (some ⟨b, off, none⟩) o.size cap] w fun x w' => x = .returned (.bool (ordB n o)) ∧ RowKit.Below w.heap.size w w' := by
  have HR := Lib.hid hR
  have hn' : (n : Int) ≤ 8 := by omega
  have ho' : (o.size : Int) ≤ 1048576 := by omega
  clear hR
  have hmk := run_makeBool n (by omega)
  go_enter Tryd.func79, Tryd.ntmps79
  go_wp2
  have hH0 := made_holdsG Value.bool false rfl n 4 w w.heap.size rfl
  obtain ⟨wa, hwa⟩ : ∃ wa, wa = w.alloc (.cells (madeCells #[.bool false] n) 4) := ⟨_, rfl⟩
  rw [← hwa] at hH0
  have hz : w.heap.size < wa.heap.size := by rw [hwa]; simp
  have hba : RowKit.Below w.heap.size w wa := by rw [hwa]; exact (Below.refl _ _).alloc (Nat.le_refl _) _
  rw [← hwa]
  have HH0 := Lib.hid hH0
  have HB := Lib.hid hba
  clear hwa hba hH0 hmk
  obtain ⟨g, hg⟩ : ∃ g, g = w.heap.size := ⟨_, rfl⟩
  rw [← hg] at HH0 hz ⊢
  have HG := Lib.hid hg
  clear hg
  go_loopw [12] (fun i wr => ∃ (k : Nat) (A : Array Bool), i = .int .i64 k ∧ k ≤ o.size ∧ Hid (A.size = n) ∧ Hid (Holds Value.bool wr g 0 A) ∧ Hid (∀ t, t < n → (A[t]! = true ↔ ∃ j, j < k ∧ o[j]! = (t : Int))) ∧ Hid (OrdTo n o k) ∧ Hid (RowKit.Below w.heap.size w wr) ∧ wa.heap.size ≤ wr.heap.size) (fun i _ => o.size - (Lib.intOf i).toNat)
  case atStart => exact ⟨0, _, rfl, Nat.zero_le _, by simp [Hid], HH0.out, (show Hid _ from fun t ht => by simp [ht]), (fun j hj => absurd hj (Nat.not_lt_zero _)), HB.out, Nat.le_refl _⟩
  case round =>
    obtain ⟨k, A, rfl, hk, HAZ, HH, HM, HT, HW, hw2⟩ := hrel
    by_cases hlt : k < o.size
    · have x0 := (HR.out.below HW.out).cell k hlt
      obtain ⟨x, hxe⟩ : ∃ x, x = o[k]! := ⟨_, rfl⟩
      rw [← hxe] at x0
      have XE := Lib.hid hxe
      clear hxe
      by_cases hin : 0 ≤ x ∧ x < n
      · have hcall : ∀ W, Calls Tryd.prog 81 #[.int .i64 x, .int .i64 0, .int .i64 ((n : Int) - 1)] W fun e w' => e = .returned (.bool true) ∧ W = w' := fun W => (show inB x 0 ((n : Int) - 1) = true by simp [inB]; omega) ▸ l1In_any x 0 ((n : Int) - 1) W
        have HCL := Lib.hid hcall
        clear hcall
        obtain ⟨t, rfl⟩ : ∃ t : Nat, x = t := ⟨x.toNat, by omega⟩
        have ht : t < n := by omega
        have htA : t < A.size := by rw [HAZ.out]; exact ht
        have y0 := (HH.out t htA).1
        have y1 := (HH.out t htA).2
        simp only [Nat.zero_add] at y0 y1
        have HTA := Lib.hid htA
        clear htA hin
        cases hq : A[t]!
        all_goals
          rw [hq] at y0
          have HQ := Lib.hid hq
          clear hq
          go_wp2_with (go_at_call 81; refine (HCL.out _).mono ?_; rintro y w2 ⟨rfl, rfl⟩)
        · go_roundw
          case rel =>
            refine ⟨k + 1, A.setIfInBounds t true, by go_num, by omega, (show _ = _ by simpa using HAZ.out), holds_setG Value.bool HH.out t true HTA.out, (show Hid _ from fun t' ht' => ?_), HT.out.succ (by rw [← XE.out]; omega) ?_, HW.out.setCell (p := ⟨g, t, none⟩) (Nat.le_of_eq HG.out.symm) _, by simpa [World.setCell] using hw2⟩
            · by_cases e : t' = t
              · subst e
                rw [getElem!_set_same _ _ _ HTA.out]
                simp only [true_iff]
                exact ⟨k, by omega, XE.out.symm⟩
              · rw [getElem!_set_other _ _ _ _ e, HM.out t' ht']
                constructor
                · rintro ⟨j, hj, h⟩
                  exact ⟨j, by omega, h⟩
                · rintro ⟨j, hj, h⟩
                  refine ⟨j, ?_, h⟩
                  rcases Nat.lt_or_ge j k with h3 | h3
                  · exact h3
                  · obtain rfl : j = k := by omega
                    rw [← XE.out] at h
                    omega
            · intro j hj h
              have := (HM.out t ht).2 ⟨j, hj, h.trans XE.out.symm⟩
              rw [HQ.out] at this
              cases this
          case measure => simp [Lib.intOf]; omega
        · go_ret
          refine ⟨retB ((ordB_not n o).2 fun h => ?_).symm, HW.out⟩
          obtain ⟨j, hj, h1⟩ := (HM.out t ht).1 HQ.out
          exact (h.2 k (by rw [h.1] at hlt ⊢; omega)).2 j hj (h1.trans XE.out)
      · have hcall : ∀ W, Calls Tryd.prog 81 #[.int .i64 x, .int .i64 0, .int .i64 ((n : Int) - 1)] W fun e w' => e = .returned (.bool false) ∧ W = w' := fun W => (show inB x 0 ((n : Int) - 1) = false by simp [inB]; omega) ▸ l1In_any x 0 ((n : Int) - 1) W
        have HCL := Lib.hid hcall
        have HIN := Lib.hid hin
        clear hcall hin
        go_wp2_with (go_at_call 81; refine (HCL.out _).mono ?_; rintro y w2 ⟨rfl, rfl⟩)
        go_ret
        refine ⟨retB ((ordB_not n o).2 fun h => HIN.out ?_).symm, HW.out⟩
        rw [XE.out]
        exact (h.2 k hlt).1
    · have hke : k = o.size := by omega
      have HKE := Lib.hid hke
      by_cases hsz : o.size = n
      · have hq : ((o.size : Int) == (n : Int)) = true := by simp; omega
        have HSZ := Lib.hid hsz
        clear hke hsz
        go_wp2
        go_ret
        exact ⟨retB ((ordB_iff n o).2 ⟨HSZ.out, HKE.out ▸ HT.out⟩).symm, HW.out⟩
      · have hq : ((o.size : Int) == (n : Int)) = false := by simp; omega
        have HSZ := Lib.hid hsz
        clear hke hsz
        go_wp2
        go_ret
        exact ⟨retB ((ordB_not n o).2 fun h => HSZ.out h.1).symm, HW.out⟩
end Go.Proofs.YtjmfcnblkojejaaDoor

namespace Go.Proofs.YtjmfcnblkojejaaDoor
open Go.RowKit Go.Shelf Go.Lib Go.Sort


set_option maxHeartbeats 400000 in
theorem lessN_any (x y : Int) (w : World) : Calls Tryd.prog 160 #[.int .i64 x, .int .i64 y] w fun e w' => e = .returned (.bool (ltZ x y)) ∧ w' = w := by
  by_cases h : x < y
  · have HL := Lib.hid (show ltZ x y = true by simp [ltZ, h])
    go_enter Tryd.func160, Tryd.ntmps160
    go_wp2
    go_ret
    exact ⟨retB HL.out.symm, rfl⟩
  · have HL := Lib.hid (show ltZ x y = false by simp [ltZ]; omega)
    go_enter Tryd.func160, Tryd.ntmps160
    go_wp2
    go_ret
    exact ⟨retB HL.out.symm, rfl⟩

theorem holds_setN {w : World} {g : Nat} {d : Array Int} (h : Holds encN w g 0 d) (i : Nat) (x : Int) (hi : i < d.size) : Holds encN (w.setCell ⟨g, i, none⟩ (.int .i64 x)) g 0 (d.setIfInBounds i x) := by
  have e := putRow_set encN w g 0 d i x hi
  rw [putRow_self encN w g 0 d h, Nat.zero_add] at e
  show Holds encN (w.setCell ⟨g, i, none⟩ (encN x)) g 0 _
  rw [e]
  exact holds_putRow encN w g 0 d _ h (by simp)
theorem grown_setN {a w : World} {g : Nat} (h : a.grownBy w (some g)) (i : Nat) (u : Value) : a.grownBy (w.setCell ⟨g, i, none⟩ u) (some g) :=
  ⟨h.os, h.tape, h.output, by simpa [World.setCell] using h.size, fun k hk hne => (Below.heap_setCell w _ u k (fun e => hne (by rw [e]))).trans (h.block k hk hne)⟩
theorem grown_drewN {a w : World} {r : Option Nat} (h : a.grownBy w r) (n : Nat) : a.grownBy (w.drewN n) r := ⟨h.os, h.tape, h.output, h.size, h.block⟩
theorem grown_drew1N {a w : World} {r : Option Nat} (h : a.grownBy w r) : a.grownBy w.drew r := ⟨h.os, h.tape, h.output, h.size, h.block⟩
theorem grown_reflN (w : World) (r : Option Nat) : w.grownBy w r := ⟨rfl, rfl, rfl, Nat.le_refl _, fun _ _ _ => rfl⟩

/-- Behind the sort: the row holds what the insertion sort makes of it; nothing else has turned. -/
def SortedRowN (d : Array Int) (g : Nat) (w w' : World) : Prop := Holds encN w' g 0 (insertionSort ltZ d 0 d.size) ∧ w.grownBy w' (some g)

set_option maxRecDepth 100000 in
set_option maxHeartbeats 1000000 in
theorem insN_any (g cap : Nat) (d : Array Int) (w : World) (hH : Holds encN w g 0 d) (hn : d.size ≤ 12) :
    Calls Tryd.prog 154 #[.slice (some ⟨g, 0, none⟩) d.size cap, .int .i64 0, .int .i64 d.size] w fun e w' => e = .returned (.tuple #[]) ∧ SortedRowN d g w w' := by
  have HH0 := Lib.hid hH
  have hn' : (d.size : Int) ≤ 12 := by omega
  clear hH
  go_enter Tryd.func154, Tryd.ntmps154
  go_wp2
  go_loopw [6] (fun vi wr => ∃ (i : Nat) (dk : Array Int), vi = .int .i64 i ∧ 0 < i ∧ i ≤ d.size + 1 ∧ Hid (dk.size = d.size) ∧ Hid (Holds encN wr g 0 dk) ∧ Hid (w.grownBy wr (some g)) ∧ Hid (insOuter ltZ 0 d.size i dk = insOuter ltZ 0 d.size 1 d)) (fun vi _ => d.size + 1 - (intOf vi).toNat)
  case atStart => exact ⟨1, d, rfl, by omega, by omega, rfl, HH0.out, grown_reflN _ _, rfl⟩
  case round =>
    obtain ⟨i, dk, rfl, hi0, hib, HK, HH, HG, HO⟩ := hrel
    by_cases hlt : i < d.size
    · go_wp2
      go_loopw [7] (fun vj wr2 => ∃ (j : Nat) (dj : Array Int), vj = .int .i64 j ∧ j ≤ i ∧ Hid (dj.size = d.size) ∧ Hid (Holds encN wr2 g 0 dj) ∧ Hid (w.grownBy wr2 (some g)) ∧ Hid (insInner ltZ 0 j dj = insInner ltZ 0 i dk)) (fun vj _ => (intOf vj).toNat)
      case atStart => exact ⟨i, dk, rfl, Nat.le_refl _, HK.out, HH.out, HG.out, rfl⟩
      case round =>
        obtain ⟨j, dj, rfl, hji, HKj, HHj, HGj, HI⟩ := hrel
        have OUT := Lib.hid (fun (hs : j ≤ 0 ∨ ltZ dj[j]! dj[j - 1]! = false) => (show insOuter ltZ 0 d.size (i + 1) dj = insOuter ltZ 0 d.size 1 d by
          rw [← HO.out, insOuter_go _ _ _ _ _ hlt, ← HI.out, insInner_stop _ _ _ _ hs]))
        by_cases hj0 : 0 < j
        · have hjs : j < dj.size := by rw [HKj.out]; omega
          have hjs1 : j - 1 < dj.size := by omega
          have x0 : wr.cell? ⟨g, 0 + j, none⟩ = some (.int .i64 dj[j]!) := (HHj.out j hjs).1
          have x1 : wr.cell? ⟨g, 0 + (j - 1), none⟩ = some (.int .i64 dj[j - 1]!) := (HHj.out (j - 1) hjs1).1
          have y0 := (HHj.out j hjs).2
          have y1 := (HHj.out (j - 1) hjs1).2
          simp only [Nat.zero_add] at x0 x1 y0 y1
          obtain ⟨a, ha⟩ : ∃ a, a = dj[j]! := ⟨_, rfl⟩
          obtain ⟨b, hb⟩ : ∃ b, b = dj[j - 1]! := ⟨_, rfl⟩
          rw [← ha] at x0
          rw [← hb] at x1
          have EA := Lib.hid ha
          have EB := Lib.hid hb
          have HJ := Lib.hid hjs
          clear ha hb hjs hjs1
          have hd0 : decide (0 < j) = true := by simp; omega
          have hs2 : IntKind.i64.wrap ((j : Int) - 1) = (j : Int) - 1 := IntWalk.i64_in _ (by omega)
          have hs3 : (0 : Int) ≤ (j : Int) - 1 := by omega
          have hs4 : ((j : Int) - 1).toNat = j - 1 := by omega
          have hs5 : (j : Int) - 1 < (d.size : Int) := by omega
          have hs6 : (j : Int) < (d.size : Int) := by omega
          have hs7 : (0 : Int) ≤ (j : Int) := by omega
          have hcall := fun W => lessN_any a b W
          cases hq : ltZ a b
          all_goals
            simp only [hq] at hcall
            have HCL := Lib.hid hcall
            have HQ := Lib.hid hq
            clear hcall hq
            go_wp2
            go_quiet ((go_at_call 160; exact Calls.quiet_of_same (HCL.out _)))
            go_wp2
          · go_roundw
            case rel => exact ⟨i + 1, dj, by go_num, by omega, by omega, HKj.out, HHj.out, grown_drewN HGj.out _, OUT.out (.inr (by rw [← EA.out, ← EB.out]; exact HQ.out))⟩
            case measure => simp [intOf]; omega
          · have hne1 : ¬ j = j - 1 := by omega
            have hne2 : ¬ j - 1 = j := by omega
            go_region
            all_goals go_wp2
            go_roundw
            case rel =>
              have hs := HJ.out
              have h1 := holds_setN (show Holds encN (wr.drewN nq).drew g 0 dj from HHj.out) j b hs
              have h2 := holds_setN h1 (j - 1) a (by simp; omega)
              refine ⟨j - 1, swp dj j (j - 1), by first | rfl | go_num | (congr 1; omega), by omega, (show _ = _ by rw [size_swp]; exact HKj.out), (show Holds _ _ _ _ _ by unfold swp; rw [← EA.out, ← EB.out]; exact h2), grown_setN (grown_setN (grown_drew1N (grown_drewN HGj.out _)) _ _) _ _, (show _ = _ from ?_)⟩
              rw [← HI.out, insInner_go ltZ 0 j dj hj0 (by rw [← EA.out, ← EB.out]; exact HQ.out)]
            case measure => simp [intOf]; omega
        · have hd0 : decide (0 < j) = false := by simp; omega
          go_wp2
          go_quiet (fail)
          go_wp2
          go_roundw
          case rel => exact ⟨i + 1, dj, by go_num, by omega, by omega, HKj.out, HHj.out, grown_drewN HGj.out _, OUT.out (.inl (by omega))⟩
          case measure => simp [intOf]; omega
    · go_wp2
      go_end0
      refine ⟨rfl, ?_, HG.out⟩
      have e : insertionSort ltZ d 0 d.size = dk := by
        unfold insertionSort
        rw [← HO.out, insOuter_stop _ _ _ _ _ hlt]
      rw [e]
      exact HH.out

set_option maxRecDepth 100000 in
set_option maxHeartbeats 1000000 in
theorem pdqN_any (g cap : Nat) (l : Int) (d : Array Int) (w : World) (hH : Holds encN w g 0 d) (hn : d.size ≤ 12) :
    Calls Tryd.prog 142 #[.slice (some ⟨g, 0, none⟩) d.size cap, .int .i64 0, .int .i64 d.size, .int .i64 l] w fun e w' => e = .returned (.tuple #[]) ∧ SortedRowN d g w w' := by
  have hcall := Lib.hid (insN_any g cap d w hH hn)
  have hn' : (d.size : Int) ≤ 12 := by omega
  clear hH
  go_enter Tryd.func142, Tryd.ntmps142
  go_wp2
  refine wp_loop_rounds 1 ?_
  rw [rounds_succ]
  go_wp2_with fail
  refine hcall.out.mono ?_
  rintro x w' ⟨rfl, hs⟩
  have HS := Lib.hid hs
  clear hs
  go_wp2
  refine bodyPost_ret (results_none rfl _ _ _) rfl ?_
  exact ⟨rfl, HS.out⟩

set_option maxRecDepth 100000 in
set_option maxHeartbeats 1000000 in
theorem sortN_any (g cap : Nat) (d : Array Int) (w : World) (hH : Holds encN w g 0 d) (hn : d.size ≤ 12) :
    Calls Tryd.prog 130 #[.slice (some ⟨g, 0, none⟩) d.size cap] w fun e w' => e = .returned (.tuple #[]) ∧ SortedRowN d g w w' := by
  have hcall := Lib.hid (fun l => pdqN_any g cap l d w hH hn)
  have hlen : ∀ W, Calls Tryd.prog 143 #[.int .u64 (d.size : Int)] W fun e w' => (∃ l : Int, e = .returned (.int .i64 l)) ∧ w' = W := fun W =>
    (Any.bits_Len Tryd.laysLenN (d.size : Int) W (by omega) (by omega)).mono fun _ _ ⟨h1, h2⟩ => ⟨⟨_, h1⟩, h2⟩
  have HL := Lib.hid hlen
  have hn' : (d.size : Int) ≤ 12 := by omega
  have hw : IntKind.u64.wrap (d.size : Int) = (d.size : Int) := by rw [IntKind.wrap]; simp [IntKind.signed, IntKind.bits]; omega
  clear hH hlen
  go_enter Tryd.func130, Tryd.ntmps130
  go_wp2_with fail
  refine (HL.out _).mono ?_
  rintro x w' ⟨⟨l, rfl⟩, rfl⟩
  go_wp2_with fail
  refine (hcall.out _).mono ?_
  rintro x w2 ⟨rfl, hs⟩
  have HS := Lib.hid hs
  clear hs
  go_wp2
  go_end0
  exact ⟨rfl, HS.out⟩
end Go.Proofs.YtjmfcnblkojejaaDoor

namespace Go.Proofs.YtjmfcnblkojejaaDoor
open Go.RowKit Go.Shelf Go.Lib Go.Sort

def upTo (n : Nat) : Array Int := ((List.range n).map fun (i : Nat) => (i : Int)).toArray
theorem upTo_size (n : Nat) : (upTo n).size = n := by simp [upTo]
theorem upTo_get {n j : Nat} (h : j < n) : (upTo n)[j]! = (j : Int) := by simp [upTo, h]
theorem get_list (q : Array Int) (j : Nat) (hj : j < q.toList.length) : q.toList[j] = q[j]! := by
  have hj' : j < q.size := by simpa using hj
  simp [hj']
theorem mem_idx (q : Array Int) (y : Int) : y ∈ q.toList ↔ ∃ j, j < q.size ∧ q[j]! = y := by
  rw [List.mem_iff_getElem]
  constructor
  · rintro ⟨j, hj, e⟩
    exact ⟨j, by simpa using hj, by rw [← e, get_list]⟩
  · rintro ⟨j, hj, e⟩
    exact ⟨j, by simpa using hj, by rw [get_list, e]⟩
theorem nodup_idx (q : Array Int) : q.toList.Nodup ↔ ∀ j, j < q.size → ∀ i, i < j → q[i]! ≠ q[j]! := by
  rw [List.Nodup, List.pairwise_iff_getElem]
  constructor
  · intro h j hj i hi
    have := h i j (by simp; omega) (by simpa using hj) hi
    rwa [get_list, get_list] at this
  · intro h i j hi hj hij
    rw [get_list, get_list]
    exact h j (by simpa using hj) i hij

theorem sort_perm (o : Array Int) : (insertionSort ltZ o 0 o.size).size = o.size ∧ (insertionSort ltZ o 0 o.size).toList.Perm o.toList ∧ ∀ i j, i < j → j < o.size → (insertionSort ltZ o 0 o.size)[i]! ≤ (insertionSort ltZ o 0 o.size)[j]! := by
  obtain ⟨⟨h1, _, h2⟩, h3⟩ := insertionSort_holds swo_ltZ o 0 o.size (Nat.zero_le _) (Nat.le_refl _)
  generalize insertionSort ltZ o 0 o.size = s at h1 h2 h3 ⊢
  have e1 : s.extract 0 o.size = s := by rw [← h1]; simp
  have e2 : o.extract 0 o.size = o := by simp
  rw [e1, e2] at h2
  refine ⟨h1, h2, fun i j hij hj => ?_⟩
  have := h3 i j (Nat.zero_le _) hij hj
  simp only [ltZ, decide_eq_false_iff_not] at this
  omega

theorem asc_upTo {s : Array Int} {n : Nat} (hn : s.size = n) (ha : ∀ i j, i < j → j < n → s[i]! < s[j]!) (hb : ∀ j, j < n → 0 ≤ s[j]! ∧ s[j]! < n) : s = upTo n := by
  have lo : ∀ j, j < n → (j : Int) ≤ s[j]! := fun j => by
    induction j with
    | zero => intro hj; exact (hb 0 hj).1
    | succ j ih =>
      intro hj
      have h1 := ih (by omega)
      have h2 := ha j (j + 1) (by omega) hj
      omega
  have hi : ∀ k j, j + k + 1 = n → s[j]! ≤ (j : Int) := fun k => by
    induction k with
    | zero =>
      intro j hj
      have := (hb j (by omega)).2
      omega
    | succ k ih =>
      intro j hj
      have h1 := ih (j + 1) (by omega)
      have h2 := ha j (j + 1) (by omega) (by omega)
      omega
  refine Array.ext (by rw [upTo_size, hn]) fun j h1 h2 => ?_
  have hj : j < n := by omega
  have e1 : s[j] = s[j]! := by simp [h1]
  have e2 : (upTo n)[j] = (upTo n)[j]! := by simp [h2]
  rw [e1, e2, upTo_get hj]
  have := lo j hj
  have := hi (n - 1 - j) j (by omega)
  omega

theorem ord_sorted {n : Nat} {o : Array Int} (h : OrdOK n o) : insertionSort ltZ o 0 o.size = upTo n := by
  obtain ⟨h1, h2, h3⟩ := sort_perm o
  generalize insertionSort ltZ o 0 o.size = s at h1 h2 h3 ⊢
  have hn := h.1
  have hno : o.toList.Nodup := (nodup_idx o).2 fun j hj => (h.2 j hj).2
  have hns := (nodup_idx s).1 (h2.nodup_iff.2 hno)
  refine asc_upTo (by omega) (fun i j hij hj => ?_) fun j hj => ?_
  · have a := h3 i j hij (by omega)
    have b := hns j (by omega) i hij
    omega
  · obtain ⟨t, ht, e⟩ := (mem_idx o _).1 (h2.mem_iff.1 ((mem_idx s _).2 ⟨j, by omega, rfl⟩))
    rw [← e]
    exact (h.2 t ht).1
theorem sorted_ord {n : Nat} {o : Array Int} (hn : o.size = n) (h : insertionSort ltZ o 0 o.size = upTo n) : OrdOK n o := by
  obtain ⟨h1, h2, h3⟩ := sort_perm o
  rw [h] at h1 h2 h3
  have hno : (upTo n).toList.Nodup := (nodup_idx _).2 fun j hj i hi => by
    rw [upTo_size] at hj
    rw [upTo_get hj, upTo_get (by omega)]
    omega
  have hns := (nodup_idx o).1 (h2.nodup_iff.1 hno)
  refine ⟨hn, fun j hj => ⟨?_, hns j hj⟩⟩
  obtain ⟨t, ht, e⟩ := (mem_idx _ _).1 (h2.mem_iff.2 ((mem_idx o _).2 ⟨j, hj, rfl⟩))
  rw [upTo_size] at ht
  rw [← e, upTo_get ht]
  omega
theorem ordB_sorted {n : Nat} {o : Array Int} (hn : o.size = n) : ordB n o = decide (insertionSort ltZ o 0 o.size = upTo n) := by
  rw [Bool.eq_iff_iff, ordB_iff, decide_eq_true_iff]
  exact ⟨ord_sorted, sorted_ord hn⟩
theorem ord_perm {n : Nat} {o : Array Int} (h : OrdOK n o) : o.toList.Perm (upTo n).toList := by
  have := (sort_perm o).2.1
  rw [ord_sorted h] at this
  exact this.symm
theorem ord_onto {n : Nat} {o : Array Int} (h : OrdOK n o) {i : Nat} (hi : i < n) : ∃ j, j < n ∧ o[j]! = (i : Int) := by
  obtain ⟨j, hj, e⟩ := (mem_idx o (i : Int)).1 ((ord_perm h).mem_iff.2 ((mem_idx _ _).2 ⟨i, by rw [upTo_size]; exact hi, upTo_get hi⟩))
  exact ⟨j, by have := h.1; omega, e⟩
end Go.Proofs.YtjmfcnblkojejaaDoor
