
/- slices.Sort on at most twelve bytes. -/
import Derived.Test.YtjpcpiffffobcaaGreatDoorKsLtZ
import Derived.Test.YtjpcpiffffobcaaGreatDoorKsSums
import Derived.Test.YtjpcpiffffobcaaGreatDoorKsLay3
namespace Go.Proofs.YtjpcpiffffobcaaGreatDoor
open Go.RowKit Go.Shelf Go.Lib Go.Sort


set_option maxHeartbeats 400000 in
theorem lessB_any (x y : Int) (w : World) : Calls Tryz.prog 176 #[.int .u8 x, .int .u8 y] w fun e w' => e = .returned (.bool (ltZ x y)) ∧ w' = w := by
  by_cases h : x < y
  · have HL := Lib.hid (show ltZ x y = true by simp [ltZ, h])
    go_enter Tryz.func176, Tryz.ntmps176
    go_wp2
    go_ret
    exact ⟨retB HL.out.symm, rfl⟩
  · have HL := Lib.hid (show ltZ x y = false by simp [ltZ]; omega)
    go_enter Tryz.func176, Tryz.ntmps176
    go_wp2
    go_ret
    exact ⟨retB HL.out.symm, rfl⟩

abbrev encB : Int → Value := Value.int .u8
theorem holds_setB {w : World} {g : Nat} {d : Array Int} (h : Holds encB w g 0 d) (i : Nat) (x : Int) (hi : i < d.size) : Holds encB (w.setCell ⟨g, i, none⟩ (.int .u8 x)) g 0 (d.setIfInBounds i x) := by
  have e := putRow_set encB w g 0 d i x hi
  rw [putRow_self encB w g 0 d h, Nat.zero_add] at e
  show Holds encB (w.setCell ⟨g, i, none⟩ (encB x)) g 0 _
  rw [e]
  exact holds_putRow encB w g 0 d _ h (by simp)
theorem grown_setB {a w : World} {g : Nat} (h : a.grownBy w (some g)) (i : Nat) (u : Value) : a.grownBy (w.setCell ⟨g, i, none⟩ u) (some g) :=
  ⟨h.os, h.tape, h.output, by simpa [World.setCell] using h.size, fun k hk hne => (Below.heap_setCell w _ u k (fun e => hne (by rw [e]))).trans (h.block k hk hne)⟩
theorem grown_drewB {a w : World} {r : Option Nat} (h : a.grownBy w r) (n : Nat) : a.grownBy (w.drewN n) r := ⟨h.os, h.tape, h.output, h.size, h.block⟩
theorem grown_drew1B {a w : World} {r : Option Nat} (h : a.grownBy w r) : a.grownBy w.drew r := ⟨h.os, h.tape, h.output, h.size, h.block⟩
theorem grown_reflB (w : World) (r : Option Nat) : w.grownBy w r := ⟨rfl, rfl, rfl, Nat.le_refl _, fun _ _ _ => rfl⟩

/-- Behind the sort: the row holds what the insertion sort makes of it; nothing else has turned. -/
def SortedRow (d : Array Int) (g : Nat) (w w' : World) : Prop := Holds encB w' g 0 (insertionSort ltZ d 0 d.size) ∧ w.grownBy w' (some g)

set_option maxRecDepth 100000 in
set_option maxHeartbeats 1000000 in
theorem insB_any (g cap : Nat) (d : Array Int) (w : World) (hH : Holds encB w g 0 d) (hn : d.size ≤ 12) :
    Calls Tryz.prog 170 #[.slice (some ⟨g, 0, none⟩) d.size cap, .int .i64 0, .int .i64 d.size] w fun e w' => e = .returned (.tuple #[]) ∧ SortedRow d g w w' := by
  have HH0 := Lib.hid hH
  have hn' : (d.size : Int) ≤ 12 := by omega
  clear hH
  go_enter Tryz.func170, Tryz.ntmps170
  go_wp2
  go_loopw [6] (fun vi wr => ∃ (i : Nat) (dk : Array Int), vi = .int .i64 i ∧ 0 < i ∧ i ≤ d.size + 1 ∧ Hid (dk.size = d.size) ∧ Hid (Holds encB wr g 0 dk) ∧ Hid (w.grownBy wr (some g)) ∧ Hid (insOuter ltZ 0 d.size i dk = insOuter ltZ 0 d.size 1 d)) (fun vi _ => d.size + 1 - (intOf vi).toNat)
  case atStart => exact ⟨1, d, rfl, by omega, by omega, rfl, HH0.out, grown_reflB _ _, rfl⟩
  case round =>
    obtain ⟨i, dk, rfl, hi0, hib, HK, HH, HG, HO⟩ := hrel
    by_cases hlt : i < d.size
    · go_wp2
      go_loopw [7] (fun vj wr2 => ∃ (j : Nat) (dj : Array Int), vj = .int .i64 j ∧ j ≤ i ∧ Hid (dj.size = d.size) ∧ Hid (Holds encB wr2 g 0 dj) ∧ Hid (w.grownBy wr2 (some g)) ∧ Hid (insInner ltZ 0 j dj = insInner ltZ 0 i dk)) (fun vj _ => (intOf vj).toNat)
      case atStart => exact ⟨i, dk, rfl, Nat.le_refl _, HK.out, HH.out, HG.out, rfl⟩
      case round =>
        obtain ⟨j, dj, rfl, hji, HKj, HHj, HGj, HI⟩ := hrel
        have OUT := Lib.hid (fun (hs : j ≤ 0 ∨ ltZ dj[j]! dj[j - 1]! = false) => (show insOuter ltZ 0 d.size (i + 1) dj = insOuter ltZ 0 d.size 1 d by
          rw [← HO.out, insOuter_go _ _ _ _ _ hlt, ← HI.out, insInner_stop _ _ _ _ hs]))
        by_cases hj0 : 0 < j
        · have hjs : j < dj.size := by rw [HKj.out]; omega
          have hjs1 : j - 1 < dj.size := by omega
          have x0 : wr.cell? ⟨g, 0 + j, none⟩ = some (.int .u8 dj[j]!) := (HHj.out j hjs).1
          have x1 : wr.cell? ⟨g, 0 + (j - 1), none⟩ = some (.int .u8 dj[j - 1]!) := (HHj.out (j - 1) hjs1).1
          have y0 := (HHj.out j hjs).2
          have y1 := (HHj.out (j - 1) hjs1).2
          simp only [Nat.zero_add] at x0 x1 y0 y1
          obtain ⟨a, ha⟩ : ∃ a, a = dj[j]! := ⟨_, rfl⟩
          obtain ⟨b, hb⟩ : ∃ b, b = dj[j - 1]! := ⟨_, rfl⟩
          rw [← ha] at x0
          rw [← hb] at x1
          have EA := Lib.hid ha
          have EB := Lib.hid hb
          have HJ := Lib.hid hjs
          clear ha hb hjs hjs1
          have hd0 : decide (0 < j) = true := by simp; omega
          have hs2 : IntKind.i64.wrap ((j : Int) - 1) = (j : Int) - 1 := IntWalk.i64_in _ (by omega)
          have hs3 : (0 : Int) ≤ (j : Int) - 1 := by omega
          have hs4 : ((j : Int) - 1).toNat = j - 1 := by omega
          have hs5 : (j : Int) - 1 < (d.size : Int) := by omega
          have hs6 : (j : Int) < (d.size : Int) := by omega
          have hs7 : (0 : Int) ≤ (j : Int) := by omega
          have hcall := fun W => lessB_any a b W
          cases hq : ltZ a b
          all_goals
            simp only [hq] at hcall
            have HCL := Lib.hid hcall
            have HQ := Lib.hid hq
            clear hcall hq
            go_wp2
            go_quiet ((go_at_call 176; exact Calls.quiet_of_same (HCL.out _)))
            go_wp2
          · go_roundw
            case rel => exact ⟨i + 1, dj, by go_num, by omega, by omega, HKj.out, HHj.out, grown_drewB HGj.out _, OUT.out (.inr (by rw [← EA.out, ← EB.out]; exact HQ.out))⟩
            case measure => simp [intOf]; omega
          · have hne1 : ¬ j = j - 1 := by omega
            have hne2 : ¬ j - 1 = j := by omega
            go_region
            all_goals go_wp2
            go_roundw
            case rel =>
              have hs := HJ.out
              have h1 := holds_setB (show Holds encB (wr.drewN nq).drew g 0 dj from HHj.out) j b hs
              have h2 := holds_setB h1 (j - 1) a (by simp; omega)
              refine ⟨j - 1, swp dj j (j - 1), by first | rfl | go_num | (congr 1; omega), by omega, (show _ = _ by rw [size_swp]; exact HKj.out), (show Holds _ _ _ _ _ by unfold swp; rw [← EA.out, ← EB.out]; exact h2), grown_setB (grown_setB (grown_drew1B (grown_drewB HGj.out _)) _ _) _ _, (show _ = _ from ?_)⟩
              rw [← HI.out, insInner_go ltZ 0 j dj hj0 (by rw [← EA.out, ← EB.out]; exact HQ.out)]
            case measure => simp [intOf]; omega
        · have hd0 : decide (0 < j) = false := by simp; omega
          go_wp2
          go_quiet (fail)
          go_wp2
          go_roundw
          case rel => exact ⟨i + 1, dj, by go_num, by omega, by omega, HKj.out, HHj.out, grown_drewB HGj.out _, OUT.out (.inl (by omega))⟩
          case measure => simp [intOf]; omega
    · go_wp2
      go_end0
      refine ⟨rfl, ?_, HG.out⟩
      have e : insertionSort ltZ d 0 d.size = dk := by
        unfold insertionSort
        rw [← HO.out, insOuter_stop _ _ _ _ _ hlt]
      rw [e]
      exact HH.out

set_option maxRecDepth 100000 in
set_option maxHeartbeats 1000000 in
theorem pdqB_any (g cap : Nat) (l : Int) (d : Array Int) (w : World) (hH : Holds encB w g 0 d) (hn : d.size ≤ 12) :
    Calls Tryz.prog 167 #[.slice (some ⟨g, 0, none⟩) d.size cap, .int .i64 0, .int .i64 d.size, .int .i64 l] w fun e w' => e = .returned (.tuple #[]) ∧ SortedRow d g w w' := by
  have hcall := Lib.hid (insB_any g cap d w hH hn)
  have hn' : (d.size : Int) ≤ 12 := by omega
  clear hH
  go_enter Tryz.func167, Tryz.ntmps167
  go_wp2
  refine wp_loop_rounds 1 ?_
  rw [rounds_succ]
  go_wp2_with fail
  refine hcall.out.mono ?_
  rintro x w' ⟨rfl, hs⟩
  have HS := Lib.hid hs
  clear hs
  go_wp2
  refine bodyPost_ret (results_none rfl _ _ _) rfl ?_
  exact ⟨rfl, HS.out⟩

set_option maxRecDepth 100000 in
set_option maxHeartbeats 1000000 in
theorem sortB_any (g cap : Nat) (d : Array Int) (w : World) (hH : Holds encB w g 0 d) (hn : d.size ≤ 12) :
    Calls Tryz.prog 163 #[.slice (some ⟨g, 0, none⟩) d.size cap] w fun e w' => e = .returned (.tuple #[]) ∧ SortedRow d g w w' := by
  have hcall := Lib.hid (fun l => pdqB_any g cap l d w hH hn)
  have hlen : ∀ W, Calls Tryz.prog 168 #[.int .u64 (d.size : Int)] W fun e w' => (∃ l : Int, e = .returned (.int .i64 l)) ∧ w' = W := fun W =>
    (Any.bits_Len Tryz.laysLen (d.size : Int) W (by omega) (by omega)).mono fun _ _ ⟨h1, h2⟩ => ⟨⟨_, h1⟩, h2⟩
  have HL := Lib.hid hlen
  have hn' : (d.size : Int) ≤ 12 := by omega
  have hw : IntKind.u64.wrap (d.size : Int) = (d.size : Int) := by rw [IntKind.wrap]; simp [IntKind.signed, IntKind.bits]; omega
  clear hH hlen
  go_enter Tryz.func163, Tryz.ntmps163
  go_wp2_with fail
  refine (HL.out _).mono ?_
  rintro x w' ⟨⟨l, rfl⟩, rfl⟩
  go_wp2_with fail
  refine (hcall.out _).mono ?_
  rintro x w2 ⟨rfl, hs⟩
  have HS := Lib.hid hs
  clear hs
  go_wp2
  go_end0
  exact ⟨rfl, HS.out⟩
end Go.Proofs.YtjpcpiffffobcaaGreatDoor
