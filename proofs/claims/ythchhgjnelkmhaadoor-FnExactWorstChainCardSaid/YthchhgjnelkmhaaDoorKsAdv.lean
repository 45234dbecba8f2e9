/- The next chain: advance. -/
import Derived.Test.YthchhgjnelkmhaaDoorKsAdvP
import Derived.Test.YthchhgjnelkmhaaDoorKsLay5
import Derived.Test.YthchhgjnelkmhaaDoorKsBestD
namespace Go.Proofs.YthchhgjnelkmhaaDoor
open Go.RowKit Go.Shelf Go.Lib Go.Sort

/-- Behind advance: no next one, and the box as it was; or the next one in it. -/
def Advanced (g : Nat) (A : Array Int) (w : World) (ok : Bool) (w' : World) : Prop :=
  w.grownBy w' (some g) ∧ if ok = true then ∃ r, BoxN w' g r ∧ NextOf A.size A r else BoxN w' g A ∧ ∀ i j, i < j → j < A.size → A[j]! < A[i]!

theorem reverseN_any (g off cap : Nat) (d : Array Int) (w : World) (hH : Holds encN w g off d) (hs : d.size ≤ 8) :
    Calls Tryd.prog 91 #[.slice (some ⟨g, off, none⟩) d.size cap] w fun e w' => e = .returned (.tuple #[]) ∧ ∃ n, w' = putRow encN (Sort.ahead w n) g off d.reverse :=
  AnyE.slices_Reverse_arr Tryd.laysRevN encN (fun _ => rfl) g off cap d w hH (by omega)

set_option maxRecDepth 100000 in
set_option maxHeartbeats 2000000 in
theorem advance_any (g : Nat) (A : Array Int) (w : World) (hB : BoxN w g A) (hA : OrdOK A.size A) (hn : A.size ≤ 8) :
    Calls Tryd.prog 78 #[.slice (some ⟨g, 0, none⟩) A.size A.size] w fun x w' => ∃ ok : Bool, x = .returned (.bool ok) ∧ Advanced g A w ok w' := by
  have HB := Lib.hid hB
  have HA := Lib.hid hA
  have hn' : (A.size : Int) ≤ 8 := by omega
  clear hB hA
  go_enter Tryd.func78, Tryd.ntmps78
  go_wp2_with fail
  go_loopw [3] (fun v wr => ∃ (k : Nat) (z : Int), v = .int .i64 z ∧ z = (k : Int) - 2 ∧ k ≤ A.size ∧ (0 < k ∨ A.size = 0) ∧ Hid (∀ i j, k - 1 ≤ i → i < j → j < A.size → A[j]! < A[i]!) ∧ Hid (BoxN wr g A) ∧ Hid (w.grownBy wr (some g))) (fun v _ => (Lib.intOf v + 1).toNat)
  case atStart => exact ⟨A.size, _, rfl, rfl, Nat.le_refl _, by omega, (show Hid _ from fun i j h1 h2 h3 => by omega), HB.out, grown_reflN _ _⟩
  case round =>
    obtain ⟨k, z, rfl, hz, hk, hk1, HD, HX, HG⟩ := hrel
    by_cases hk2 : 2 ≤ k
    · obtain ⟨t, rfl⟩ : ∃ t, k = t + 2 := ⟨k - 2, by omega⟩
      obtain rfl : z = (t : Int) := by omega
      clear hz hk1
      have x0 := (HX.out.holds t (by omega)).1
      have x1 := (HX.out.holds (t + 1) (by omega)).1
      simp only [Nat.zero_add] at x0 x1
      have hne : A[t]! ≠ A[t + 1]! := fun e => by
        have := ord_inj HA.out (by omega) (by omega) e
        omega
      obtain ⟨a, ha⟩ : ∃ a, a = A[t]! := ⟨_, rfl⟩
      obtain ⟨b, hb⟩ : ∃ b, b = A[t + 1]! := ⟨_, rfl⟩
      have HAA := Lib.hid ha
      have HBB := Lib.hid hb
      rw [← ha] at x0
      rw [← hb] at x1
      rw [← ha, ← hb] at hne
      clear ha hb
      have h0 : decide ((t : Int) ≥ 0) = true := by simp
      have h1 : (0 : Int) ≤ (t : Int) := by omega
      have h2 : (t : Int) < (A.size : Int) := by omega
      have h3 : IntKind.i64.wrap ((t : Int) + 1) = (t : Int) + 1 := IntWalk.i64_in _ (by omega)
      have h4 : ((t : Int) + 1).toNat = t + 1 := by omega
      have h5 : (0 : Int) ≤ (t : Int) + 1 := by omega
      have h6 : (t : Int) + 1 < (A.size : Int) := by omega
      by_cases hq : b < a
      · have hq1 : decide (b < a) = true := by simp [hq]
        have hq2 : decide (a > b) = true := by simp [hq]
        have h7 : IntKind.i64.wrap ((t : Int) - 1) = (t : Int) - 1 := IntWalk.i64_in _ (by omega)
        have HQ := Lib.hid hq
        clear hq
        go_wp2
        go_quiet (fail)
        go_wp2
        go_roundw
        case rel =>
          refine ⟨t + 1, _, rfl, by omega, by omega, by omega, (show Hid _ from fun i j g1 g2 g3 => ?_), HX.out, grown_drewN HG.out _⟩
          by_cases hi : i = t
          · subst hi
            rw [← HAA.out]
            by_cases hj : j = i + 1
            · subst hj
              rw [← HBB.out]
              exact HQ.out
            · have := HD.out (i + 1) j (by omega) (by omega) g3
              rw [← HBB.out] at this
              exact Int.lt_trans this HQ.out
          · exact HD.out i j (by omega) g2 g3
        case measure => first | (simp [Lib.intOf]; done) | (simp [Lib.intOf]; omega)
      · have hq1 : decide (b < a) = false := by simp; omega
        have hq2 : decide (a > b) = false := by first | (simp; done) | (simp; omega)
        have HQ := Lib.hid (show A[t]! < A[t + 1]! by rw [← HAA.out, ← HBB.out]; omega)
        have hlt0 : decide ((t : Int) < 0) = false := by simp
        have h8 : IntKind.i64.wrap ((A.size : Int) - 1) = (A.size : Int) - 1 := IntWalk.i64_in _ (by omega)
        clear hq
        go_wp2
        go_quiet (fail)
        go_wp2
        obtain ⟨we, hwe⟩ : ∃ we, we = wr.drewN nq := ⟨_, rfl⟩
        rw [← hwe]
        have HXE := Lib.hid (show BoxN we g A by rw [hwe]; exact HX.out)
        have HGE := Lib.hid (show w.grownBy we (some g) by rw [hwe]; exact grown_drewN HG.out _)
        clear hwe x0 x1
        obtain ⟨wo, rfl⟩ : ∃ wo, wo = wr := ⟨_, rfl⟩
        have hd9 : IntKind.i64.wrap ((t : Int) + 1) = (t : Int) + 1 := h3
        go_loopw [4] (fun v wr => ∃ q : Nat, v = .int .i64 (q : Int) ∧ t < q ∧ q < A.size ∧ Hid (∀ m, q < m → m < A.size → A[m]! < A[t]!) ∧ Hid (BoxN wr g A) ∧ Hid (w.grownBy wr (some g))) (fun v _ => (Lib.intOf v).toNat)
        case atStart => exact ⟨A.size - 1, congrArg (Value.int .i64) (by omega), by omega, by omega, (show Hid _ from fun m g1 g2 => by omega), HXE.out, HGE.out⟩
        case round =>
          obtain ⟨q, rfl, htq, hqn, HM, HY, HG2⟩ := hrel
          have x0 := (HY.out.holds t (by omega)).1
          have x1 := (HY.out.holds q hqn).1
          have f0 := (HY.out.holds t (by omega)).2
          have f1 := (HY.out.holds q hqn).2
          simp only [Nat.zero_add] at x0 x1 f0 f1
          have hne2 : A[t]! ≠ A[q]! := fun e => by
            have := ord_inj HA.out (by omega) hqn e
            omega
          obtain ⟨c, hc⟩ : ∃ c, c = A[q]! := ⟨_, rfl⟩
          have HCC := Lib.hid hc
          rw [← HAA.out] at x0 hne2
          rw [← hc] at x1 hne2
          clear hc
          have q1 : (0 : Int) ≤ (q : Int) := by omega
          have q2 : (q : Int) < (A.size : Int) := by omega
          by_cases hcc : c < a
          · have hcd : decide (c < a) = true := by simp [hcc]
            have q3 : IntKind.i64.wrap ((q : Int) - 1) = (q : Int) - 1 := IntWalk.i64_in _ (by omega)
            have hq2 : t + 1 < q := by
              rcases Nat.lt_or_ge (t + 1) q with h | h
              · exact h
              · obtain rfl : q = t + 1 := by omega
                have := HQ.out
                rw [← HAA.out, ← HCC.out] at this
                omega
            have HLT := Lib.hid hcc
            clear hcc
            go_wp2
            go_quiet (fail)
            go_wp2
            go_roundw
            case rel =>
              refine ⟨q - 1, by first | rfl | go_num | (congr 1; omega), by omega, by omega, (show Hid _ from fun m g1 g2 => ?_), HY.out, grown_drewN HG2.out _⟩
              by_cases hm : m = q
              · subst hm
                rw [← HCC.out, ← HAA.out]
                exact HLT.out
              · exact HM.out m (by omega) g2
            case measure => first | (simp [Lib.intOf]; done) | (simp [Lib.intOf]; omega)
          · have hcd : decide (c < a) = false := by simp; omega
            have HLT := Lib.hid (show a < c by omega)
            clear hcc
            go_wp2
            go_quiet (fail)
            go_wp2
            obtain ⟨wf, hwf⟩ : ∃ wf, wf = wr.drewN nq := ⟨_, rfl⟩
            rw [← hwf]
            have HYF := Lib.hid (show BoxN wf g A by rw [hwf]; exact HY.out)
            have HGF := Lib.hid (show w.grownBy wf (some g) by rw [hwf]; exact grown_drewN HG2.out _)
            have y0 := (HYF.out.holds t (by omega)).1
            have y1 := (HYF.out.holds q hqn).1
            have y2 := (HYF.out.holds t (by omega)).2
            have y3 := (HYF.out.holds q hqn).2
            simp only [Nat.zero_add] at y0 y1 y2 y3
            rw [← HAA.out] at y0
            rw [← HCC.out] at y1
            clear hwf x0 x1 f0 f1
            have hne3 : ¬ t = q := by omega
            have hne4 : ¬ q = t := by omega
            have hcp : ¬ A.size = t + 1 := by omega
            go_region
            all_goals
              go_wp2_with fail
              obtain ⟨wg, hwg⟩ : ∃ wg, wg = ((wf.setCell ⟨g, t, none⟩ (.int .i64 c)).setCell ⟨g, q, none⟩ (.int .i64 a)).drew := ⟨_, rfl⟩
              rw [← hwg]
              have hbx : BoxN wg g (swp A t q) := by
                rw [hwg]
                unfold swp
                rw [← HCC.out, ← HAA.out]
                exact (HYF.out.set t c).set q a
              have hgg : w.grownBy wg (some g) := by
                rw [hwg]
                exact grown_drew1N (grown_setN (grown_setN HGF.out _ _) _ _)
              have hcall := reverseN_any g (t + 1) (A.size - (t + 1)) (suf (swp A t q) t) wg (hbx.suf t) (by rw [suf_size, swp_size]; omega)
              rw [suf_size, swp_size] at hcall
              have HBX := Lib.hid hbx
              have HGG := Lib.hid hgg
              clear hwg hbx hgg y0 y1 y2 y3
              refine hcall.mono ?_
              rintro x w' ⟨rfl, nn, rfl⟩
              go_wp2
              go_ret
              refine ⟨true, rfl, HGG.out.trans (grown_reversed _), ?_⟩
              rw [if_pos rfl]
              exact ⟨revFrom (swp A t q) t, HBX.out.reversed (by rw [swp_size]; omega) nn, next_of HA.out htq hqn (fun i j g1 g2 g3 => HD.out i j (by omega) g2 g3) (by rw [← HAA.out, ← HCC.out]; exact HLT.out) HM.out⟩
    · have hk00 : k - 1 = 0 := by omega
      rw [hk00] at HD
      have hz1 : z = -1 ∨ z = -2 := by omega
      clear hz hk hk1 hk2 hk00
      obtain rfl | rfl := hz1
      all_goals
        go_wp2
        go_quiet (fail)
        go_wp2
        go_ret
        refine ⟨false, rfl, grown_drewN HG.out _, ?_⟩
        rw [if_neg (by simp)]
        exact ⟨HX.out, fun i j g1 g2 => HD.out i j (Nat.zero_le i) g1 g2⟩
end Go.Proofs.YthchhgjnelkmhaaDoor
