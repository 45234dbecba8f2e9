
/- SwitchOf of the program: all keys of a tree put together by joinTargets, those of the rest left out. -/
import Derived.Test.YtndnbeijmhcepaaDoorKsBoxS
import Derived.Test.YtndnbeijmhcepaaDoorKsSwI
import Derived.Test.YtndnbeijmhcepaaDoorKsTrFn
import Derived.Test.YtndnbeijmhcepaaDoorKsPull
import Derived.Deep.RegionHeld3
namespace Go.Proofs.YtndnbeijmhcepaaDoor
open Go.RowKit Go.Shelf Go.Lib Go.Sort

def swN : Option TreeD → List CaseD
  | none => []
  | some t => if (swTo t 32).length ≤ 8 then swTo t 32 else []
def swK : Option TreeD → Bool
  | none => false
  | some t => decide ((swTo t 32).length ≤ 8)
theorem swN_len (o : Option TreeD) : (swN o).length ≤ 8 := by
  cases o with
  | none => exact Nat.zero_le _
  | some t => simp only [swN]; split <;> simp_all
/-- Two results: a switch whose cases are the call's own, and whether there is one. -/
def SwOf2 (base : Nat) (o : Option TreeD) (w : World) (x : Ending) (w' : World) : Prop :=
  ∃ v, x = .returned (.tuple #[.agg #[v, .int .i64 0], .bool (swK o)]) ∧ OwnsC base v (swN o) w' ∧ RowKit.Below base w w'
theorem retSw {v : Value} {a b : Bool} (h : a = b) : Ending.returned (.tuple #[.agg #[v, .int .i64 0], .bool a]) = .returned (.tuple #[.agg #[v, .int .i64 0], .bool b]) := by rw [h]

/-- All keys of a tree that lies in memory, put together. -/
theorem mergeKeys_any (b : Nat) (t : TreeD) (v : Value) (w : World) (hc : countT t ≤ 1000000) (ht : TreeAt b w t v) :
    Calls Tryd.prog 44 #[.func (.func 65) #[] #[.pointer (some ⟨w.heap.size, 0, none⟩)], jF 46] (w.alloc (.cells #[v] 69))
      fun x w' => ∃ g cp, x = .returned (.slice (some ⟨g, 0, none⟩) (mergeA adjB (keysC t 32)).toList.length cp) ∧ w.heap.size ≤ g ∧ RowC w' g 0 (mergeA adjB (keysC t 32)).toList.toArray ∧ (mergeA adjB (keysC t 32)).toList.length ≤ 32 ∧ (mergeA adjB (keysC t 32)).toList.length ≤ cp ∧ cp ≤ maxLen ∧ RowKit.Below w.heap.size w w' := by
  obtain ⟨w2, hw2⟩ : ∃ w2, w2 = w.alloc (.cells #[v] 69) := ⟨_, rfl⟩
  have e0 : w2.cell? ⟨w.heap.size, 0, none⟩ = some v := by rw [hw2]; simp
  have hz : w2.heap.size = w.heap.size + 1 := by rw [hw2]; simp
  have hb : RowKit.Below w.heap.size w w2 := by rw [hw2]; exact (Below.refl _ _).alloc (Nat.le_refl _) _
  rw [← hw2]
  have hb3 : RowKit.Below w2.heap.size w2 (mW 46 w2) := ((Below.refl _ _).alloc (Nat.le_refl _) _).alloc (by simp) _
  have bX := Boxed.new (w2.alloc (.cells #[jF 46] 76)) 25 (.slice none 0 0)
  rw [show (w2.alloc (.cells #[jF 46] 76)).heap.size = w2.heap.size + 1 by simp] at bX
  have hnp : ∀ j, ¬ Pts (mW 46 w2) (w2.heap.size + 1) j := fun j ⟨u, hu, hj⟩ => by rw [bX.cell] at hu; cases hu; cases hj
  refine (merge_any adjB 46 joinT_fn 65 _ (keysC t 32) w2 (enters_of Tryd.func65 (by kernel_rfl) rfl) (N := 32) (by decide)
    (keys_stops 4 (w2.heap.size + 1) w.heap.size b t v _ w (by decide) hc ((hb3.cell (p := ⟨w.heap.size, 0, none⟩) (by omega : w.heap.size < w2.heap.size)).trans e0)
      ht (hb.trans (hb3.mono (by omega))) (by omega) (by simp) (by simp; omega) (by omega) hnp)).mono ?_
  rintro x w' ⟨v', rfl, ho, hb4⟩
  have hbd := (mergeA_bnd (j := adjB) (keysC_ok t)).1
  rw [keysC_length] at hbd
  have hl : (mergeA adjB (keysC t 32)).toList.length = (mergeA adjB (keysC t 32)).size := by simp
  obtain ⟨l, lo, hlast⟩ := (swInv t 32).2.2 (by omega)
  have hne : 0 < (mergeA adjB (keysC t 32)).toList.length := by rw [hlast]; simp
  obtain ⟨M, hMe⟩ : ∃ M, M = mergeA adjB (keysC t 32) := ⟨_, rfl⟩
  rw [← hMe] at ho hbd hl hne ⊢
  obtain ⟨g, cp, rfl, hg, hc, hm⟩ := owns_form ho (by
    obtain ⟨n, hn⟩ : ∃ n, M.toList.length = n + 1 := ⟨M.toList.length - 1, by omega⟩
    unfold OwnsC at ho
    rw [hn] at ho
    exact owns_not_nil ho)
  exact ⟨g, cp, rfl, by omega, owns_row ho, by omega, hc, hm, hb.trans (hb4.mono (by omega))⟩
theorem filter_take {l : List CaseD} {k : Nat} (h : k < l.length) : (l.take (k + 1)).filter nzB = (l.take k).filter nzB ++ (if nzB l[k]! = true then [l[k]!] else []) := by
  rw [List.take_succ_eq_append_getElem h, List.filter_append, getElem!_pos l k h]
  by_cases hz : nzB l[k] = true <;> simp [hz]

set_option maxRecDepth 100000 in
set_option maxHeartbeats 4000000 in
theorem implSwitchOf_any (s : ByteArray) (w : World) (hV : VarsAt w) : Calls Tryd.prog 21 #[.string s] w (SwOf2 w.heap.size (treeS (ls s)) w) := by
  obtain ⟨i0, hi, hi0, hi1, hi2⟩ := info_parts infoC
  obtain ⟨wa, hwa⟩ : ∃ wa, wa = w.alloc (.cells #[.slice none 0 0, .int .i64 0] 35) := ⟨_, rfl⟩
  have hRX : BoxS wa w.heap.size (.slice none 0 0) 0 := by rw [hwa]; exact BoxS.new _ _ _
  have hba : RowKit.Below w.heap.size w wa := by rw [hwa]; exact (Below.refl _ _).alloc (Nat.le_refl _) _
  have HC := Lib.hid (implRead_any s wa (hV.keptN (grown_of_below hba)))
  have HA := Lib.hid hba
  have HWA := Lib.hid hwa
  have RXA := Lib.hid hRX
  have hz := hRX.lt
  clear hwa hba hRX hV
  cases ho : treeS (ls s) with
  | none =>
    rw [ho] at HC
    go_enter Tryd.func21, Tryd.ntmps21
    go_wp2_with fail
    rw [← HWA.out]
    refine HC.out.mono ?_
    rintro x w1 ⟨hx, hb⟩
    obtain rfl : x = .returned (.tuple #[.nilIface, .bool false]) := hx
    have RX1 := Lib.hid (RXA.out.kept (grown_of_below hb) (by simp))
    have HWB := Lib.hid (HA.out.trans (hb.mono (by omega)))
    have r0 := RX1.out.c0
    have r1 := RX1.out.c1
    have f0 := RX1.out.z 0
    have f1 := RX1.out.z 1
    clear hb
    go_wp2_with fail
    obtain ⟨q0, q1⟩ := two_cells r0 r1 (.slice none 0 0) (.int .i64 0)
    refine bodyPost_ret (v := .tuple #[.agg #[.slice none 0 0, .int .i64 0], .bool false]) (by simp [results, Tryd.results21, go_sem, q0, q1]) rfl ⟨_, rfl, ?_, (HWB.out.setCell (p := ⟨w.heap.size, 0, none⟩) (Nat.le_refl _) _).setCell (p := ⟨w.heap.size, 1, none⟩) (Nat.le_refl _) _⟩
    exact World.ownsRow_nil _ _ _ _
  | some t =>
    rw [ho] at HC
    have hct := treeS_count ho
    go_enter Tryd.func21, Tryd.ntmps21
    go_wp2_with fail
    rw [← HWA.out]
    refine HC.out.mono ?_
    rintro x w1 ⟨⟨v, rfl, ht⟩, hb⟩
    obtain ⟨T, u, rfl⟩ := ht.iface
    have RX1 := Lib.hid (RXA.out.kept (grown_of_below hb) (by simp))
    have HWB := Lib.hid (HA.out.trans (hb.mono (by omega)))
    have hz1 := hb.size
    have HT := Lib.hid ht
    clear hb ht
    obtain ⟨w2, hw2⟩ : ∃ w2, w2 = w1.alloc (.cells #[.slice none 0 0, .int .i64 0] 35) := ⟨_, rfl⟩
    have hSX : BoxS w2 w1.heap.size (.slice none 0 0) 0 := by rw [hw2]; exact BoxS.new _ _ _
    have hb2 : RowKit.Below w1.heap.size w1 w2 := by rw [hw2]; exact (Below.refl _ _).alloc (Nat.le_refl _) _
    have hz2 : w2.heap.size = w1.heap.size + 1 := by rw [hw2]; simp
    have HW2 := Lib.hid hw2
    have HSX := Lib.hid hSX
    have HB2 := Lib.hid hb2
    have HMK := Lib.hid (mergeKeys_any wa.heap.size t (.iface T u) w2 (by omega) (HT.out.below hb2))
    have hsi := sw_is t 32
    obtain ⟨M, hM⟩ : ∃ M, M = (mergeA adjB (keysC t 32)).toList := ⟨_, rfl⟩
    rw [← hM] at HMK hsi
    have HSI := Lib.hid hsi
    have HZ2 := Lib.hid hz2
    clear hw2 hSX hb2 hsi hM hz2
    go_wp2_with fail
    rw [← HW2.out]
    refine (keysIn_any T u w2).mono ?_
    rintro e w3 ⟨rfl, rfl⟩
    go_wp2_with fail
    refine HMK.out.mono ?_
    rintro e w4 ⟨g, cp, rfl, hg, hrow, h32, hcp, hm, hb4⟩
    have hz2 := HZ2.out
    have HROW := Lib.hid hrow
    have HB4 := Lib.hid hb4
    have SX4 := Lib.hid (HSX.out.kept (grown_of_below hb4) (by simp))
    have hz4 := hb4.size
    obtain ⟨n, hn⟩ : ∃ n, n = M.length := ⟨_, rfl⟩
    rw [← hn] at h32 hcp ⊢
    have HN := Lib.hid hn
    have hni : (n : Int) ≤ 32 := by omega
    have hcpi : (n : Int) ≤ (cp : Int) := by omega
    have hB14 : RowKit.Below w1.heap.size w1 w4 := HB2.out.trans (hb4.mono (by omega))
    have hz14 : w1.heap.size < w4.heap.size := by omega
    have hgS : w1.heap.size < g := by omega
    have HB14 := Lib.hid hB14
    clear hrow hb4 hn hz2 hB14
    go_wp2_with fail
    go_loopw [21] (fun i wr => ∃ (k : Nat) (v : Value), i = .int .i64 k ∧ k ≤ n ∧ Hid (BoxS wr w1.heap.size v 0) ∧ Hid (OwnsC w4.heap.size v ((M.take k).filter nzB) wr) ∧ Hid (RowC wr g 0 M.toArray) ∧ Hid (RowKit.Below w1.heap.size w1 wr) ∧ w4.heap.size ≤ wr.heap.size) (fun i _ => n - (intOf i).toNat)
    case atStart => exact ⟨0, _, rfl, Nat.zero_le _, SX4.out, World.ownsRow_nil _ _ _ _, HROW.out, HB14.out, Nat.le_refl _⟩
    case round =>
      obtain ⟨k, v, rfl, hk, HSk, HOk, HRk, HW, hw4⟩ := hrel
      have hgw : g < w4.heap.size := HROW.out.old
      by_cases hlt : k < n
      · have hkM : k < M.length := by have := HN.out; omega
        have hks : k < M.toArray.size := by simpa using hkM
        have e0 : M.toArray[k]! = M[k]! := by simp
        have x0 := HRk.out.low k hks
        have x1 := HRk.out.high k hks
        have x2 := HRk.out.target k hks
        have x3 := HRk.out.weight k hks
        rw [e0] at x0 x1 x2 x3
        have HFT := Lib.hid (filter_take hkM)
        obtain ⟨c, hc⟩ : ∃ c, c = M[k]! := ⟨_, rfl⟩
        rw [← hc] at x0 x1 x2 x3 HFT
        obtain ⟨lo, hi', tc, wt⟩ := c
        simp only [Nat.zero_add] at x0 x1 x2 x3
        have hki : (k : Int) < (n : Int) := by omega
        have hlen : ((M.take k).filter nzB).length ≤ 32 := by
          have h1 := List.length_filter_le nzB (M.take k)
          rw [List.length_take] at h1
          omega
        obtain ⟨L, hL⟩ : ∃ L, L = (M.take k).filter nzB := ⟨_, rfl⟩
        rw [← hL] at HFT HOk hlen
        have HTX := Lib.hid (fun W => text_any W)
        clear hkM hks e0 hc hL
        -- the loop variable's box
        obtain ⟨wb, hwb⟩ : ∃ wb, wb = wr.alloc (.cells #[.int .i64 lo, .int .i64 hi', .string tc, .int .i64 wt] 47) := ⟨_, rfl⟩
        have hbb : RowKit.Below wr.heap.size wr wb := by rw [hwb]; exact (Below.refl _ _).alloc (Nat.le_refl _) _
        have d0 : wb.cell? ⟨wr.heap.size, 0, none⟩ = some (.int .i64 lo) := by rw [hwb]; simp
        have d1 : wb.cell? ⟨wr.heap.size, 1, none⟩ = some (.int .i64 hi') := by rw [hwb]; simp
        have d2 : wb.cell? ⟨wr.heap.size, 2, none⟩ = some (.string tc) := by rw [hwb]; simp
        have d3 : wb.cell? ⟨wr.heap.size, 3, none⟩ = some (.int .i64 wt) := by rw [hwb]; simp
        have hzbl : wr.heap.size < wb.heap.size := by rw [hwb]; simp
        have HWBX := Lib.hid hwb
        have HBB := Lib.hid hbb
        clear hwb hbb
        go_wp2_with fail
        rw [← HWBX.out]
        obtain ⟨av, cv, rfl⟩ := row_slice HOk.out
        have HNZ := Lib.hid (show nzB ⟨lo, hi', tc, wt⟩ = !(tc.toList == zS.toList) from rfl)
        have hgb : ∀ q, (Value.slice av L.length cv).ownBlock = some q → q ≠ g := fun q hq => by have := (World.ownsRow.lt HOk.out q hq).1; omega
        have HGB := Lib.hid hgb
        have hz4r : w4.heap.size ≤ wb.heap.size := by omega
        clear hgb
        cases hq : (tc.toList == zS.toList)
        all_goals
          rw [hq] at HNZ
          have HQ := Lib.hid hq
          go_region_held3 (fun w' => w'.cell? ⟨wr.heap.size, 2, none⟩ = some (.string tc)) (first | exact d2 | exact Y2.out | go_keep) (first
            | (go_at_call 47; (with_reducible refine (HTX.out _).mono ?_); rintro _ w5 ⟨rfl, b5⟩; have hb5 : RowKit.Below wb.heap.size wb w5 := ⟨b5.os, b5.tape, b5.output, b5.size, b5.block⟩; have HB5 := Lib.hid hb5; have Y2 := Lib.hid ((hb5.cell (p := ⟨wr.heap.size, 2, none⟩) hzbl).trans d2); have y0 := (hb5.cell (p := ⟨wr.heap.size, 0, none⟩) hzbl).trans d0; have y1 := (hb5.cell (p := ⟨wr.heap.size, 1, none⟩) hzbl).trans d1; have y2 := (hb5.cell (p := ⟨wr.heap.size, 2, none⟩) hzbl).trans d2; have y3 := (hb5.cell (p := ⟨wr.heap.size, 3, none⟩) hzbl).trans d3; have hz5 := hb5.size; clear b5 hb5))
          have SX5 := Lib.hid ((HSk.out.kept (grown_of_below HBB.out) (by simp)).kept (grown_of_below HB5.out) (by simp))
          have O5 := Lib.hid (owns_below (owns_below HOk.out HBB.out) HB5.out)
          have R5 := Lib.hid ((HRk.out.below HBB.out).below HB5.out)
          have W5 := Lib.hid (HW.out.trans ((HBB.out.trans (HB5.out.mono (by omega))).mono (by omega : w1.heap.size ≤ wr.heap.size)))
          have b0 := SX5.out.c0
          have z0 := SX5.out.z 0
          have hz5w : w4.heap.size ≤ w5.heap.size := by omega
        · have HF2 := Lib.hid (show (M.take (k + 1)).filter nzB = L ++ [⟨lo, hi', tc, wt⟩] by rw [HFT.out, if_pos (by rw [HNZ.out]; rfl)])
          clear HFT HNZ hq d0 d1 d2 d3
          go_wp2_with (first
            | (at_builtin; refine wpList_append_at _ rfl (.tmp 30) (.tmp 32) 25 rfl w4.heap.size 47 i0 zeroC 4 40 Tryd.underlying25 hi hi0 hi1 hi2 rfl (by decide) _ _ _ rfl (World.ownsRow.alloc O5.out _) ⟨w5.heap.size, 0, none⟩ 1 1 (encC ⟨lo, hi', tc, wt⟩) rfl rfl ?c1 (encC_one _) (by unfold maxLen; omega) (by omega) (by simp; omega) (by decide) ?_)
            | fail)
          case c1 => exact cells_at rfl
          intro v1 w6 hown1 hgrow1 hat1
          rw [flatL_snoc] at hown1
          have HB6 := Lib.hid (below_append W5.out (by omega) hgrow1 O5.out (by omega))
          have BX6 := Lib.hid ((SX5.out.kept (row := none) (World.grownBy_alloc w5 (.cells #[.int .i64 lo, .int .i64 hi', .string tc, .int .i64 wt] 47) none) (by simp)).kept hgrow1 (Ne.symm (SX5.out.not_row O5.out)))
          have R6 := Lib.hid ((R5.out.kept (row := none) (World.grownBy_alloc w5 (.cells #[.int .i64 lo, .int .i64 hi', .string tc, .int .i64 wt] 47) none) (by simp)).kept hgrow1 (fun e => HGB.out g e.symm rfl))
          have hz6 : w5.heap.size + 1 ≤ w6.heap.size := by have := hgrow1.size; simpa using this
          have c6 := BX6.out.c0
          have f6 := BX6.out.z 0
          have HO6 := Lib.hid hown1
          obtain ⟨g1, cap1, rfl⟩ := ownsRow_succ hown1
          clear hown1 hgrow1 hat1 b0 z0
          go_wp2_with fail
          go_roundw
          case rel =>
            refine ⟨k + 1, _, by go_num, by omega, BX6.out.set _, ?_, R6.out.kept (grown_set w6 w1.heap.size 0 _) (by simp; omega), HB6.out.setCell (p := ⟨w1.heap.size, 0, none⟩) (Nat.le_refl _) _, by simp [World.setCell]; omega⟩
            show OwnsC _ _ _ _
            have h5 := fun u => World.ownsRow.kept HO6.out (grown_set w6 w1.heap.size 0 u) (.inr (BX6.out.not_row HO6.out))
            unfold OwnsC
            rw [HF2.out, List.length_append]
            simpa using h5 _
          case measure => simp [intOf]; omega
        · have HF2 := Lib.hid (show (M.take (k + 1)).filter nzB = L by rw [HFT.out, if_neg (by rw [HNZ.out]; decide), List.append_nil])
          clear HFT HNZ hq d0 d1 d2 d3
          go_wp2_with fail
          go_roundw
          case rel =>
            refine ⟨k + 1, _, by go_num, by omega, SX5.out, ?_, R5.out, W5.out, by omega⟩
            show OwnsC _ _ _ _
            rw [HF2.out]
            exact O5.out
          case measure => simp [intOf]; omega
      · have hke : k = n := by omega
        have HLE := Lib.hid (show (M.take k).filter nzB = swTo t 32 by rw [hke, HN.out, List.take_length, HSI.out])
        rw [HLE.out] at HOk
        obtain ⟨av, cv, rfl⟩ := row_slice HOk.out
        have b0 := HSk.out.c0
        have b1 := HSk.out.c1
        have RXr := Lib.hid (show BoxS wr w.heap.size (.slice none 0 0) 0 from (HW.out.block _ (by omega)).trans RX1.out)
        have r0 := RXr.out.c0
        have r1 := RXr.out.c1
        have f0 := RXr.out.z 0
        have f1 := RXr.out.z 1
        have hkn : ¬ (k : Int) < (n : Int) := by omega
        have hSl : w1.heap.size < wr.heap.size := by omega
        have hRl : w.heap.size < wr.heap.size := by omega
        have hlw := swTo_len t 32
        have HWr := Lib.hid (HWB.out.trans (HW.out.mono HWB.out.size))
        obtain ⟨L, hL⟩ : ∃ L, L = swTo t 32 := ⟨_, rfl⟩
        have HSN := Lib.hid (show swN (some t) = if L.length ≤ 8 then L else [] by rw [hL]; rfl)
        have HSK := Lib.hid (show swK (some t) = decide (L.length ≤ 8) by rw [hL]; rfl)
        rw [← hL] at HOk b0 hlw
        clear hke hL HLE
        by_cases h8 : L.length ≤ 8
        · have h8i : (L.length : Int) ≤ 8 := by omega
          go_wp2_with fail
          obtain ⟨q0, q1⟩ := two_cells r0 r1 (.slice av L.length cv) (.int .i64 0)
          have O1 := Lib.hid (World.ownsRow.kept (World.ownsRow.kept HOk.out (grown_set wr w.heap.size 0 (.slice av L.length cv)) (.inr (RXr.out.not_row HOk.out))) (grown_set _ w.heap.size 1 (.int .i64 0)) (.inr (RXr.out.not_row HOk.out)))
          refine bodyPost_ret (v := .tuple #[.agg #[.slice av L.length cv, .int .i64 0], .bool true]) (by simp [results, Tryd.results21, go_sem, q0, q1]) rfl ⟨_, retSw (by rw [HSK.out]; simp [h8]), ?_, (HWr.out.setCell (p := ⟨w.heap.size, 0, none⟩) (Nat.le_refl _) _).setCell (p := ⟨w.heap.size, 1, none⟩) (Nat.le_refl _) _⟩
          rw [HSN.out, if_pos h8]
          exact owns_base O1.out (by omega)
        · have h8i : (8 : Int) < (L.length : Int) := by omega
          go_wp2_with fail
          obtain ⟨q0, q1⟩ := two_cells r0 r1 (.slice none 0 0) (.int .i64 0)
          refine bodyPost_ret (v := .tuple #[.agg #[.slice none 0 0, .int .i64 0], .bool false]) (by simp [results, Tryd.results21, go_sem, q0, q1]) rfl ⟨_, retSw (by rw [HSK.out]; simp [h8]), ?_, (HWr.out.setCell (p := ⟨w.heap.size, 0, none⟩) (Nat.le_refl _) _).setCell (p := ⟨w.heap.size, 1, none⟩) (Nat.le_refl _) _⟩
          rw [HSN.out, if_neg h8]
          exact World.ownsRow_nil _ _ _ _
end Go.Proofs.YtndnbeijmhcepaaDoor
