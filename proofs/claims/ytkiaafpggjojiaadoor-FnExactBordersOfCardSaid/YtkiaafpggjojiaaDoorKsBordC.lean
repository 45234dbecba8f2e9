
/- BordersOf of the program: its segments put together by joinTargets, the lows of what comes. -/
import Derived.Test.YtkiaafpggjojiaaDoorKsMergeN
import Derived.Test.YtkiaafpggjojiaaDoorKsBordS
namespace Go.Proofs.YtkiaafpggjojiaaDoor
open Go.RowKit Go.Shelf Go.Lib Go.Sort

theorem joinT_fn : JoinFn adjB 72 := ⟨enters_of Tryd.func72 (by kernel_rfl) rfl, fun l x w hl hx => by
  obtain ⟨_, _, h1, h2, h3, h4, _⟩ := hl
  have := (okB_iff x).1 hx
  exact joinTargets_any l x w h1 h2 h3 (by omega) this.2.2.2.1 this.2.2.2.2.1⟩
/-- All segments of a valid switch that lies in memory, put together. -/
theorem mergeSegs_any (b off cap : Nat) (d : Array CaseD) (rest : Int) (w : World) (hR : RowC w b off d) (hok : SwOK d rest) :
    Calls Tryd.prog 70 #[.func (.func 96) #[] #[.pointer (some ⟨w.heap.size, 0, none⟩)], jF 72] (w.alloc (.cells #[.slice (some ⟨b, off, none⟩) d.size cap, .int .i64 rest] 34))
      fun x w' => ∃ g cp, x = .returned (.slice (some ⟨g, 0, none⟩) (mergeA adjB (segs d rest)).toList.length cp) ∧ RowC w' g 0 (mergeA adjB (segs d rest)).toList.toArray ∧ (mergeA adjB (segs d rest)).toList.length ≤ 17 ∧ (mergeA adjB (segs d rest)).toList.length ≤ cp ∧ cp ≤ maxLen ∧ RowKit.Below w.heap.size w w' := by
  obtain ⟨w2, hw2⟩ : ∃ w2, w2 = w.alloc (.cells #[.slice (some ⟨b, off, none⟩) d.size cap, .int .i64 rest] 34) := ⟨_, rfl⟩
  have e0 : w2.cell? ⟨w.heap.size, 0, none⟩ = some (.slice (some ⟨b, off, none⟩) d.size cap) := by rw [hw2]; simp
  have e1 : w2.cell? ⟨w.heap.size, 1, none⟩ = some (.int .i64 rest) := by rw [hw2]; simp
  have hz : w2.heap.size = w.heap.size + 1 := by rw [hw2]; simp
  have hb : RowKit.Below w.heap.size w w2 := by rw [hw2]; exact (Below.refl _ _).alloc (Nat.le_refl _) _
  rw [← hw2]
  have hb3 : RowKit.Below w2.heap.size w2 (mW 72 w2) := ((Below.refl _ _).alloc (Nat.le_refl _) _).alloc (by simp) _
  have bX := Boxed.new (w2.alloc (.cells #[jF 72] 88)) 32 (.slice none 0 0)
  rw [show (w2.alloc (.cells #[jF 72] 88)).heap.size = w2.heap.size + 1 by simp] at bX
  have hnp : ∀ j, ¬ Pts (mW 72 w2) (w2.heap.size + 1) j := fun j ⟨u, hu, hj⟩ => by rw [bX.cell] at hu; cases hu; cases hj
  have hold := hR.old
  refine (merge_any adjB 72 joinT_fn 96 _ (segs d rest) w2 (enters_of Tryd.func96 (by kernel_rfl) rfl)
    (segIn_stops 4 (w2.heap.size + 1) w.heap.size b off cap d rest _ (by decide) hok ((hb3.cell (p := ⟨w.heap.size, 0, none⟩) (by omega : w.heap.size < w2.heap.size)).trans e0) ((hb3.cell (p := ⟨w.heap.size, 1, none⟩) (by omega : w.heap.size < w2.heap.size)).trans e1)
      ((hR.below hb).below hb3) (by simp) (by simp; omega) (by omega) (by omega) hnp)).mono ?_
  rintro x w' ⟨v, rfl, ho, hb4⟩
  have hM := merged_is hok
  have hne := hM.ne
  have hbd := (mergeA_bnd (j := adjB) (segs_ok hok)).1
  have h17 := segs_length hok
  have hl : (mergeA adjB (segs d rest)).toList.length = (mergeA adjB (segs d rest)).size := by simp
  obtain ⟨M, hMe⟩ : ∃ M, M = mergeA adjB (segs d rest) := ⟨_, rfl⟩
  rw [← hMe] at ho hne hbd hl ⊢
  obtain ⟨g, cp, rfl, _, hc, hm⟩ := owns_form ho (by
    obtain ⟨n, hn⟩ : ∃ n, M.toList.length = n + 1 := ⟨M.size - 1, by omega⟩
    unfold OwnsC at ho
    rw [hn] at ho
    exact owns_not_nil ho)
  exact ⟨g, cp, rfl, owns_row ho, by omega, hc, hm, hb.trans (hb4.mono (by omega))⟩

set_option maxRecDepth 100000 in
set_option maxHeartbeats 2000000 in
theorem implBord_any (b off cap : Nat) (d : Array CaseD) (rest : Int) (w : World) (hR : RowC w b off d) (hE : ErrAt w) (hcap : d.size ≤ cap) (hmax : cap ≤ maxLen) :
    Calls Tryd.prog 38 #[.agg #[.slice (some ⟨b, off, none⟩) d.size cap, .int .i64 rest]] w (Bord2 w.heap.size d rest w) := by
  have hv := fun W (hW : RowKit.Below w.heap.size w W) => switchValid_any b off cap d rest W (hR.below hW) (hE.below hW) hcap hmax
  have HR := Lib.hid hR
  obtain ⟨i0, hi, hi0, hi1, hi2⟩ := info_parts infoN
  obtain ⟨wa, hwa⟩ : ∃ wa, wa = w.alloc (.cells #[.slice (some ⟨b, off, none⟩) d.size cap, .int .i64 rest] 34) := ⟨_, rfl⟩
  have c0 : wa.cell? ⟨w.heap.size, 0, none⟩ = some (.slice (some ⟨b, off, none⟩) d.size cap) := by rw [hwa]; simp
  have c1 : wa.cell? ⟨w.heap.size, 1, none⟩ = some (.int .i64 rest) := by rw [hwa]; simp
  have hz : w.heap.size < wa.heap.size := by rw [hwa]; simp
  have hba : RowKit.Below w.heap.size w wa := by rw [hwa]; exact (Below.refl _ _).alloc (Nat.le_refl _) _
  have HA := Lib.hid hba
  have C0 := Lib.hid c0
  have C1 := Lib.hid c1
  have HWA := Lib.hid hwa
  clear hba c0 c1 hwa hR hE
  cases hs : swB d rest
  all_goals
    simp only [hs] at hv
    have HV := Lib.hid hv
    have HS := Lib.hid hs
    clear hv hs
    go_enter Tryd.func38, Tryd.ntmps38
    go_wp2_with fail
    rw [← HWA.out]
    refine (HV.out _ HA.out).mono ?_
    rintro x w1 ⟨rfl, hb⟩
    have HB := Lib.hid hb
    have hz1 := hb.size
    have a0 := (hb.cell (p := ⟨w.heap.size, 0, none⟩) hz).trans C0.out
    have a1 := (hb.cell (p := ⟨w.heap.size, 1, none⟩) hz).trans C1.out
    have HWB := Lib.hid (HA.out.trans (HB.out.mono (by omega)))
    clear hb
    go_wp2_with fail
  · go_ret2
    refine ⟨_, ret2B HS.out.symm, ?_, HWB.out⟩
    rw [bordN_off HS.out]
    exact World.ownsRow_nil _ _ _ _
  · have hok := (swB_iff _ _).1 HS.out
    refine (segmentsIn_any (some ⟨b, off, none⟩) d.size cap rest _).mono ?_
    rintro e w2 ⟨rfl, rfl⟩
    go_wp2_with fail
    refine (mergeSegs_any b off cap d rest w1 (HR.out.below HWB.out) hok).mono ?_
    rintro e w3 ⟨g, cp, rfl, hrow, h17, hcp, hm, hb3⟩
    have hbi := borders_is hok
    have HWC := Lib.hid (HWB.out.trans (hb3.mono HWB.out.size))
    obtain ⟨M, hM⟩ : ∃ M, M = (mergeA adjB (segs d rest)).toList := ⟨_, rfl⟩
    rw [← hM] at hrow h17 hcp hbi ⊢
    have HROW := Lib.hid hrow
    have HBI := Lib.hid hbi
    obtain ⟨n, hn⟩ : ∃ n, n = M.length := ⟨_, rfl⟩
    rw [← hn] at h17 hcp ⊢
    have HN := Lib.hid hn
    clear hb3 hrow hbi hM hn hok a0 a1
    have hni : (n : Int) ≤ 17 := by omega
    have hcpi : (n : Int) ≤ (cp : Int) := by omega
    have hzw : w.heap.size ≤ w3.heap.size := HWC.out.size
    go_wp2_with fail
    go_loopw [4, 14] (fun v i wr => ∃ k : Nat, i = .int .i64 k ∧ k ≤ n ∧ Hid (OwnsN w3.heap.size v (lowsL (M.take k)) wr) ∧ Hid (RowKit.Below w3.heap.size w3 wr) ∧ w3.heap.size ≤ wr.heap.size) (fun _ i _ => n - (intOf i).toNat)
    case atStart => exact ⟨0, rfl, by omega, World.ownsRow_nil _ _ _ _, Below.refl _ _, Nat.le_refl _⟩
    case round =>
      obtain ⟨k, rfl, hk, HOk, HW, hw2⟩ := hrel
      by_cases hlt : k < n
      · have hr := HROW.out.below HW.out
        have hkM : k < M.length := by have := HN.out; omega
        have hks : k < M.toArray.size := by simpa using hkM
        have e0 : M.toArray[k]! = M[k]! := by simp
        have x0 := hr.low k hks
        have x1 := hr.high k hks
        have x2 := hr.target k hks
        have x3 := hr.weight k hks
        rw [e0] at x0 x1 x2 x3
        have HBT := Lib.hid (lowsL_take hkM)
        have hlen := lowsL_len (M.take k)
        have htk : (M.take k).length = k := by rw [List.length_take]; omega
        rw [htk] at hlen
        obtain ⟨c, hc⟩ : ∃ c, c = M[k]! := ⟨_, rfl⟩
        rw [← hc] at x0 x1 x2 x3 HBT
        obtain ⟨lo, hi', tc, wt⟩ := c
        simp only [Nat.zero_add] at x0 x1 x2 x3 HBT
        obtain ⟨L, hL⟩ : ∃ L, L = lowsL (M.take k) := ⟨_, rfl⟩
        rw [← hL] at HBT HOk hlen
        have hki : (k : Int) < (n : Int) := by omega
        clear hr hkM hks e0 htk hc hL
        by_cases h0 : 0 < lo
        · rw [if_pos h0] at HBT
          go_wp2_with (first
            | (at_builtin; refine wpList_append_at _ rfl (.tmp 21) (.tmp 24) 45 rfl w3.heap.size 3 i0 (.int .i64 0) 1 8 Tryd.underlying45 hi hi0 hi1 hi2 rfl (by decide) _ _ _ rfl (World.ownsRow.alloc (World.ownsRow.alloc HOk.out _) _) ⟨wr.heap.size + 1, 0, none⟩ 1 1 [.int .i64 lo] rfl rfl ?c1 (one_cell1 _) (by unfold maxLen; omega) (by omega) (by simp; omega) (by decide) ?_)
            | fail)
          case c1 => exact cell_at1 (by simp)
          intro v1 w4 hown1 hgrow1 hat1
          have HB2 := Lib.hid (below_append (HW.out.alloc hw2 (.cells #[.int .i64 lo, .int .i64 hi', .string tc, .int .i64 wt] 81)) (by simp; omega) hgrow1 (World.ownsRow.alloc HOk.out _) (Nat.le_refl _))
          have hz2 : wr.heap.size + 2 ≤ w4.heap.size := by have := hgrow1.size; simpa using this
          have HO2 := Lib.hid hown1
          clear hown1 hgrow1 hat1
          go_wp2_with fail
          go_roundw
          case rel =>
            refine ⟨k + 1, by go_num, by omega, ?_, HB2.out, by omega⟩
            show OwnsN _ _ _ _
            rw [HBT.out]
            unfold OwnsN
            simpa using HO2.out
          case measure => simp [intOf]; omega
        · rw [if_neg h0] at HBT
          have h0' : lo ≤ 0 := by omega
          go_wp2_with fail
          go_roundw
          case rel =>
            refine ⟨k + 1, by go_num, by omega, ?_, HW.out.alloc hw2 _, by simp; omega⟩
            show OwnsN _ _ _ _
            rw [HBT.out, List.append_nil]
            exact World.ownsRow.alloc HOk.out _
          case measure => simp [intOf]; omega
      · have hke : k = n := by omega
        have HLE := Lib.hid (show lowsL (M.take k) = bordN d rest by rw [hke, HN.out, List.take_length, HBI.out, bordN_on HS.out])
        clear hke
        go_wp2_with fail
        go_ret2
        refine ⟨_, ret2B HS.out.symm, ?_, HWC.out.trans (HW.out.mono hzw)⟩
        rw [← HLE.out]
        exact owns_base HOk.out hzw
end Go.Proofs.YtkiaafpggjojiaaDoor
