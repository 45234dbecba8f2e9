
/- TreeCost of the program. -/
import Derived.Test.YtkiaafpggjojiaaDoorKsTreeZ
import Derived.Test.YtkiaafpggjojiaaDoorKsGaps
namespace Go.Proofs.YtkiaafpggjojiaaDoor
open Go.RowKit Go.Shelf Go.Lib Go.Sort

attribute [local go_sem] Oper.semAt_some

set_option maxRecDepth 100000 in
set_option maxHeartbeats 2000000 in
theorem implCost4_any (b off cap : Nat) (d : Array CaseD) (rest : Int) (s : ByteArray) (w : World) (hR : RowC w b off d) (hE : ErrAt w) (hV : VarsAt w) (hcap : d.size ≤ cap) (hmax : cap ≤ maxLen) :
    Calls Tryd.prog 25 #[.agg #[.slice (some ⟨b, off, none⟩) d.size cap, .int .i64 rest], .string s] w fun x w' => x = .returned (.int .i64 (costO (treeS (ls s)) d rest)) ∧ RowKit.Below w.heap.size w w' := by
  have hv := fun W (hW : RowKit.Below w.heap.size w W) => switchValid_any b off cap d rest W (hR.below hW) (hE.below hW) hcap hmax
  have HR := Lib.hid hR
  obtain ⟨wa, hwa⟩ : ∃ wa, wa = w.alloc (.cells #[.slice (some ⟨b, off, none⟩) d.size cap, .int .i64 rest] 34) := ⟨_, rfl⟩
  have c0 : wa.cell? ⟨w.heap.size, 0, none⟩ = some (.slice (some ⟨b, off, none⟩) d.size cap) := by rw [hwa]; simp
  have c1 : wa.cell? ⟨w.heap.size, 1, none⟩ = some (.int .i64 rest) := by rw [hwa]; simp
  have hz : wa.heap.size = w.heap.size + 1 := by rw [hwa]; simp
  have hba : RowKit.Below w.heap.size w wa := by rw [hwa]; exact (Below.refl _ _).alloc (Nat.le_refl _) _
  have hz0 : w.heap.size < wa.heap.size := by omega
  have HC := Lib.hid (fun W (hW : VarsAt W) => implRead_any s W hW)
  have HVA := Lib.hid (hV.keptN (grown_of_belowT hba none))
  have HA := Lib.hid hba
  have C0 := Lib.hid c0
  have C1 := Lib.hid c1
  have HWA := Lib.hid hwa
  clear hba c0 c1 hwa hR hE hV
  refine (callsIn_wide (n := 5)).1 ?_
  cases ho : treeS (ls s) with
  | none =>
    rw [ho] at HC
    refine callsIn_of_wp_marks Tryd.func25 rfl trivial ?_ rfl
    simp only [Tryd.ntmps25, List.size_toArray, List.length_cons, List.length_nil, Nat.reduceAdd, Nat.reduceSub, Array.replicate_succ, Array.replicate_zero, List.push_toArray, List.append_toArray, List.nil_append, List.cons_append]
    gi_wp2_with fail
    rw [← HWA.out]
    refine ⟨trivial, ?_⟩
    refine (callsIn_wide.2 (HC.out _ HVA.out)).mono ?_
    rintro x w1 ⟨hx, hb⟩
    obtain rfl : x = .returned (.tuple #[.nilIface, .bool false]) := hx
    have HB := Lib.hid (HA.out.trans (hb.mono HA.out.size))
    clear hb
    gi_wp2_with fail
    refine ⟨trivial, ?_⟩
    gi_wp2_with fail
    refine ⟨_, results_tmp rfl _ _ _, rfl, HB.out.alloc HB.out.size _⟩
  | some t =>
    rw [ho] at HC
    have hct := treeS_count ho
    cases hs : swB d rest
    all_goals
      simp only [hs] at hv
      have HV := Lib.hid hv
      have HS := Lib.hid hs
      clear hv hs
      refine callsIn_of_wp_marks Tryd.func25 rfl trivial ?_ rfl
      simp only [Tryd.ntmps25, List.size_toArray, List.length_cons, List.length_nil, Nat.reduceAdd, Nat.reduceSub, Array.replicate_succ, Array.replicate_zero, List.push_toArray, List.append_toArray, List.nil_append, List.cons_append]
      gi_wp2_with fail
      rw [← HWA.out]
      refine ⟨trivial, ?_⟩
      refine (callsIn_wide.2 (HC.out _ HVA.out)).mono ?_
      rintro x w1 ⟨⟨v, rfl, ht⟩, hb⟩
      obtain ⟨T, u, rfl⟩ := ht.iface
      have hz1 : w.heap.size < w1.heap.size := Nat.lt_of_lt_of_le (by omega) hb.size
      have a0 := (hb.cell (p := ⟨w.heap.size, 0, none⟩) hz0).trans C0.out
      have a1 := (hb.cell (p := ⟨w.heap.size, 1, none⟩) hz0).trans C1.out
      obtain ⟨w2, hw2⟩ : ∃ w2, w2 = w1.alloc (.cells #[.iface T u] 61) := ⟨_, rfl⟩
      have hba : Below w1.heap.size w1 w2 := by rw [hw2]; exact (Below.refl _ _).alloc (Nat.le_refl _) _
      have RX : Boxed w2 w1.heap.size 61 (.iface T u) := by rw [hw2]; exact Boxed.new _ _ _
      have HB := Lib.hid (HA.out.trans ((hb.trans (hba.mono hb.size)).mono HA.out.size))
      have HT := Lib.hid (ht.below hba)
      have HRX := Lib.hid RX
      have b0 := (hba.cell (p := ⟨w.heap.size, 0, none⟩) hz1).trans a0
      have b1 := (hba.cell (p := ⟨w.heap.size, 1, none⟩) hz1).trans a1
      have B0 := Lib.hid b0
      have B1 := Lib.hid b1
      have hz2 : w.heap.size < w2.heap.size := Nat.lt_of_lt_of_le hz1 hba.size
      rw [hw2] at b0 b1
      have HW2 := Lib.hid hw2
      clear hb ht hba RX hw2
      gi_wp2_with fail
      rw [← HW2.out]
      refine ⟨trivial, ?_⟩
      refine (callsIn_wide.2 (HV.out _ HB.out)).mono ?_
      rintro x w3 ⟨rfl, hb3⟩
      have HWB := Lib.hid (HB.out.trans (hb3.mono HB.out.size))
      have HT3 := Lib.hid (HT.out.below hb3)
      have r3 := (hb3.cell (p := ⟨w1.heap.size, 0, none⟩) HRX.out.lt).trans HRX.out.cell
      have hr3 : w1.heap.size < w3.heap.size := Nat.lt_of_lt_of_le HRX.out.lt hb3.size
      have a0 := (hb3.cell (p := ⟨w.heap.size, 0, none⟩) hz2).trans B0.out
      have a1 := (hb3.cell (p := ⟨w.heap.size, 1, none⟩) hz2).trans B1.out
      have hwz : w.heap.size < w3.heap.size := Nat.lt_of_lt_of_le hz2 hb3.size
      clear hb3 b0 b1
      gi_wp2_with fail
    · refine ⟨_, results_tmp rfl _ _ _, ?_, HWB.out⟩
      exact retI (a := -1) (by simp [costO, HS.out])
    · have HO := Lib.hid ((swB_iff _ _).1 HS.out)
      refine ⟨trivial, ?_⟩
      refine (callsIn_wide.2 (segmentsIn_any (some ⟨b, off, none⟩) d.size cap rest _)).mono ?_
      rintro e w4 ⟨rfl, rfl⟩
      gi_wp2_with fail
      have bX := (Boxed.new w3 3 (.int .i64 0)).alloc (.cells #[.slice (some ⟨b, off, none⟩) d.size cap, .int .i64 rest] 34)
      obtain ⟨W0, hW0⟩ : ∃ W0, W0 = (w3.alloc (.cells #[.int .i64 0] 3)).alloc (.cells #[.slice (some ⟨b, off, none⟩) d.size cap, .int .i64 rest] 34) := ⟨_, rfl⟩
      have e0 : W0.cell? ⟨w3.heap.size + 1, 0, none⟩ = some (.slice (some ⟨b, off, none⟩) d.size cap) := by rw [hW0]; simp [go_sem]
      have e1 : W0.cell? ⟨w3.heap.size + 1, 1, none⟩ = some (.int .i64 rest) := by rw [hW0]; simp [go_sem]
      have hsz : W0.heap.size = w3.heap.size + 2 := by rw [hW0]; simp
      have hB0 : RowKit.Below w3.heap.size w3 W0 := by rw [hW0]; exact ((Below.refl _ _).alloc (Nat.le_refl _) _).alloc (by simp) _
      rw [← hW0] at bX ⊢
      clear hW0
      have hRW := HR.out.below (HWB.out.trans (hB0.mono (by omega)))
      have hbl : b < w3.heap.size := (HR.out.below HWB.out).old
      have hnp : ∀ j, ¬ Pts W0 w3.heap.size j := fun j ⟨u, hu, hj⟩ => by rw [bX.cell] at hu; cases hu; cases hj
      have hx0 : w3.heap.size < W0.heap.size := by omega
      have hseq := segIn_stops 4 w3.heap.size (w3.heap.size + 1) b off cap d rest W0 (by decide) HO.out e0 e1 hRW hx0 (by omega) (by omega) (by omega) hnp
      have HSEQ := Lib.hid hseq
      have HB0 := Lib.hid hB0
      clear hseq hRW hnp e0 e1 hB0
      refine wpIn_rangeFunc_ownH rfl (by decide) (gf := 96) (lb := #[.pointer (some ⟨w3.heap.size + 1, 0, none⟩)]) rfl trivial (enters_of Tryd.func96 (by kernel_rfl) rfl)
        HSEQ.out KpX.trans (kpX_b hx0) (Below.refl _ _) (fun _ => rfl)
        (fun pre W => Boxed W w3.heap.size 3 (.int .i64 (costT t (vals pre))) ∧ RowKit.Below w3.heap.size w3 W)
        (fun _ _ _ => False)
        (OwnFrom.and (Own.from (boxed_own _ _ _) _) (ownFrom_below (Nat.le_refl _) (by omega)))
        (fun _ _ _ _ _ hs _ _ => hs)
        ⟨bX, HB0.out⟩
        (fun x a' W => ∃ Bx, w3.heap.size < Bx ∧ Box4 W Bx x.1 ∧ a' = { tmps := #[.agg #[.slice (some ⟨b, off, none⟩) d.size cap, .int .i64 rest], .string s, .pointer (some ⟨w.heap.size, 0, none⟩), undef, .int .i64 0, .pointer (some ⟨w1.heap.size, 0, none⟩), .bool true, .pointer (some ⟨w3.heap.size, 0, none⟩), .pointer (some ⟨Bx, 0, none⟩), undef, undef, .tuple #[.iface T u, .bool true], .string s, .tuple #[.iface T u, .bool true], .iface T u, .bool true, .bool true, .bool false, .bool false, .agg #[.slice (some ⟨b, off, none⟩) d.size cap, .int .i64 rest], .bool true, .bool false, .bool false, .agg #[.slice (some ⟨b, off, none⟩) d.size cap, .int .i64 rest], .func (.func 96) #[] #[.pointer (some ⟨w3.heap.size + 1, 0, none⟩)], .agg #[.int .i64 x.1.low, .int .i64 x.1.high, .string x.1.target, .int .i64 x.1.weight], undef, undef, undef, undef, undef, undef, undef, undef, undef, undef, undef, undef, undef, undef], defers := [] })
        (fun x a' _ X Y row hs hg hr => by obtain ⟨Bx, h1, h2, h3⟩ := hs; exact ⟨Bx, h1, box4_own Bx x.1 () X Y row h2 hg (fun r e => (hr r e).2), h3⟩)
        ?assign ?body ?done ?stop
      case assign =>
        rintro l pre x W K ⟨bX1, hB1⟩ hK
        gi_wp2
        exact hK _ _ ((KeepsOthers.alloc _ _).from _) (KpX.alloc bX1.lt _) ⟨bX1.alloc _, hB1.alloc hB1.size _⟩ ⟨W.heap.size, bX1.lt, Box4.new W x.1, rfl⟩
      case body =>
        rintro l pre x a' W hl ⟨r, hr⟩ ⟨bX1, hB1⟩ ⟨Bx, hBx, b4, rfl⟩ hlt
        have hmx : Tryd.prog.follows .mixedOrders = true := by kernel_rfl
        have hBxl := b4.lt
        have d0 := b4.cells.1
        have d3 := b4.cells.2.2.2
        have hxo := (okB_iff _).1 x.2
        have hcz := costT_bound hct (vals pre) (vals_ok pre)
        have hvl : (vals pre).length = pre.length := by simp [vals]
        have hab := addT_bound hct x.2
        have hsn := costT_snoc t (vals pre) x.1
        rw [← vals_snoc] at hsn
        obtain ⟨c0, hc0⟩ : ∃ c0, c0 = costT t (vals pre) := ⟨_, rfl⟩
        rw [← hc0] at hsn hcz bX1
        have hc00 : 0 ≤ c0 := hcz.1
        have hc01 : c0 ≤ 336600 := by have := hcz.2; omega
        simp only [addT] at hab hsn
        obtain ⟨lo, hlo⟩ : ∃ lo, lo = x.1.low := ⟨_, rfl⟩
        obtain ⟨wt, hwt⟩ : ∃ wt, wt = x.1.weight := ⟨_, rfl⟩
        rw [← hlo] at d0 hab hsn hxo
        rw [← hwt] at d3 hab hsn hxo
        have hst : ((trT t lo).2 : Int) ≤ 200 := by have := run_depth t lo; have := (count_text t).2; omega
        have HF := Lib.hid (find_any lo t (by omega) wa.heap.size W (.iface T u) (HT3.out.below hB1))
        obtain ⟨out, hout⟩ : ∃ out, out = (trT t lo).1 := ⟨_, rfl⟩
        obtain ⟨st, hstt⟩ : ∃ st, st = (trT t lo).2 := ⟨_, rfl⟩
        rw [← hout, ← hstt] at HF
        rw [← hstt] at hst hab hsn
        have hwt0 : 0 ≤ wt := hxo.2.2.2.1
        have hwt1 : wt ≤ 99 := hxo.2.2.2.2.1
        have hab0 := hab.1
        have hab1 := hab.2
        have q3 := (hB1.cell (p := ⟨w1.heap.size, 0, none⟩) hr3).trans r3
        have HSN := Lib.hid hsn
        have cX := bX1.cell
        have fX := bX1.frozen
        have hXl := bX1.lt
        have BX1 := Lib.hid bX1
        have HB1 := Lib.hid hB1
        clear hsn hc0 hlo hwt hout hstt hxo hcz hvl hab bX1 hB1 hr b4
        gi_wp2_with fail
        refine ⟨trivial, ?_⟩
        refine (CallsIn.inRound l (callsIn_wide.2 HF.out)).mono ?_
        rintro e w' ⟨rfl, rfl⟩
        gi_wp2
        exact ⟨(KeepsOthers.setCell _ _ _).from _, KpX.set BX1.out _ rfl, by rw [HSN.out]; exact BX1.out.set _, HB1.out.setCell (p := ⟨w3.heap.size, 0, none⟩) (Nat.le_refl _) _⟩
      case done =>
        rintro D ys W hD hv ⟨bX1, hB1⟩ hK
        have cX := bX1.cell
        gi_wp2
        refine ⟨by simp, .inl ⟨_, _, rfl, run_takeDeferred hK, ?_⟩⟩
        refine ⟨_, results_tmp rfl _ _ _, ?_, ?_⟩
        · exact retI (a := costT t (segs d rest)) (b := costO (some t) d rest) (by simp [costO, HS.out])
        · exact HWB.out.trans ((hB1.trans (belowK_b (w := w3) (Nat.le_refl _) W D _ _ (by omega) hK rfl rfl)).mono (by omega))
      case stop =>
        rintro D c pre W _ _ h _
        exact h.elim
end Go.Proofs.YtkiaafpggjojiaaDoor
