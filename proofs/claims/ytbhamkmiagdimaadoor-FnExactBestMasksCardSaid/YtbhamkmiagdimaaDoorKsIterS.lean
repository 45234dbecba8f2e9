
/- The segments of a valid switch, yielded: gap, segmentsIn, and what its closure promises to every loop over it. · The segments of a valid switch, yielded: what the closure of segmentsIn promises to every loop over it. -/
import Derived.Test.YtbhamkmiagdimaaDoorKsKeep
import Derived.Test.YtbhamkmiagdimaaDoorKsSegP
import Derived.Test.YtbhamkmiagdimaaDoorKsCopy
namespace Go.Proofs.YtbhamkmiagdimaaDoor
open Go.RowKit Go.Shelf Go.Lib Go.Sort

/-- Four stores, one behind the other, into the cells of a struct. -/
theorem four_cells {w : World} {g : Nat} {u0 u1 u2 u3 : Value} (h0 : w.cell? ⟨g, 0, none⟩ = some u0) (h1 : w.cell? ⟨g, 1, none⟩ = some u1) (h2 : w.cell? ⟨g, 2, none⟩ = some u2) (h3 : w.cell? ⟨g, 3, none⟩ = some u3) (v0 v1 v2 v3 : Value) :
    ((((w.setCell ⟨g, 0, none⟩ v0).setCell ⟨g, 1, none⟩ v1).setCell ⟨g, 2, none⟩ v2).setCell ⟨g, 3, none⟩ v3).cell? ⟨g, 0, none⟩ = some v0 ∧
    ((((w.setCell ⟨g, 0, none⟩ v0).setCell ⟨g, 1, none⟩ v1).setCell ⟨g, 2, none⟩ v2).setCell ⟨g, 3, none⟩ v3).cell? ⟨g, 1, none⟩ = some v1 ∧
    ((((w.setCell ⟨g, 0, none⟩ v0).setCell ⟨g, 1, none⟩ v1).setCell ⟨g, 2, none⟩ v2).setCell ⟨g, 3, none⟩ v3).cell? ⟨g, 2, none⟩ = some v2 ∧
    ((((w.setCell ⟨g, 0, none⟩ v0).setCell ⟨g, 1, none⟩ v1).setCell ⟨g, 2, none⟩ v2).setCell ⟨g, 3, none⟩ v3).cell? ⟨g, 3, none⟩ = some v3 := by
  have o1 : ∀ (W : World) (x y : Nat) (v : Value), x ≠ y → (W.setCell ⟨g, x, none⟩ v).cell? ⟨g, y, none⟩ = W.cell? ⟨g, y, none⟩ := fun W x y v h => World.cell?_setCell_other _ _ _ _ (fun e => h (by cases e; rfl))
  have e0 := World.cell?_setCell_same w ⟨g, 0, none⟩ v0 h0
  have e1 := World.cell?_setCell_same (w.setCell ⟨g, 0, none⟩ v0) ⟨g, 1, none⟩ v1 ((o1 _ 0 1 _ (by decide)).trans h1)
  have e2 := World.cell?_setCell_same ((w.setCell ⟨g, 0, none⟩ v0).setCell ⟨g, 1, none⟩ v1) ⟨g, 2, none⟩ v2 ((o1 _ 1 2 _ (by decide)).trans ((o1 _ 0 2 _ (by decide)).trans h2))
  have e3 := World.cell?_setCell_same (((w.setCell ⟨g, 0, none⟩ v0).setCell ⟨g, 1, none⟩ v1).setCell ⟨g, 2, none⟩ v2) ⟨g, 3, none⟩ v3 ((o1 _ 2 3 _ (by decide)).trans ((o1 _ 1 3 _ (by decide)).trans ((o1 _ 0 3 _ (by decide)).trans h3)))
  exact ⟨(o1 _ 3 0 _ (by decide)).trans ((o1 _ 2 0 _ (by decide)).trans ((o1 _ 1 0 _ (by decide)).trans e0)), (o1 _ 3 1 _ (by decide)).trans ((o1 _ 2 1 _ (by decide)).trans e1), (o1 _ 3 2 _ (by decide)).trans e2, e3⟩

set_option maxRecDepth 100000 in
set_option maxHeartbeats 1000000 in
theorem gap_any (a : Option Addr) (len cap : Nat) (rest lo hi : Int) (w : World) :
    Calls Tryd.prog 110 #[.agg #[.slice a len cap, .int .i64 rest], .int .i64 lo, .int .i64 hi] w fun x w' => x = .returned (aggC (gapC rest lo hi)) ∧ RowKit.Below w.heap.size w w' := by
  unfold aggC gapC
  go_enter Tryd.func110, Tryd.ntmps110
  go_wp2
  obtain ⟨wa, hwa⟩ : ∃ wa, wa = (w.alloc (.cells #[.slice a len cap, .int .i64 rest] 32)).alloc (.cells #[.int .i64 0, .int .i64 0, .string ⟨#[]⟩, .int .i64 0] 89) := ⟨_, rfl⟩
  have c1 : wa.cell? ⟨w.heap.size, 1, none⟩ = some (.int .i64 rest) := by rw [hwa]; simp [go_sem]
  have d0 : wa.cell? ⟨w.heap.size + 1, 0, none⟩ = some (.int .i64 0) := by rw [hwa]; simp [go_sem]
  have d1 : wa.cell? ⟨w.heap.size + 1, 1, none⟩ = some (.int .i64 0) := by rw [hwa]; simp [go_sem]
  have d2 : wa.cell? ⟨w.heap.size + 1, 2, none⟩ = some (.string ⟨#[]⟩) := by rw [hwa]; simp [go_sem]
  have d3 : wa.cell? ⟨w.heap.size + 1, 3, none⟩ = some (.int .i64 0) := by rw [hwa]; simp [go_sem]
  have f0 : ∀ j, wa.frozen? ⟨w.heap.size + 1, j, none⟩ = false := fun j => by rw [hwa]; simp [go_sem]
  have hz : wa.heap.size = w.heap.size + 2 := by rw [hwa]; simp
  have hba : RowKit.Below w.heap.size w wa := by rw [hwa]; exact ((Below.refl _ _).alloc (Nat.le_refl _) _).alloc (by simp) _
  rw [← hwa]
  have HBA := Lib.hid hba
  have F0 := Lib.hid f0
  clear hwa hba f0
  have hcall := Lib.hid (fun W => text_any W)
  go_region_with (go_at_call 59; refine (hcall.out _).mono ?_; rintro x w1 ⟨rfl, hb⟩; have HB := Lib.hid hb; have hzd : w.heap.size + 1 < (wa.drew).heap.size := (by simp [hz]); have e1 := (hb.cell (p := ⟨w.heap.size, 1, none⟩) (Nat.lt_of_succ_lt hzd)).trans c1; have g0 := (hb.cell (p := ⟨w.heap.size + 1, 0, none⟩) hzd).trans d0; have g1 := (hb.cell (p := ⟨w.heap.size + 1, 1, none⟩) hzd).trans d1; have g2 := (hb.cell (p := ⟨w.heap.size + 1, 2, none⟩) hzd).trans d2; have g3 := (hb.cell (p := ⟨w.heap.size + 1, 3, none⟩) hzd).trans d3; have k0 := (hb.frozen (p := ⟨w.heap.size + 1, 0, none⟩) hzd).trans (F0.out 0); have k1 := (hb.frozen (p := ⟨w.heap.size + 1, 1, none⟩) hzd).trans (F0.out 1); have k2 := (hb.frozen (p := ⟨w.heap.size + 1, 2, none⟩) hzd).trans (F0.out 2); have k3 := (hb.frozen (p := ⟨w.heap.size + 1, 3, none⟩) hzd).trans (F0.out 3); clear hb)
  all_goals
    go_wp2
    obtain ⟨z0, z1, z2, z3⟩ := four_cells g0 g1 g2 g3 (.int .i64 lo) (.int .i64 hi) (.string zS) (.int .i64 rest)
    have hb1 := HBA.out.trans (((Below.refl wa.heap.size wa).drew.trans HB.out).mono HBA.out.size)
    have hbz := (((hb1.setCell (p := ⟨w.heap.size + 1, 0, none⟩) (by simp) (.int .i64 lo)).setCell (p := ⟨w.heap.size + 1, 1, none⟩) (by simp) (.int .i64 hi)).setCell (p := ⟨w.heap.size + 1, 2, none⟩) (by simp) (.string zS)).setCell (p := ⟨w.heap.size + 1, 3, none⟩) (by simp) (.int .i64 rest)
    have HBZ := Lib.hid hbz
    clear hbz hb1
    generalize (((w1.setCell ⟨w.heap.size + 1, 0, none⟩ (.int .i64 lo)).setCell ⟨w.heap.size + 1, 1, none⟩ (.int .i64 hi)).setCell ⟨w.heap.size + 1, 2, none⟩ (.string zS)).setCell ⟨w.heap.size + 1, 3, none⟩ (.int .i64 rest) = wz at z0 z1 z2 z3 HBZ ⊢
    refine bodyPost_ret (v := .agg #[.int .i64 lo, .int .i64 hi, .string zS, .int .i64 rest]) (by simp [results, Tryd.results110, go_sem, z0, z1, z2, z3]) rfl ⟨rfl, HBZ.out⟩
end Go.Proofs.YtbhamkmiagdimaaDoor

namespace Go.Proofs.YtbhamkmiagdimaaDoor
open Go.RowKit Go.Shelf Go.Lib Go.Sort

attribute [local go_sem] Oper.semAt_some

abbrev SegD := { c : CaseD // okB c = true }
def encs (x : SegD) : Array Value := #[aggC x.1]
def vals (l : List SegD) : List CaseD := l.map (·.1)
theorem vals_snoc (l : List SegD) (x : SegD) : vals (l ++ [x]) = vals l ++ [x.1] := by simp [vals]
theorem vals_ok (l : List SegD) : ∀ c ∈ vals l, okB c = true := fun c hc => by
  simp only [vals, List.mem_map] at hc
  obtain ⟨x, _, rfl⟩ := hc
  exact x.2

theorem cell_cells {W : World} {b o : Nat} {v : Value} (h : W.cell? ⟨b, o, none⟩ = some v) : ∃ q, W.heap[b]? = some q ∧ q.isCells = true := by
  unfold World.cell? at h
  simp only at h
  split at h
  · rename_i c e f hb
    exact ⟨_, hb, rfl⟩
  · simp at h

theorem KpX.cell {X : Nat} {W W' : World} (h : KpX X W W') {b o : Nat} {v : Value} (hX : b ≠ X) (hp : ¬ Pts W X b) (hc : W.cell? ⟨b, o, none⟩ = some v) : W'.cell? ⟨b, o, none⟩ = some v := by
  obtain ⟨q, hq, hcells⟩ := cell_cells hc
  have := h.keep b q hq hcells hX hp
  rw [World.cell?_of_block (w := W) (a := ⟨b, o, none⟩) (this.trans hq.symm)]
  exact hc
theorem KpX.row {X : Nat} {W W' : World} (h : KpX X W W') {b off : Nat} {d : Array CaseD} (hX : b ≠ X) (hp : ¬ Pts W X b) (hR : RowC W b off d) : RowC W' b off d :=
  ⟨Nat.lt_of_lt_of_le hR.old h.size, fun j hj => h.cell hX hp (hR.low j hj), fun j hj => h.cell hX hp (hR.high j hj), fun j hj => h.cell hX hp (hR.target j hj), fun j hj => h.cell hX hp (hR.weight j hj)⟩

/-- What the iterator reads between two rounds: its box, the cases; the loop's own row lies in a younger block. -/
structure ItAt (n₀ X B b off cap : Nat) (d : Array CaseD) (rest : Int) (W : World) : Prop where
  c0 : W.cell? ⟨B, 0, none⟩ = some (.slice (some ⟨b, off, none⟩) d.size cap)
  c1 : W.cell? ⟨B, 1, none⟩ = some (.int .i64 rest)
  row : RowC W b off d
  size : n₀ ≤ W.heap.size
  Xlt : X < n₀
  Blt : B < n₀
  blt : b < n₀
  XB : X ≠ B
  Xb : X ≠ b
  pts : ∀ j, Pts W X j → n₀ ≤ j ∧ j < W.heap.size

section
variable {n₀ X B b off cap : Nat} {d : Array CaseD} {rest : Int} {W W' : World}
theorem ItAt.kp (h : ItAt n₀ X B b off cap d rest W) (k : KpX X W W') : ItAt n₀ X B b off cap d rest W' := by
  have pB : ¬ Pts W X B := fun hp => by have := (h.pts B hp).1; have := h.Blt; omega
  have pb : ¬ Pts W X b := fun hp => by have := (h.pts b hp).1; have := h.blt; omega
  refine ⟨k.cell h.XB.symm pB h.c0, k.cell h.XB.symm pB h.c1, k.row h.Xb.symm pb h.row, Nat.le_trans h.size k.size, h.Xlt, h.Blt, h.blt, h.XB, h.Xb, fun j hj => ?_⟩
  refine ⟨?_, k.lt (fun i hi => (h.pts i hi).2) j hj⟩
  rcases k.pts j hj with h1 | h1
  · exact (h.pts j h1).1
  · exact Nat.le_trans h.size h1
theorem ItAt.below (h : ItAt n₀ X B b off cap d rest W) (k : RowKit.Below W.heap.size W W') : ItAt n₀ X B b off cap d rest W' := by
  have hs := h.size
  have hx := h.Xlt
  exact h.kp (KpX.of_below (by omega) k)
/-- A block that the iterator has laid itself is none of the loop's. -/
theorem ItAt.own (h : ItAt n₀ X B b off cap d rest W) {W2 W3 : World} (hb : RowKit.Below (W.heap.size + 1) W2 W3) (_hz : W2.heap.size = W.heap.size + 1) (hW : RowKit.Below W.heap.size W W2) : ¬ Pts W3 X W.heap.size := by
  have hs := h.size
  have hx := h.Xlt
  intro hp
  have e3 : W3.heap[X]? = W2.heap[X]? := hb.block X (by omega)
  have e2 : W2.heap[X]? = W.heap[X]? := hW.block X (by omega)
  have := (h.pts _ ((Pts.of_heap (e3.trans e2)).1 hp)).2
  omega
end
theorem abides_below {J : List SegD → World → Prop} {N : Nat} (hJ : AbidesFrom N J) {pre : List SegD} {W W' : World} (h : J pre W) (hb : RowKit.Below W.heap.size W W') : J pre W' :=
  hJ pre W W' none h (grown_of_below hb) (fun r e => by cases e)

set_option maxRecDepth 100000 in
set_option maxHeartbeats 2000000 in
theorem segIn_walk (n n₀ X B b off cap l : Nat) (d : Array CaseD) (rest : Int) (hn : 1 ≤ n) (hok : SwOK d rest) (J Jx : List SegD → World → Prop) (N : Nat) (hJ : AbidesFrom N J)
    (hY : ∀ pre x W, J pre W → pre.length < 17 → YieldAt Fence.wide (n - 1) Tryd.prog l (encs x) W fun e W' =>
      (e = .returned (.bool true) ∧ J (pre ++ [x]) W' ∧ KpX X W W') ∨ (e = .returned (.bool false) ∧ Jx (pre ++ [x]) W'))
    (W : World) (hI : ItAt n₀ X B b off cap d rest W) (h0 : J [] W) :
    CallsIn Fence.wide n Tryd.prog 109 #[.func (.yield l) #[] #[], .pointer (some ⟨B, 0, none⟩)] W fun e W' => (∃ v, e = .returned v) ∧
      ((∃ ys, vals ys = segs d rest ∧ J ys W') ∨ (∃ pre, True ∧ Jx pre W')) := by
  have HO := Lib.hid hok
  have HI := Lib.hid hI
  have HJ0 := Lib.hid h0
  have HJ := Lib.hid hJ
  have HY := Lib.hid hY
  have h8 : (d.size : Int) ≤ 8 := by have := hok.size; omega
  have c0 := hI.c0
  clear hok hI h0 hJ hY
  refine callsIn_of_wp Tryd.func109 rfl trivial ?_ rfl
  simp only [Tryd.ntmps109, List.size_toArray, List.length_cons, List.length_nil, Nat.reduceAdd, Nat.reduceSub, Array.replicate_succ, Array.replicate_zero, List.push_toArray, List.append_toArray, List.nil_append, List.cons_append]
  gi_wp2
  clear c0
  gi_loopw [3, 9] (fun v i wr => ∃ (k : Nat) (pre : List SegD), i = .int .i64 k ∧ v = .int .i64 (nextTo d k) ∧ k ≤ d.size ∧ Hid (vals pre = segTo d rest k) ∧ Hid (J pre wr) ∧ Hid (ItAt n₀ X B b off cap d rest wr)) (fun _ i _ => d.size - (intOf i).toNat)
  case atStart => exact ⟨0, [], rfl, rfl, Nat.zero_le _, rfl, HJ0.out, HI.out⟩
  case round =>
    obtain ⟨k, pre, rfl, rfl, hk, HV, HJk, HIk⟩ := hrel
    obtain ⟨nx, hnx⟩ : ∃ nx, nx = nextTo d k := ⟨_, rfl⟩
    have hnb := nextTo_bounds HO.out k hk
    rw [← hnx] at hnb ⊢
    have HNX := Lib.hid hnx
    clear hnx
    obtain ⟨hn0, hn32⟩ := hnb
    have b0 := HIk.out.c0
    have b1 := HIk.out.c1
    have hBs : B < wr.heap.size := Nat.lt_of_lt_of_le HIk.out.Blt HIk.out.size
    by_cases hlt : k < d.size
    · have hx := HIk.out.row
      have x0 := hx.low k hlt
      have x1 := hx.high k hlt
      have x2 := hx.target k hlt
      have x3 := hx.weight k hlt
      have hcase := HO.out.case k hlt
      have hle := nextTo_le HO.out k hlt
      clear hx
      obtain ⟨x, hxe⟩ : ∃ x, x = d[k]! := ⟨_, rfl⟩
      rw [← hxe] at x0 x1 x2 x3 hcase hle
      rw [← HNX.out] at hle
      have XE := Lib.hid hxe
      clear hxe
      have l1 := caseB_low hcase
      have l2 := caseB_high hcase
      obtain ⟨l11, l12⟩ := l1
      obtain ⟨l21, l22⟩ := l2
      have HC := Lib.hid hcase
      clear hcase
      have hpl : pre.length ≤ 14 := by
        have h1 := (segTo_length d rest k).2
        rw [← HV.out] at h1
        have h2 : (vals pre).length = pre.length := by simp [vals]
        omega
      -- the loop variable's box
      obtain ⟨wb, hwb⟩ : ∃ wb, wb = wr.alloc (.cells #[.int .i64 x.low, .int .i64 x.high, .string x.target, .int .i64 x.weight] 89) := ⟨_, rfl⟩
      have hzb : wb.heap.size = wr.heap.size + 1 := by rw [hwb]; simp
      have hbb : RowKit.Below wr.heap.size wr wb := by rw [hwb]; exact (Below.refl _ _).alloc (Nat.le_refl _) _
      have d0 : wb.cell? ⟨wr.heap.size, 0, none⟩ = some (.int .i64 x.low) := by rw [hwb]; simp
      have d1 : wb.cell? ⟨wr.heap.size, 1, none⟩ = some (.int .i64 x.high) := by rw [hwb]; simp
      have d2 : wb.cell? ⟨wr.heap.size, 2, none⟩ = some (.string x.target) := by rw [hwb]; simp
      have d3 : wb.cell? ⟨wr.heap.size, 3, none⟩ = some (.int .i64 x.weight) := by rw [hwb]; simp
      have HWB := Lib.hid hwb
      have HBB := Lib.hid hbb
      have HZB := Lib.hid hzb
      have HD := Lib.hid (⟨d0, d1, d2, d3⟩ : _ ∧ _ ∧ _ ∧ _)
      have HIb := Lib.hid (HIk.out.below hbb)
      clear hwb hbb hzb d0 d1 d2 d3
      have hrest := rest_bounds HO.out
      have HRS := Lib.hid hrest
      clear hrest
      have hXr : wr.heap.size ≠ X := by have := HIk.out.Xlt; have := HIk.out.size; omega
      have HN2 := Lib.hid (fun (w2 : World) (hb : RowKit.Below wb.heap.size wb w2) => HIk.out.own (W2 := wb) (W3 := w2) (HZB.out ▸ hb) HZB.out HBB.out)
      have HNX1 := Lib.hid (show nextTo d (k + 1) = x.high + 1 by rw [XE.out]; rfl)
      by_cases hg : nx < x.low
      · gi_wp2_with fail
        rw [← HWB.out]
        refine ⟨trivial, ?_⟩
        refine (callsIn_wide.2 (gap_any (some ⟨b, off, none⟩) d.size cap rest nx (x.low - 1) wb)).mono ?_
        rintro e w2 ⟨rfl, hb2⟩
        have HB2 := Lib.hid hb2
        have hz2 := hb2.size
        clear hb2
        have hlt2 : wr.heap.size < w2.heap.size := by have := HZB.out; omega
        obtain ⟨fn, tmps, assign, body, hy, hR⟩ := HY.out pre ⟨gapC rest nx (x.low - 1), gap_ok hn0 (by omega) (by omega) HRS.out.1 HRS.out.2⟩ w2 (abides_below HJ.out (abides_below HJ.out HJk.out HBB.out) HB2.out) (by omega)
        dsimp only [encs] at hy
        have HR := Lib.hid hR
        clear hR
        gi_wp2_with fail
        refine HR.out.mono ?_
        rintro e W3 (⟨rfl, hJ3, hk3⟩ | ⟨rfl, hJx3⟩)
        · have HN3 := Lib.hid (fun hp => (hk3.pts wr.heap.size hp).elim (HN2.out w2 HB2.out) (fun h => Nat.lt_irrefl _ (Nat.lt_of_lt_of_le hlt2 h)))
          have hbz : wr.heap.size < wb.heap.size := by have := HZB.out; omega
          have e0 := hk3.cell hXr (HN2.out w2 HB2.out) ((HB2.out.cell (p := ⟨wr.heap.size, 0, none⟩) hbz).trans HD.out.1)
          have e1 := hk3.cell hXr (HN2.out w2 HB2.out) ((HB2.out.cell (p := ⟨wr.heap.size, 1, none⟩) hbz).trans HD.out.2.1)
          have e2 := hk3.cell hXr (HN2.out w2 HB2.out) ((HB2.out.cell (p := ⟨wr.heap.size, 2, none⟩) hbz).trans HD.out.2.2.1)
          have e3 := hk3.cell hXr (HN2.out w2 HB2.out) ((HB2.out.cell (p := ⟨wr.heap.size, 3, none⟩) hbz).trans HD.out.2.2.2)
          have HI3 := Lib.hid ((HIb.out.below HB2.out).kp hk3)
          have HJ3 := Lib.hid hJ3
          clear hy hk3 hJ3 HR
          obtain ⟨fn, tmps, assign, body, hy, hR⟩ := HY.out _ ⟨x, okB_of_case HC.out⟩ W3 HJ3.out (by simp; omega)
          dsimp only [encs, aggC] at hy
          have HR := Lib.hid hR
          clear hR
          gi_wp2_with fail
          refine HR.out.mono ?_
          rintro e W4 (⟨rfl, hJ4, hk4⟩ | ⟨rfl, hJx4⟩)
          · have q1 := hk4.cell hXr HN3.out e1
            have HI4 := Lib.hid (HI3.out.kp hk4)
            have HJ4 := Lib.hid hJ4
            clear hy hk4 hJ4 HR e0 e1 e2 e3
            gi_wp2
            go_roundw
            case rel =>
              refine ⟨k + 1, _, by go_num, by rw [HNX1.out], by omega, ?_, HJ4.out, HI4.out⟩
              show vals _ = _
              rw [vals_snoc, vals_snoc, HV.out]
              show _ = segTo d rest k ++ (if nextTo d k < d[k]!.low then [gapC rest (nextTo d k) (d[k]!.low - 1)] else []) ++ [d[k]!]
              rw [← XE.out, ← HNX.out, if_pos hg]
            case measure => simp [intOf]; omega
          · gi_wp2
            refine bodyPost_ret (results_none rfl _ _ _) rfl ?_
            exact ⟨⟨_, rfl⟩, .inr ⟨_, trivial, hJx4⟩⟩
        · gi_wp2
          refine bodyPost_ret (results_none rfl _ _ _) rfl ?_
          exact ⟨⟨_, rfl⟩, .inr ⟨_, trivial, hJx3⟩⟩
      · have hg' : (decide (nx < x.low)) = false := by simpa using hg
        obtain ⟨fn, tmps, assign, body, hy, hR⟩ := HY.out pre ⟨x, okB_of_case HC.out⟩ wb (abides_below HJ.out HJk.out HBB.out) (by omega)
        dsimp only [encs, aggC] at hy
        rw [HWB.out] at hy
        have HR := Lib.hid hR
        clear hR
        gi_wp2_with fail
        refine ⟨trivial, ?_⟩
        gi_wp2_with fail
        refine ⟨fun _ h => (by cases h), ?_⟩
        gi_wp2_with fail
        rw [← HWB.out]
        refine HR.out.mono ?_
        rintro e W3 (⟨rfl, hJ3, hk3⟩ | ⟨rfl, hJx3⟩)
        · have q1 := hk3.cell hXr (HN2.out wb (Below.refl _ _)) HD.out.2.1
          have HI3 := Lib.hid (HIb.out.kp hk3)
          have HJ3 := Lib.hid hJ3
          clear hy hk3 hJ3 HR
          gi_wp2
          go_roundw
          case rel =>
            refine ⟨k + 1, _, by go_num, by rw [HNX1.out], by omega, ?_, HJ3.out, HI3.out⟩
            show vals _ = _
            rw [vals_snoc, HV.out]
            show _ = segTo d rest k ++ (if nextTo d k < d[k]!.low then [gapC rest (nextTo d k) (d[k]!.low - 1)] else []) ++ [d[k]!]
            rw [← XE.out, ← HNX.out, if_neg (by omega), List.append_nil]
          case measure => simp [intOf]; omega
        · gi_wp2
          refine bodyPost_ret (results_none rfl _ _ _) rfl ?_
          exact ⟨⟨_, rfl⟩, .inr ⟨_, trivial, hJx3⟩⟩
    · have hke : k = d.size := by omega
      have HKE := Lib.hid hke
      clear hke
      have hpl : pre.length ≤ 16 := by
        have h1 := (segTo_length d rest k).2
        rw [← HV.out] at h1
        have h2 : (vals pre).length = pre.length := by simp [vals]
        omega
      have hrest := rest_bounds HO.out
      have HRS := Lib.hid hrest
      clear hrest
      gi_wp2_with fail
      · have hle : nx ≤ 31 := by assumption
        refine ⟨trivial, ?_⟩
        refine (callsIn_wide.2 (gap_any (some ⟨b, off, none⟩) d.size cap rest nx 31 wr)).mono ?_
        rintro e w2 ⟨rfl, hb2⟩
        have HB2 := Lib.hid hb2
        clear hb2
        obtain ⟨fn, tmps, assign, body, hy, hR⟩ := HY.out pre ⟨gapC rest nx 31, gap_ok hn0 hle (by omega) HRS.out.1 HRS.out.2⟩ w2 (abides_below HJ.out HJk.out HB2.out) (by omega)
        dsimp only [encs] at hy
        have HR := Lib.hid hR
        clear hR
        gi_wp2_with fail
        refine HR.out.mono ?_
        rintro e W3 (⟨rfl, hJ3, hk3⟩ | ⟨rfl, hJx3⟩)
        · have HJ3 := Lib.hid hJ3
          clear hy hk3 hJ3 HR
          gi_wp2
          go_end0
          refine ⟨⟨_, rfl⟩, .inl ⟨_, ?_, HJ3.out⟩⟩
          rw [vals_snoc, HV.out, HKE.out]
          unfold segs
          rw [← HKE.out, ← HNX.out, if_pos hle]
        · gi_wp2
          go_end0
          exact ⟨⟨_, rfl⟩, .inr ⟨_, trivial, hJx3⟩⟩
      · have hle : 31 < nx := by assumption
        go_end0
        refine ⟨⟨_, rfl⟩, .inl ⟨pre, ?_, HJk.out⟩⟩
        rw [HV.out]
        unfold segs
        rw [← HKE.out, ← HNX.out, if_neg (by omega), List.append_nil]

/-- What segmentsIn hands back: all segments, in order. -/
theorem segIn_stops (n X B b off cap : Nat) (d : Array CaseD) (rest : Int) (w : World) (hn : 1 ≤ n) (hok : SwOK d rest) (c0 : w.cell? ⟨B, 0, none⟩ = some (.slice (some ⟨b, off, none⟩) d.size cap)) (c1 : w.cell? ⟨B, 1, none⟩ = some (.int .i64 rest))
    (hR : RowC w b off d) (hX : X < w.heap.size) (hB : B < w.heap.size) (hXB : X ≠ B) (hXb : X ≠ b) (hp : ∀ j, ¬ Pts w X j) :
    SeqStopsK Fence.wide n Tryd.prog 109 #[.pointer (some ⟨B, 0, none⟩)] (fun x : SegD => #[Value.agg #[.int .i64 x.1.low, .int .i64 x.1.high, .string x.1.target, .int .i64 x.1.weight]]) (KpX X) (fun ys => vals ys = segs d rest) (fun _ => True) 17 w := fun l J Jx W hW hJ _ hY h0 => by
  have hx : W.heap[X]? = w.heap[X]? := hW.block X hX
  refine segIn_walk n w.heap.size X B b off cap l d rest hn hok J Jx _ hJ hY W ⟨(hW.cell (p := ⟨B, 0, none⟩) hB).trans c0, (hW.cell (p := ⟨B, 1, none⟩) hB).trans c1, hR.below hW, hW.size, hX, hB, hR.old, hXB, hXb, fun j hj => absurd ((Pts.of_heap hx).1 hj) (hp j)⟩ h0
end Go.Proofs.YtbhamkmiagdimaaDoor
