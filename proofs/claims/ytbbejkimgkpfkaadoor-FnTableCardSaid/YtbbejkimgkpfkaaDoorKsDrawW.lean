
/- Draws: a switch, a key and a number asked for; a table and two numbers. -/
import Derived.Test.YtbbejkimgkpfkaaDoorKsDrawF
import Derived.Lib.MinMax
namespace Go.Proofs.YtbbejkimgkpfkaaDoor
open Go.RowKit Go.Shelf Go.Lib Go.Sort

set_option maxRecDepth 100000 in
set_option maxHeartbeats 2000000 in
theorem anyKeyB_any (g p : Nat) (w : World) (h : RdAt w g p) (hp : p ≤ 50000) :
    Calls Tryd.prog 69 #[.pointer (some ⟨g, 0, none⟩)] w fun x w' => ∃ z : Int, x = .returned (.int .i64 z) ∧ (-1 ≤ z ∧ z ≤ 32) ∧ RdAt w' g (p + 4) ∧ w.grownBy w' (some g) := by
  have HR := Lib.hid h
  have HK := Lib.hid (fun q W (hW : RdAt W g q) (hq : q ≤ 100000) => pickR_any g 32 q W hW hq (by omega))
  clear h
  go_enter Tryd.func69, Tryd.ntmps69
  go_wp2_with fail
  refine (HK.out p _ HR.out (by omega)).mono ?_
  rintro x w1 ⟨q1, rfl, k1, hR1, hG1⟩
  have HR1 := Lib.hid hR1
  have HG1 := Lib.hid hG1
  have K1 := Lib.hid (k1 (by omega))
  clear hR1 hG1 k1
  go_wp2_with fail
  refine (HK.out (p + 1) _ HR1.out (by omega)).mono ?_
  rintro x w2 ⟨q2, rfl, k2, hR2, hG2⟩
  have HR2 := Lib.hid hR2
  have HG2 := Lib.hid (grownBy_trans HG1.out hG2)
  have K2 := Lib.hid (k2 (by omega))
  clear hR2 hG2 HR1 HG1 k2
  go_wp2_with fail
  refine (HK.out (p + 2) _ HR2.out (by omega)).mono ?_
  rintro x w3 ⟨q3, rfl, k3, hR3, hG3⟩
  have HR3 := Lib.hid hR3
  have HG3 := Lib.hid (grownBy_trans HG2.out hG3)
  have K3 := Lib.hid (k3 (by omega))
  clear hR3 hG3 HR2 HG2 k3
  go_wp2_with fail
  refine (numLit_any g (p + 3) [(q1 : Int), (q2 : Int), (q3 : Int), 0, 31, 32, -1] _ HR3.out (by omega) (by simp) (by simp)).mono ?_
  rintro x w4 ⟨z, hz, rfl, hR4, hG4⟩
  have HR4 := Lib.hid hR4
  have HG4 := Lib.hid (grownBy_trans HG3.out hG4)
  have HZ := Lib.hid (show -1 ≤ z ∧ z ≤ 32 by
    have a1 := K1.out
    have a2 := K2.out
    have a3 := K3.out
    simp only [List.mem_cons, List.not_mem_nil, or_false] at hz
    omega)
  clear hR4 hG4 HR3 HG3 hz
  go_wp2_with fail
  go_ret
  exact ⟨z, rfl, HZ.out, HR4.out, HG4.out⟩

/-- A switch and two numbers, drawn. -/
def DrewTwo (w : World) (x : Ending) (w' : World) : Prop := ∃ (D : Array CaseD) (rest low key : Int) (b cap : Nat), x = .returned (.tuple #[.agg #[.slice (some ⟨b, 0, none⟩) D.size cap, .int .i64 rest], .int .i64 low, .int .i64 key]) ∧ RowC w' b 0 D ∧ D.size ≤ cap ∧ cap ≤ maxLen ∧ SmallSw D 9 ∧ RowKit.Below w.heap.size w w'
theorem DrewTwo.mk {w : World} {x : Ending} {w' : World} (D : Array CaseD) (rest low key : Int) (b cap : Nat) (h1 : x = .returned (.tuple #[.agg #[.slice (some ⟨b, 0, none⟩) D.size cap, .int .i64 rest], .int .i64 low, .int .i64 key])) (h2 : RowC w' b 0 D) (h3 : D.size ≤ cap) (h4 : cap ≤ maxLen) (h5 : SmallSw D 9) (h6 : RowKit.Below w.heap.size w w') : DrewTwo w x w' := ⟨D, rest, low, key, b, cap, h1, h2, h3, h4, h5, h6⟩

set_option maxRecDepth 100000 in
set_option maxHeartbeats 4000000 in
theorem drawTab_any (v : Value) (m : Nat) (w : World) (hb : BytesAt w.heap.size w v m) (hm : m ≤ 1048576) :
    Calls Tryd.prog 22 #[v] w (DrewTwo w) := by
  obtain ⟨wa, hwa⟩ : ∃ wa, wa = w.alloc (.cells #[.slice none 0 0, .int .i64 0] 25) := ⟨_, rfl⟩
  have HRX := Lib.hid (show BoxS wa w.heap.size (.slice none 0 0) 0 by rw [hwa]; exact BoxS.new _ _ _)
  have HBA := Lib.hid (show RowKit.Below w.heap.size w wa by rw [hwa]; exact (Below.refl _ _).alloc (Nat.le_refl _) _)
  have hz : w.heap.size < wa.heap.size := by rw [hwa]; simp
  have hba : BytesAt wa.heap.size wa v m := by
    rcases hb with h1 | ⟨b, off, cap, h1, h2, h3, h4⟩
    · exact .inl h1
    · refine .inr ⟨b, off, cap, h1, h2, by omega, fun j hj => ?_⟩
      obtain ⟨y, h5, h6⟩ := h4 j hj
      exact ⟨y, h5, (HBA.out.cell (p := ⟨b, off + j, none⟩) h3).trans h6⟩
  have HOP := Lib.hid (open_any v m wa hba hm)
  have HWA := Lib.hid hwa
  clear hwa hba hb
  go_enter Tryd.func22, Tryd.ntmps22
  go_wp2_with fail
  rw [← HWA.out]
  refine HOP.out.mono ?_
  rintro x w1 ⟨g, rfl, hgl, hR1, hb1⟩
  have HR1 := Lib.hid hR1
  have hgl2 := hR1.1
  have RX1 := Lib.hid (HRX.out.kept (grown_of_below hb1) (by simp))
  have HB1 := Lib.hid (HBA.out.trans (hb1.mono (by omega)))
  have hz1 := hb1.size
  have HSM := Lib.hid (some_any g 0 w1 HR1.out (by omega))
  clear hR1 hb1
  go_wp2_with fail
  refine HSM.out.mono ?_
  rintro x w2 ⟨D, r, hs, ⟨u, rfl, ho, hv⟩, hR2, hG2⟩
  obtain ⟨gd, cd, rfl, hgd, hcd, hmd⟩ := owns_form ho hv
  have hDl : D.toList.length = D.size := Array.length_toList
  rw [hDl] at ho hv hcd
  have hz2 := hG2.size
  have HS := Lib.hid hs
  have RX2 := Lib.hid (RX1.out.kept hG2 (by simp; omega))
  have HB2 := Lib.hid (below_drawn HB1.out hG2 (by omega) (by omega))
  obtain ⟨wb, hwb⟩ : ∃ wb, wb = w2.alloc (.cells #[.slice (some ⟨gd, 0, none⟩) D.size cd, .int .i64 r] 25) := ⟨_, rfl⟩
  have HBX := Lib.hid (show BoxS wb w2.heap.size (.slice (some ⟨gd, 0, none⟩) D.size cd) r by rw [hwb]; exact BoxS.new _ _ _)
  have HRB := Lib.hid (show RdAt wb g 80 by rw [hwb]; exact (hR2.le (by omega)).alloc _)
  have RXB := Lib.hid (show BoxS wb w.heap.size (.slice none 0 0) 0 by rw [hwb]; exact RX2.out.kept (row := none) (World.grownBy_alloc _ _ _) (by simp))
  have HOB := Lib.hid (show OwnsC w1.heap.size (.slice (some ⟨gd, 0, none⟩) D.size cd) D.toList wb by rw [hwb]; exact World.ownsRow.alloc ho _)
  have HBB := Lib.hid (show RowKit.Below w.heap.size w wb by rw [hwb]; exact HB2.out.alloc (by omega) _)
  have hzb : w2.heap.size < wb.heap.size := by rw [hwb]; simp
  have HWB := Lib.hid hwb
  have HAN := Lib.hid (anyKeyB_any g 80 wb HRB.out (by omega))
  clear hwb ho hv hR2 hG2 hs
  go_wp2_with fail
  rw [← HWB.out]
  refine HAN.out.mono ?_
  rintro x w3 ⟨z, rfl, hz0, hR3, hG3⟩
  obtain ⟨hza, hzb⟩ := hz0
  have HR3 := Lib.hid hR3
  have HG3 := Lib.hid hG3
  have BX3 := Lib.hid (HBX.out.kept hG3 (by simp; omega))
  have RX3 := Lib.hid (RXB.out.kept hG3 (by simp; omega))
  have x0 := BX3.out.c0
  have x1 := BX3.out.c1
  have r0 := RX3.out.c0
  have r1 := RX3.out.c1
  have f0 := RX3.out.z 0
  have f1 := RX3.out.z 1
  have hxl := BX3.out.lt
  have hrl := RX3.out.lt
  have hz3 := hG3.size
  have HA12 := Lib.hid (show Calls Tryd.prog 71 #[.pointer (some ⟨g, 0, none⟩), .int .i64 12] w3.drew _ from pickR_any g 12 84 w3.drew HR3.out.drew (by omega) (by omega))
  have HA32 := Lib.hid (show Calls Tryd.prog 71 #[.pointer (some ⟨g, 0, none⟩), .int .i64 32] w3.drew _ from pickR_any g 32 84 w3.drew HR3.out.drew (by omega) (by omega))
  have HP12 := Lib.hid (fun W (hW : RdAt W g 85) => (show Calls Tryd.prog 71 #[.pointer (some ⟨g, 0, none⟩), .int .i64 12] W _ from pickR_any g 12 85 W hW (by omega) (by omega)))
  have HP32 := Lib.hid (fun W (hW : RdAt W g 85) => (show Calls Tryd.prog 71 #[.pointer (some ⟨g, 0, none⟩), .int .i64 32] W _ from pickR_any g 32 85 W hW (by omega) (by omega)))
  have HNL := Lib.hid (fun (q p : Nat) W (hW : RdAt W g 86) => (show Calls Tryd.prog 70 #[.pointer (some ⟨g, 0, none⟩), .slice (some ⟨W.heap.size, 0, none⟩) 6 6] (W.alloc (.cells #[.int .i64 (min (IntKind.i64.wrap (z + q)) 31), .int .i64 31, .int .i64 p, .int .i64 z, .int .i64 32, .int .i64 (-1)] 3)) _ from numLit_any g 86 [min (IntKind.i64.wrap (z + q)) 31, 31, (p : Int), z, 32, -1] W hW (by omega) (by simp) (by simp)))
  clear hR3 hG3
  go_wp2_with fail
  go_region_held3 (fun w' => w'.cell? ⟨w2.heap.size, 0, none⟩ = some (.slice (some ⟨gd, 0, none⟩) D.size cd) ∧ w'.cell? ⟨w2.heap.size, 1, none⟩ = some (.int .i64 r)) (first | exact ⟨x0, x1⟩ | exact ⟨t0, t1⟩ | exact ⟨y0, y1⟩ | exact ⟨v0, v1⟩ | exact ⟨HK0.out _ _, HK1.out _ _⟩ | go_keep) (first
    | (go_at_call 71; (with_reducible refine (HA12.out).mono ?_); rintro _ w4 ⟨q, rfl, hq0, R4, g4⟩; have hq : (q : Int) < 12 := (by have := hq0 (by omega); omega); have G4 := Lib.hid (show w3.grownBy w4 (some g) from ⟨g4.os, g4.tape, g4.output, g4.size, g4.block⟩); have BX4 := Lib.hid (BX3.out.kept G4.out (by simp; omega)); have y0 := BX4.out.c0; have y1 := BX4.out.c1; have hyl := BX4.out.lt; have z4 := G4.out.size; have HB := Lib.hid (HP32.out w4 R4); clear R4 g4 hq0)
    | (go_at_call 71; (with_reducible refine (HA32.out).mono ?_); rintro _ w4 ⟨p, rfl, hp0, R4, g4⟩; have hp : (p : Int) < 32 := (by have := hp0 (by omega); omega); have G4 := Lib.hid (show w3.grownBy w4 (some g) from ⟨g4.os, g4.tape, g4.output, g4.size, g4.block⟩); have BX4 := Lib.hid (BX3.out.kept G4.out (by simp; omega)); have y0 := BX4.out.c0; have y1 := BX4.out.c1; have hyl := BX4.out.lt; have z4 := G4.out.size; have HC := Lib.hid (HP12.out w4 R4); clear R4 g4 hp0)
    | (go_at_call 71; (with_reducible refine (HB.out).mono ?_); rintro _ w5 ⟨p, rfl, hp0, R5, g5⟩; have hp : (p : Int) < 32 := (by have := hp0 (by omega); omega); have G5 := Lib.hid (grownBy_trans G4.out g5); have BX5 := Lib.hid (BX3.out.kept G5.out (by simp; omega)); have t0 := BX5.out.c0; have t1 := BX5.out.c1; have htl := BX5.out.lt; have z5 := G5.out.size; have HNL5 := Lib.hid (HNL.out q p w5 R5); have BX5a := Lib.hid (BX5.out.kept (row := Option.none) (World.grownBy_alloc w5 (.cells #[.int .i64 (min (IntKind.i64.wrap (z + q)) 31), .int .i64 31, .int .i64 p, .int .i64 z, .int .i64 32, .int .i64 (-1)] 3) _) (by simp)); have v0 := BX5a.out.c0; have v1 := BX5a.out.c1; clear R5 g5 hp0)
    | (go_at_call 71; (with_reducible refine (HC.out).mono ?_); rintro _ w5 ⟨q, rfl, hq0, R5, g5⟩; have hq : (q : Int) < 12 := (by have := hq0 (by omega); omega); have G5 := Lib.hid (grownBy_trans G4.out g5); have BX5 := Lib.hid (BX3.out.kept G5.out (by simp; omega)); have t0 := BX5.out.c0; have t1 := BX5.out.c1; have htl := BX5.out.lt; have z5 := G5.out.size; have HNL5 := Lib.hid (HNL.out q p w5 R5); have BX5a := Lib.hid (BX5.out.kept (row := Option.none) (World.grownBy_alloc w5 (.cells #[.int .i64 (min (IntKind.i64.wrap (z + q)) 31), .int .i64 31, .int .i64 p, .int .i64 z, .int .i64 32, .int .i64 (-1)] 3) _) (by simp)); have v0 := BX5a.out.c0; have v1 := BX5a.out.c1; clear R5 g5 hq0)
    | (go_at_call 70; (with_reducible refine (HNL5.out).mono ?_); rintro _ w6 ⟨key, _, rfl, R6, g6⟩; have G6 := Lib.hid (grownBy_trans G5.out g6); have BX6 := Lib.hid (BX3.out.kept G6.out (by simp; omega)); have RX6 := Lib.hid (RX3.out.kept G6.out (by simp; omega)); have y0 := BX6.out.c0; have y1 := BX6.out.c1; have q0 := RX6.out.c0; have q1 := RX6.out.c1; have q2 := RX6.out.z 0; have q3 := RX6.out.z 1; have hyl := BX6.out.lt; have hql := RX6.out.lt; have z6 := G6.out.size; have HK0 := Lib.hid (fun u u' => ((kept_cells (W := w6) (a := w.heap.size) (b := w2.heap.size) (by omega) u u' 0).trans y0)); have HK1 := Lib.hid (fun u u' => ((kept_cells (W := w6) (a := w.heap.size) (b := w2.heap.size) (by omega) u u' 1).trans y1)); clear R6 g6))
  all_goals
    have G7 := Lib.hid (grownBy_trans HG3.out G6.out)
    obtain ⟨RZ, OZ, GZ⟩ := put_sw RX6 (World.ownsRow.kept HOB.out G7.out (.inr (by simp [Value.ownBlock]; omega))) r
    have HRZ := Lib.hid RZ
    have HB3 := below_drawn HBB.out G7.out (by omega) (by omega)
    have HBZ := Lib.hid ((HB3.setCell (p := ⟨w.heap.size, 0, none⟩) (Nat.le_refl _) (.slice (some ⟨gd, 0, none⟩) D.size cd)).setCell (p := ⟨w.heap.size, 1, none⟩) (Nat.le_refl _) (.int .i64 r))
    have HRW := Lib.hid (show RowC _ gd 0 D by
      have := owns_row (n := D.size) (l := D.toList) OZ
      rwa [Array.toArray_toList] at this)
    clear RZ OZ GZ HB3
    go_wp2_with fail
    refine bodyPost_ret (v := .tuple #[.agg #[.slice (some ⟨gd, 0, none⟩) D.size cd, .int .i64 r], .int .i64 z, .int .i64 key]) (by simp [results, Tryd.results22, go_sem, HRZ.out.c0, HRZ.out.c1]) rfl (DrewTwo.mk D r z key gd cd rfl HRW.out hcd hmd HS.out HBZ.out)
/-! a table and two numbers -/
set_option maxRecDepth 100000 in
set_option maxHeartbeats 4000000 in
theorem drawLook_any (v : Value) (m : Nat) (w : World) (hb : BytesAt w.heap.size w v m) (hm : m ≤ 1048576) :
    Calls Tryd.prog 26 #[v] w fun x w' => ∃ (t : ByteArray) (low key : Int), x = .returned (.tuple #[.string t, .int .i64 low, .int .i64 key]) ∧ t.size ≤ 1048576 ∧ RowKit.Below w.heap.size w w' := by
  have HOP := Lib.hid (open_any v m w hb hm)
  clear hb
  go_enter Tryd.func26, Tryd.ntmps26
  go_wp2_with fail
  refine HOP.out.mono ?_
  rintro x w1 ⟨g, rfl, hgl, hR1, hb1⟩
  have HR1 := Lib.hid hR1
  have HB1 := Lib.hid hb1
  have hz1 := hb1.size
  have HPK := Lib.hid (fun (n : Nat) W p (hW : RdAt W g p) (hp : p ≤ 100000) (hn : n ≤ 100000) => pickR_any g n p W hW hp hn)
  have HP9 := Lib.hid (fun W p (hW : RdAt W g p) (hp : p ≤ 100000) => (show Calls Tryd.prog 71 #[.pointer (some ⟨g, 0, none⟩), .int .i64 9] W _ from pickR_any g 9 p W hW hp (by omega)))
  have HP16 := Lib.hid (fun W p (hW : RdAt W g p) (hp : p ≤ 100000) => (show Calls Tryd.prog 71 #[.pointer (some ⟨g, 0, none⟩), .int .i64 16] W _ from pickR_any g 16 p W hW hp (by omega)))
  have HAK := Lib.hid (fun W p (hW : RdAt W g p) (hp : p ≤ 50000) => anyKeyB_any g p W hW hp)
  have H5 := Lib.hid (fun W p (hW : RdAt W g p) (hp : p ≤ 100000) => (show Calls Tryd.prog 77 #[.pointer (some ⟨g, 0, none⟩), .slice (some ⟨W.heap.size, 0, none⟩) 5 5] (W.alloc (.cells #[.string ⟨#[97]⟩, .string ⟨#[98]⟩, .string ⟨#[122]⟩, .string ⟨#[104]⟩, .string ⟨#[99]⟩] 9)) _ from ofLit_any g p [⟨#[97]⟩, ⟨#[98]⟩, ⟨#[122]⟩, ⟨#[104]⟩, ⟨#[99]⟩] W hW hp (by simp) (by simp)))
  have H3 := Lib.hid (fun W p (hW : RdAt W g p) (hp : p ≤ 100000) => (show Calls Tryd.prog 77 #[.pointer (some ⟨g, 0, none⟩), .slice (some ⟨W.heap.size, 0, none⟩) 3 3] (W.alloc (.cells #[.string ⟨#[105]⟩, .string ⟨#[120]⟩, .string ⟨#[32]⟩] 9)) _ from ofLit_any g p [⟨#[105]⟩, ⟨#[120]⟩, ⟨#[32]⟩] W hW hp (by simp) (by simp)))
  clear hR1 hb1
  go_wp2_with fail
  refine (HP9.out _ 0 HR1.out (by omega)).mono ?_
  rintro x w2 ⟨n, rfl, hn0, hR2, hG2⟩
  have hn : n < 9 := hn0 (by omega)
  have HR2 := Lib.hid hR2
  have HB2 := Lib.hid (below_drawn HB1.out hG2 (by omega) (by omega))
  have hz2 := hG2.size
  clear hR2 hG2 hn0
  go_wp2_with fail
  go_loopw [6, 12] (fun t i wr => ∃ (k : Nat) (s : ByteArray), t = .string s ∧ i = .int .i64 k ∧ k ≤ n ∧ s.size ≤ k ∧ Hid (RdAt wr g (1 + k)) ∧ Hid (RowKit.Below w.heap.size w wr) ∧ w1.heap.size ≤ wr.heap.size) (fun _ i _ => n - (intOf i).toNat)
  case atStart => exact ⟨0, _, rfl, rfl, Nat.zero_le _, Nat.le_refl 0, HR2, HB2, hz2⟩
  case round =>
    obtain ⟨k, s, rfl, rfl, hk, hs, HRr, HBr, hzr⟩ := hrel
    by_cases hlt : k < n
    · have hki : (k : Int) < (n : Int) := by omega
      have hsi : (s.size : Int) ≤ 9 := by omega
      have HOF := Lib.hid (H5.out wr (1 + k) HRr.out (by omega))
      go_wp2_with fail
      refine HOF.out.mono ?_
      rintro x w3 ⟨c, hc, rfl, hR3, hG3⟩
      have hc1 : c.size = 1 := by
        simp only [List.mem_cons, List.not_mem_nil, or_false] at hc
        rcases hc with rfl | rfl | rfl | rfl | rfl <;> rfl
      have HR3 := Lib.hid hR3
      have HB3 := Lib.hid (below_drawn HBr.out hG3 (by omega) (by omega))
      have hz3 := hG3.size
      clear hc hR3 hG3
      go_wp2_with fail
      go_roundw
      case rel => exact ⟨k + 1, _, rfl, by go_num, by omega, by simp [hc1]; omega, by rw [show 1 + (k + 1) = 1 + k + 1 by omega]; exact HR3, HB3, by omega⟩
      case measure => simp [intOf]; omega
    · have hki : ¬ (k : Int) < (n : Int) := by omega
      have hsi : (s.size : Int) ≤ 9 := by omega
      have HNL := Lib.hid (fun (T : ByteArray) (z y : Int) (q : Nat) W p (hW : RdAt W g p) (hp : p ≤ 100000) => (show Calls Tryd.prog 70 #[.pointer (some ⟨g, 0, none⟩), .slice (some ⟨W.heap.size, 0, none⟩) 4 4] (W.alloc (.cells #[.int .i64 (z + q), .int .i64 y, .int .i64 z, .int .i64 (z + T.size)] 3)) _ from numLit_any g p [z + q, y, z, z + T.size] W hW hp (by simp) (by simp)))
      have FIN := Lib.hid (fun (t : ByteArray) (low key : Int) (ht : t.size ≤ 1048576) (W : World) (hW : RowKit.Below w.heap.size w W) => (⟨t, low, key, rfl, ht, hW⟩ : ∃ (t' : ByteArray) (low' key' : Int), Ending.returned (.tuple #[.string t, .int .i64 low, .int .i64 key]) = .returned (.tuple #[.string t', .int .i64 low', .int .i64 key']) ∧ t'.size ≤ 1048576 ∧ RowKit.Below w.heap.size w W))
      go_wp2_with fail
      refine (HP16.out _ (1 + k) HRr.out (by omega)).mono ?_
      rintro x w4 ⟨q16, rfl, hq0, hR4, hG4⟩
      have hq16 : q16 < 16 := hq0 (by omega)
      have HR4 := Lib.hid (hR4.le (by omega : 1 + k + 1 ≤ 20))
      have HB4 := Lib.hid (below_drawn HBr.out hG4 (by omega) (by omega))
      have hz4 := hG4.size
      have h41 : w1.heap.size ≤ w4.heap.size := by omega
      clear hq0 hR4 hG4
      by_cases q0 : q16 = 0
      · have q0i : ((q16 : Int) == 0) = true := by simp [q0]
        have HOF := Lib.hid (H3.out w4 20 HR4.out (by omega))
        clear q0
        go_wp2_with fail
        refine HOF.out.mono ?_
        rintro x wT ⟨c, hc, rfl, hR3, hG3⟩
        have hc1 : c.size = 1 := by
          simp only [List.mem_cons, List.not_mem_nil, or_false] at hc
          rcases hc with rfl | rfl | rfl <;> rfl
        have HRT := Lib.hid (hR3.le (by omega : 20 + 1 ≤ 30))
        have HBT := Lib.hid (below_drawn HB4.out hG3 (by omega) (by omega))
        have hzT : w1.heap.size ≤ wT.heap.size := by have := hG3.size; omega
        clear hc hR3 hG3
        go_wp2_with fail
        obtain ⟨T, hT⟩ : ∃ T, T = s ++ c := ⟨_, rfl⟩
        have hTs : T.size ≤ 9 := by rw [hT, ByteArray.size_append, hc1]; omega
        have hTi : (T.size : Int) ≤ 9 := by omega
        rw [← hT]
        clear hT
        refine (HAK.out _ 30 HRT.out (by omega)).mono ?_
        rintro x w5 ⟨z, rfl, ⟨hza, hzb⟩, hR5, hG5⟩
        have HR5 := Lib.hid hR5
        have HB5 := Lib.hid (below_drawn HBT.out hG5 (by omega) (by omega))
        have hz5 : w1.heap.size ≤ w5.heap.size := by have := hG5.size; omega
        clear hR5 hG5
        go_wp2_with fail
        refine (HP9.out _ (30 + 4) HR5.out (by omega)).mono ?_
        rintro x w6 ⟨q, rfl, hq0, hR6, hG6⟩
        have hq9 : (q : Int) < 9 := by have := hq0 (by omega); omega
        have HR6 := Lib.hid hR6
        have HB6 := Lib.hid (below_drawn HB5.out hG6 (by omega) (by omega))
        have hz6 : w1.heap.size ≤ w6.heap.size := by have := hG6.size; omega
        clear hR6 hG6 hq0
        go_wp2_with fail
        refine (HAK.out _ (30 + 4 + 1) HR6.out (by omega)).mono ?_
        rintro x w7 ⟨y, rfl, _, hR7, hG7⟩
        have HR7 := Lib.hid hR7
        have HB7 := Lib.hid (below_drawn HB6.out hG7 (by omega) (by omega))
        have hz7 : w1.heap.size ≤ w7.heap.size := by have := hG7.size; omega
        clear hR7 hG7
        go_wp2_with fail
        refine (HNL.out T z y q _ (30 + 4 + 1 + 4) HR7.out (by omega)).mono ?_
        rintro x w8 ⟨key, _, rfl, hR8, hG8⟩
        have HB8 := Lib.hid (below_drawn HB7.out hG8 (by omega) (by omega))
        clear hR8 hG8
        go_wp2_with fail
        go_ret3
        exact FIN.out _ _ _ (by omega) _ HB8.out
      · have q0i : ((q16 : Int) == 0) = false := by simp; omega
        clear q0
        go_wp2_with fail
        refine (HAK.out _ 20 HR4.out (by omega)).mono ?_
        rintro x w5 ⟨z, rfl, ⟨hza, hzb⟩, hR5, hG5⟩
        have HR5 := Lib.hid hR5
        have HB5 := Lib.hid (below_drawn HB4.out hG5 (by omega) (by omega))
        have hz5 : w1.heap.size ≤ w5.heap.size := by have := hG5.size; omega
        clear hR5 hG5
        go_wp2_with fail
        refine (HP9.out _ (20 + 4) HR5.out (by omega)).mono ?_
        rintro x w6 ⟨q, rfl, hq0, hR6, hG6⟩
        have hq9 : (q : Int) < 9 := by have := hq0 (by omega); omega
        have HR6 := Lib.hid hR6
        have HB6 := Lib.hid (below_drawn HB5.out hG6 (by omega) (by omega))
        have hz6 : w1.heap.size ≤ w6.heap.size := by have := hG6.size; omega
        clear hR6 hG6 hq0
        go_wp2_with fail
        refine (HAK.out _ (20 + 4 + 1) HR6.out (by omega)).mono ?_
        rintro x w7 ⟨y, rfl, _, hR7, hG7⟩
        have HR7 := Lib.hid hR7
        have HB7 := Lib.hid (below_drawn HB6.out hG7 (by omega) (by omega))
        have hz7 : w1.heap.size ≤ w7.heap.size := by have := hG7.size; omega
        clear hR7 hG7
        go_wp2_with fail
        refine (HNL.out s z y q _ (20 + 4 + 1 + 4) HR7.out (by omega)).mono ?_
        rintro x w8 ⟨key, _, rfl, hR8, hG8⟩
        have HB8 := Lib.hid (below_drawn HB7.out hG8 (by omega) (by omega))
        clear hR8 hG8
        go_wp2_with fail
        go_ret3
        exact FIN.out _ _ _ (by omega) _ HB8.out
end Go.Proofs.YtbbejkimgkpfkaaDoor
