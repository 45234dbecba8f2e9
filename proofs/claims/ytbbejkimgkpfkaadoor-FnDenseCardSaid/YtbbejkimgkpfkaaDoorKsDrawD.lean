
/- Draws: a switch and a number asked for. -/
import Derived.Test.YtbbejkimgkpfkaaDoorKsDrawF
namespace Go.Proofs.YtbbejkimgkpfkaaDoor
open Go.RowKit Go.Shelf Go.Lib Go.Sort

set_option maxRecDepth 100000 in
set_option maxHeartbeats 4000000 in
theorem drawDense_any (v : Value) (m : Nat) (w : World) (hb : BytesAt w.heap.size w v m) (hm : m ≤ 1048576) :
    Calls Tryd.prog 32 #[v] w (DrewKey w) := by
  obtain ⟨wa, hwa⟩ : ∃ wa, wa = w.alloc (.cells #[.slice none 0 0, .int .i64 0] 25) := ⟨_, rfl⟩
  have HRX := Lib.hid (show BoxS wa w.heap.size (.slice none 0 0) 0 by rw [hwa]; exact BoxS.new _ _ _)
  have HBA := Lib.hid (show RowKit.Below w.heap.size w wa by rw [hwa]; exact (Below.refl _ _).alloc (Nat.le_refl _) _)
  have hz : w.heap.size < wa.heap.size := by rw [hwa]; simp
  have hba : BytesAt wa.heap.size wa v m := by
    rcases hb with h1 | ⟨b, off, cap, h1, h2, h3, h4⟩
    · exact .inl h1
    · refine .inr ⟨b, off, cap, h1, h2, by omega, fun j hj => ?_⟩
      obtain ⟨y, h5, h6⟩ := h4 j hj
      exact ⟨y, h5, (HBA.out.cell (p := ⟨b, off + j, none⟩) h3).trans h6⟩
  have HOP := Lib.hid (open_any v m wa hba hm)
  have HWA := Lib.hid hwa
  clear hwa hba hb
  go_enter Tryd.func32, Tryd.ntmps32
  go_wp2_with fail
  rw [← HWA.out]
  refine HOP.out.mono ?_
  rintro x w1 ⟨g, rfl, hgl, hR1, hb1⟩
  have HR1 := Lib.hid hR1
  have hgl2 := hR1.1
  have RX1 := Lib.hid (HRX.out.kept (grown_of_below hb1) (by simp))
  have HB1 := Lib.hid (HBA.out.trans (hb1.mono (by omega)))
  have hz1 := hb1.size
  have HSM := Lib.hid (some_any g 0 w1 HR1.out (by omega))
  clear hR1 hb1
  go_wp2_with fail
  refine HSM.out.mono ?_
  rintro x w2 ⟨D, r, hs, ⟨u, rfl, ho, hv⟩, hR2, hG2⟩
  obtain ⟨gd, cd, rfl, hgd, hcd, hmd⟩ := owns_form ho hv
  have hDl : D.toList.length = D.size := Array.length_toList
  rw [hDl] at ho hv hcd
  have hz2 := hG2.size
  have HS := Lib.hid hs
  have RX2 := Lib.hid (RX1.out.kept hG2 (by simp; omega))
  have HB2 := Lib.hid (below_drawn HB1.out hG2 (by omega) (by omega))
  obtain ⟨wb, hwb⟩ : ∃ wb, wb = w2.alloc (.cells #[.slice (some ⟨gd, 0, none⟩) D.size cd, .int .i64 r] 25) := ⟨_, rfl⟩
  have HBX := Lib.hid (show BoxS wb w2.heap.size (.slice (some ⟨gd, 0, none⟩) D.size cd) r by rw [hwb]; exact BoxS.new _ _ _)
  have HRB := Lib.hid (show RdAt wb g 80 by rw [hwb]; exact (hR2.le (by omega)).alloc _)
  have RXB := Lib.hid (show BoxS wb w.heap.size (.slice none 0 0) 0 by rw [hwb]; exact RX2.out.kept (row := none) (World.grownBy_alloc _ _ _) (by simp))
  have HOB := Lib.hid (show OwnsC w1.heap.size (.slice (some ⟨gd, 0, none⟩) D.size cd) D.toList wb by rw [hwb]; exact World.ownsRow.alloc ho _)
  have HBB := Lib.hid (show RowKit.Below w.heap.size w wb by rw [hwb]; exact HB2.out.alloc (by omega) _)
  have hzb : w2.heap.size < wb.heap.size := by rw [hwb]; simp
  have HWB := Lib.hid hwb
  have x0 := HBX.out.c0
  have x1 := HBX.out.c1
  have r0 := RXB.out.c0
  have r1 := RXB.out.c1
  have f0 := RXB.out.z 0
  have f1 := RXB.out.z 1
  have hxl := HBX.out.lt
  have hrl := RXB.out.lt
  have HAK := Lib.hid (show Calls Tryd.prog 71 #[.pointer (some ⟨g, 0, none⟩), .int .i64 100] wb.drew _ from pickR_any g 100 80 wb.drew HRB.out.drew (by omega) (by omega))
  have HNL := Lib.hid (fun (q : Nat) W (hW : RdAt W g 81) => (show Calls Tryd.prog 70 #[.pointer (some ⟨g, 0, none⟩), .slice (some ⟨W.heap.size, 0, none⟩) 9 9] (W.alloc (.cells #[.int .i64 40, .int .i64 50, .int .i64 100, .int .i64 80, .int .i64 0, .int .i64 25, .int .i64 101, .int .i64 (-1), .int .i64 q] 3)) _ from numLit_any g 81 [40, 50, 100, 80, 0, 25, 101, -1, (q : Int)] W hW (by omega) (by simp) (by simp)))
  clear hwb ho hv hR2 hG2 hs
  go_wp2_with fail
  rw [← HWB.out]
  go_region_held3 (fun w' => w'.cell? ⟨w2.heap.size, 0, none⟩ = some (.slice (some ⟨gd, 0, none⟩) D.size cd) ∧ w'.cell? ⟨w2.heap.size, 1, none⟩ = some (.int .i64 r)) (first | exact ⟨x0, x1⟩ | exact ⟨y0, y1⟩ | exact ⟨v0, v1⟩ | exact ⟨HK0.out _ _, HK1.out _ _⟩ | go_keep) (first
    | (go_at_call 71; (with_reducible refine (HAK.out).mono ?_); rintro _ w3 ⟨q, rfl, _, R3, g3⟩; have G3 := Lib.hid (show wb.grownBy w3 (some g) from ⟨g3.os, g3.tape, g3.output, g3.size, g3.block⟩); have BX3 := Lib.hid (HBX.out.kept G3.out (by simp; omega)); have y0 := BX3.out.c0; have y1 := BX3.out.c1; have hyl := BX3.out.lt; have z3 := G3.out.size; have HR3 := Lib.hid R3; have HNL3 := Lib.hid (HNL.out q w3 R3); have BX3a := Lib.hid (BX3.out.kept (row := Option.none) (World.grownBy_alloc w3 (.cells #[.int .i64 40, .int .i64 50, .int .i64 100, .int .i64 80, .int .i64 0, .int .i64 25, .int .i64 101, .int .i64 (-1), .int .i64 q] 3) _) (by simp)); have v0 := BX3a.out.c0; have v1 := BX3a.out.c1; clear R3 g3)
    | (go_at_call 70; (with_reducible refine (HNL3.out).mono ?_); rintro _ w4 ⟨key, _, rfl, R4, g4⟩; have G4 := Lib.hid (grownBy_trans G3.out g4); have BX4 := Lib.hid (HBX.out.kept G4.out (by simp; omega)); have RX4 := Lib.hid (RXB.out.kept G4.out (by simp; omega)); have y0 := BX4.out.c0; have y1 := BX4.out.c1; have q0 := RX4.out.c0; have q1 := RX4.out.c1; have q2 := RX4.out.z 0; have q3 := RX4.out.z 1; have hyl := BX4.out.lt; have hql := RX4.out.lt; have z4 := G4.out.size; have HK0 := Lib.hid (fun u u' => ((kept_cells (W := w4) (a := w.heap.size) (b := w2.heap.size) (by omega) u u' 0).trans y0)); have HK1 := Lib.hid (fun u u' => ((kept_cells (W := w4) (a := w.heap.size) (b := w2.heap.size) (by omega) u u' 1).trans y1)); clear R4 g4))
  all_goals
    obtain ⟨RZ, OZ, GZ⟩ := put_sw RX4 (World.ownsRow.kept HOB.out G4.out (.inr (by simp [Value.ownBlock]; omega))) r
    have HRZ := Lib.hid RZ
    have HB3 := below_drawn HBB.out G4.out (by omega) (by omega)
    have HBZ := Lib.hid ((HB3.setCell (p := ⟨w.heap.size, 0, none⟩) (Nat.le_refl _) (.slice (some ⟨gd, 0, none⟩) D.size cd)).setCell (p := ⟨w.heap.size, 1, none⟩) (Nat.le_refl _) (.int .i64 r))
    have HRW := Lib.hid (show RowC _ gd 0 D by
      have := owns_row (n := D.size) (l := D.toList) OZ
      rwa [Array.toArray_toList] at this)
    clear RZ OZ GZ HB3
    go_wp2_with fail
    refine bodyPost_ret (v := .tuple #[.agg #[.slice (some ⟨gd, 0, none⟩) D.size cd, .int .i64 r], .int .i64 key]) (by simp [results, Tryd.results32, go_sem, HRZ.out.c0, HRZ.out.c1]) rfl (DrewKey.mk D r key gd cd rfl HRW.out hcd hmd HS.out HBZ.out)
end Go.Proofs.YtbbejkimgkpfkaaDoor
