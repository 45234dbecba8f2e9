
/- The draws of DrawMasksCost, DrawMaskOf, DrawMaskWeight. -/
import Derived.Test.YtbhamkmiagdimaaGreatDoorKsDrawM
namespace Go.Proofs.YtbhamkmiagdimaaGreatDoor
open Go.RowKit Go.Shelf Go.Lib Go.Sort

/-- A switch and a text have been drawn. -/
def DrewTxt (w : World) (x : Ending) (w' : World) : Prop := ∃ (D : Array CaseD) (rest : Int) (s : ByteArray) (b cap : Nat), x = .returned (.tuple #[.agg #[.slice (some ⟨b, 0, none⟩) D.size cap, .int .i64 rest], .string s]) ∧ s.size ≤ 10 ∧ w.heap.size ≤ b ∧ RowC w' b 0 D ∧ D.size ≤ cap ∧ cap ≤ maxLen ∧ SmallSw D 9 ∧ RowKit.Below w.heap.size w w'
theorem DrewTxt.mk {w : World} {x : Ending} {w' : World} (D : Array CaseD) (rest : Int) (s : ByteArray) (b cap : Nat) (h1 : x = .returned (.tuple #[.agg #[.slice (some ⟨b, 0, none⟩) D.size cap, .int .i64 rest], .string s])) (h0 : s.size ≤ 10) (hg : w.heap.size ≤ b) (h2 : RowC w' b 0 D) (h3 : D.size ≤ cap) (h4 : cap ≤ maxLen) (h5 : SmallSw D 9) (h6 : RowKit.Below w.heap.size w w') : DrewTxt w x w' := ⟨D, rest, s, b, cap, h1, h0, hg, h2, h3, h4, h5, h6⟩

set_option maxRecDepth 100000 in
set_option maxHeartbeats 4000000 in
theorem drawCost_any (v : Value) (m : Nat) (w : World) (hb : BytesAt w.heap.size w v m) (hm : m ≤ 1048576) :
    Calls Tryz.prog 14 #[v] w (DrewTxt w) := by
  obtain ⟨wa, hwa⟩ : ∃ wa, wa = w.alloc (.cells #[.slice none 0 0, .int .i64 0] 25) := ⟨_, rfl⟩
  have HRX := Lib.hid (show BoxS wa w.heap.size (.slice none 0 0) 0 by rw [hwa]; exact BoxS.new _ _ _)
  have HBA := Lib.hid (show RowKit.Below w.heap.size w wa by rw [hwa]; exact (Below.refl _ _).alloc (Nat.le_refl _) _)
  have hz : w.heap.size < wa.heap.size := by rw [hwa]; simp
  have hba : BytesAt wa.heap.size wa v m := by
    rcases hb with h1 | ⟨b, off, cap, h1, h2, h3, h4⟩
    · exact .inl h1
    · refine .inr ⟨b, off, cap, h1, h2, by omega, fun j hj => ?_⟩
      obtain ⟨y, h5, h6⟩ := h4 j hj
      exact ⟨y, h5, (HBA.out.cell (p := ⟨b, off + j, none⟩) h3).trans h6⟩
  have HOP := Lib.hid (open_any v m wa hba hm)
  have HWA := Lib.hid hwa
  clear hwa hba hb
  go_enter Tryz.func14, Tryz.ntmps14
  go_wp2_with fail
  rw [← HWA.out]
  refine HOP.out.mono ?_
  rintro x w1 ⟨g, rfl, hgl, hR1, hb1⟩
  have HR1 := Lib.hid hR1
  have hgl2 := hR1.1
  have RX1 := Lib.hid (HRX.out.kept (grown_of_below hb1) (by simp))
  have HB1 := Lib.hid (HBA.out.trans (hb1.mono (by omega)))
  have hz1 := hb1.size
  have HSM := Lib.hid (l7Draw_any g 0 w1 HR1.out (by omega))
  clear hR1 hb1
  go_wp2_with fail
  refine HSM.out.mono ?_
  rintro x w2 ⟨D, r, t, gd, cd, hs, hts, rfl, hRC, hgd, hcd, hmd, hR2, hG2⟩
  have hz2 := hG2.size
  have HS := Lib.hid hs
  have HTS := Lib.hid hts
  have RX2 := Lib.hid (RX1.out.kept hG2 (by simp; omega))
  have HB2 := Lib.hid (below_drawn HB1.out hG2 (by omega) (by omega))
  have HOB := Lib.hid hRC
  have r0 := RX2.out.c0
  have r1 := RX2.out.c1
  have f0 := RX2.out.z 0
  have f1 := RX2.out.z 1
  have hrl := RX2.out.lt
  obtain ⟨RZ, GZ⟩ := put_box RX2.out (.slice (some ⟨gd, 0, none⟩) D.size cd) r
  have HRZ := Lib.hid RZ
  have HBZ := Lib.hid ((HB2.out.setCell (p := ⟨w.heap.size, 0, none⟩) (Nat.le_refl _) (.slice (some ⟨gd, 0, none⟩) D.size cd)).setCell (p := ⟨w.heap.size, 1, none⟩) (Nat.le_refl _) (.int .i64 r))
  have HRW := Lib.hid (HOB.out.keptD GZ (by simp; omega))
  clear RZ GZ hRC hR2 hG2 hs hts
  go_wp2_with fail
  refine bodyPost_ret (v := .tuple #[.agg #[.slice (some ⟨gd, 0, none⟩) D.size cd, .int .i64 r], .string t]) (by simp [results, Tryz.results14, go_sem, HRZ.out.c0, HRZ.out.c1]) rfl (DrewTxt.mk D r t gd cd rfl HTS.out (by omega) HRW.out hcd hmd HS.out HBZ.out)

theorem of9 {z : ByteArray} (h : z ∈ [(⟨#[97]⟩ : ByteArray), ⟨#[98]⟩, ⟨#[122]⟩, ⟨#[99]⟩, ⟨#[100]⟩, ⟨#[97]⟩, ⟨#[105]⟩, ⟨#[]⟩, ⟨#[97, 98]⟩]) : z.size ≤ 2 := by
  simp only [List.mem_cons, List.not_mem_nil, or_false] at h
  rcases h with rfl | rfl | rfl | rfl | rfl | rfl | rfl | rfl | rfl <;> decide

set_option maxRecDepth 100000 in
set_option maxHeartbeats 1000000 in
theorem l7Letter_any (g p : Nat) (w : World) (h : RdAt w g p) (hp : p ≤ 50000) :
    Calls Tryz.prog 95 #[.pointer (some ⟨g, 0, none⟩)] w fun x w' => ∃ z : ByteArray, z.size ≤ 2 ∧ x = .returned (.string z) ∧ RdAt w' g (p + 1) ∧ w.grownBy w' (some g) := by
  have HOF := Lib.hid (show Calls Tryz.prog 80 #[.pointer (some ⟨g, 0, none⟩), .slice (some ⟨w.heap.size, 0, none⟩) 9 9] (w.alloc (.cells #[.string ⟨#[97]⟩, .string ⟨#[98]⟩, .string ⟨#[122]⟩, .string ⟨#[99]⟩, .string ⟨#[100]⟩, .string ⟨#[97]⟩, .string ⟨#[105]⟩, .string ⟨#[]⟩, .string ⟨#[97, 98]⟩] 9)) _ from ofLit_any g p [⟨#[97]⟩, ⟨#[98]⟩, ⟨#[122]⟩, ⟨#[99]⟩, ⟨#[100]⟩, ⟨#[97]⟩, ⟨#[105]⟩, ⟨#[]⟩, ⟨#[97, 98]⟩] w h (by omega) (by simp) (by simp))
  clear h
  go_enter Tryz.func95, Tryz.ntmps95
  go_wp2_with fail
  refine HOF.out.mono ?_
  rintro x w2 ⟨z, hz, rfl, hR, hG⟩
  have HZ := Lib.hid (of9 hz)
  have HR := Lib.hid hR
  have HG := Lib.hid hG
  clear hz hR hG
  go_wp2_with fail
  go_ret
  exact ⟨z, HZ.out, rfl, HR.out, HG.out⟩

set_option maxRecDepth 100000 in
set_option maxHeartbeats 4000000 in
theorem drawMask_any (v : Value) (m : Nat) (w : World) (hb : BytesAt w.heap.size w v m) (hm : m ≤ 1048576) :
    Calls Tryz.prog 60 #[v] w (DrewTxt w) := by
  obtain ⟨wa, hwa⟩ : ∃ wa, wa = w.alloc (.cells #[.slice none 0 0, .int .i64 0] 25) := ⟨_, rfl⟩
  have HRX := Lib.hid (show BoxS wa w.heap.size (.slice none 0 0) 0 by rw [hwa]; exact BoxS.new _ _ _)
  have HBA := Lib.hid (show RowKit.Below w.heap.size w wa by rw [hwa]; exact (Below.refl _ _).alloc (Nat.le_refl _) _)
  have hz : w.heap.size < wa.heap.size := by rw [hwa]; simp
  have hba : BytesAt wa.heap.size wa v m := by
    rcases hb with h1 | ⟨b, off, cap, h1, h2, h3, h4⟩
    · exact .inl h1
    · refine .inr ⟨b, off, cap, h1, h2, by omega, fun j hj => ?_⟩
      obtain ⟨y, h5, h6⟩ := h4 j hj
      exact ⟨y, h5, (HBA.out.cell (p := ⟨b, off + j, none⟩) h3).trans h6⟩
  have HOP := Lib.hid (open_any v m wa hba hm)
  have HWA := Lib.hid hwa
  clear hwa hba hb
  go_enter Tryz.func60, Tryz.ntmps60
  go_wp2_with fail
  rw [← HWA.out]
  refine HOP.out.mono ?_
  rintro x w1 ⟨g, rfl, hgl, hR1, hb1⟩
  have HR1 := Lib.hid hR1
  have hgl2 := hR1.1
  have RX1 := Lib.hid (HRX.out.kept (grown_of_below hb1) (by simp))
  have HB1 := Lib.hid (HBA.out.trans (hb1.mono (by omega)))
  have hz1 := hb1.size
  have HSM := Lib.hid (some_any g 0 w1 HR1.out (by omega))
  clear hR1 hb1
  go_wp2_with fail
  refine HSM.out.mono ?_
  rintro x w2 ⟨D, r, hs, ⟨u, rfl, ho, hv⟩, hR2, hG2⟩
  obtain ⟨gd, cd, rfl, hgd, hcd, hmd⟩ := owns_form ho hv
  have hDl : D.toList.length = D.size := Array.length_toList
  rw [hDl] at ho hv hcd
  have hRC : RowC w2 gd 0 D := by
    have := owns_row (n := D.size) (l := D.toList) ho
    rwa [Array.toArray_toList] at this
  have hz2 := hG2.size
  have HS := Lib.hid hs
  have RX2 := Lib.hid (RX1.out.kept hG2 (by simp; omega))
  have HB2 := Lib.hid (below_drawn HB1.out hG2 (by omega) (by omega))
  obtain ⟨wb, hwb⟩ : ∃ wb, wb = w2.alloc (.cells #[.slice (some ⟨gd, 0, none⟩) D.size cd, .int .i64 r] 25) := ⟨_, rfl⟩
  have HBX := Lib.hid (show BoxS wb w2.heap.size (.slice (some ⟨gd, 0, none⟩) D.size cd) r by rw [hwb]; exact BoxS.new _ _ _)
  have HRB := Lib.hid (show RdAt wb g 100 by rw [hwb]; exact (hR2.le (by omega)).alloc _)
  have RXB := Lib.hid (show BoxS wb w.heap.size (.slice none 0 0) 0 by rw [hwb]; exact RX2.out.kept (row := none) (World.grownBy_alloc _ _ _) (by simp))
  have HOB := Lib.hid (show RowC wb gd 0 D by rw [hwb]; exact hRC.below ((Below.refl _ _).alloc (Nat.le_refl _) _))
  have HBB := Lib.hid (show RowKit.Below w.heap.size w wb by rw [hwb]; exact HB2.out.alloc (by omega) _)
  have hzb : w2.heap.size < wb.heap.size := by rw [hwb]; simp
  have HWB := Lib.hid hwb
  have x0 := HBX.out.c0
  have x1 := HBX.out.c1
  have r0 := RXB.out.c0
  have r1 := RXB.out.c1
  have f0 := RXB.out.z 0
  have f1 := RXB.out.z 1
  have hxl := HBX.out.lt
  have hrl := RXB.out.lt
  have HAK := Lib.hid (l7Letter_any g 100 wb.drew HRB.out.drew (by omega))
  clear hwb hRC hR2 hG2 hs ho hv
  go_wp2_with fail
  rw [← HWB.out]
  go_region_held3 (fun w' => w'.cell? ⟨w2.heap.size, 0, none⟩ = some (.slice (some ⟨gd, 0, none⟩) D.size cd) ∧ w'.cell? ⟨w2.heap.size, 1, none⟩ = some (.int .i64 r)) (first | exact ⟨x0, x1⟩ | exact ⟨y0, y1⟩ | exact ⟨HK0.out _ _, HK1.out _ _⟩ | go_keep) (first
    | (go_at_call 95; (with_reducible refine (HAK.out).mono ?_); rintro _ w3 ⟨t, hts, rfl, R3, g3⟩; have HTS := Lib.hid (show t.size ≤ 10 from Nat.le_trans hts (by decide)); have G3 := Lib.hid (show wb.grownBy w3 (some g) from ⟨g3.os, g3.tape, g3.output, g3.size, g3.block⟩); have BX3 := Lib.hid (HBX.out.kept G3.out (by simp; omega)); have RX3 := Lib.hid (RXB.out.kept G3.out (by simp; omega)); have y0 := BX3.out.c0; have y1 := BX3.out.c1; have q0 := RX3.out.c0; have q1 := RX3.out.c1; have q2 := RX3.out.z 0; have q3 := RX3.out.z 1; have hyl := BX3.out.lt; have hql := RX3.out.lt; have z3 := G3.out.size; have HK0 := Lib.hid (fun u u' => ((kept_cells (W := w3) (a := w.heap.size) (b := w2.heap.size) (by omega) u u' 0).trans y0)); have HK1 := Lib.hid (fun u u' => ((kept_cells (W := w3) (a := w.heap.size) (b := w2.heap.size) (by omega) u u' 1).trans y1)); have HR3 := Lib.hid R3; clear R3 g3 hts))
  all_goals
    obtain ⟨RZ, GZ⟩ := put_box RX3.out (.slice (some ⟨gd, 0, none⟩) D.size cd) r
    have HRZ := Lib.hid RZ
    have HB3 := below_drawn HBB.out G3.out (by omega) (by omega)
    have HBZ := Lib.hid ((HB3.setCell (p := ⟨w.heap.size, 0, none⟩) (Nat.le_refl _) (.slice (some ⟨gd, 0, none⟩) D.size cd)).setCell (p := ⟨w.heap.size, 1, none⟩) (Nat.le_refl _) (.int .i64 r))
    have HRW := Lib.hid ((HOB.out.keptD G3.out (by simp; omega)).keptD GZ (by simp; omega))
    clear RZ GZ HB3
    go_wp2_with fail
    refine bodyPost_ret (v := .tuple #[.agg #[.slice (some ⟨gd, 0, none⟩) D.size cd, .int .i64 r], .string t]) (by simp [results, Tryz.results60, go_sem, HRZ.out.c0, HRZ.out.c1]) rfl (DrewTxt.mk D r t gd cd rfl HTS.out (by omega) HRW.out hcd hmd HS.out HBZ.out)

set_option maxRecDepth 100000 in
set_option maxHeartbeats 1000000 in
theorem drawMW_any (v : Value) (m : Nat) (w : World) (hb : BytesAt w.heap.size w v m) (hm : m ≤ 1048576) :
    Calls Tryz.prog 18 #[v] w (DrewTxt w) := by
  obtain ⟨wa, hwa⟩ : ∃ wa, wa = w.alloc (.cells #[.slice none 0 0, .int .i64 0] 25) := ⟨_, rfl⟩
  have HRX := Lib.hid (show BoxS wa w.heap.size (.slice none 0 0) 0 by rw [hwa]; exact BoxS.new _ _ _)
  have HBA := Lib.hid (show RowKit.Below w.heap.size w wa by rw [hwa]; exact (Below.refl _ _).alloc (Nat.le_refl _) _)
  have hz : w.heap.size < wa.heap.size := by rw [hwa]; simp
  have hba : BytesAt wa.heap.size wa v m := by
    rcases hb with h1 | ⟨b, off, cap, h1, h2, h3, h4⟩
    · exact .inl h1
    · refine .inr ⟨b, off, cap, h1, h2, by omega, fun j hj => ?_⟩
      obtain ⟨y, h5, h6⟩ := h4 j hj
      exact ⟨y, h5, (HBA.out.cell (p := ⟨b, off + j, none⟩) h3).trans h6⟩
  have HOP := Lib.hid (drawMask_any v m wa hba hm)
  have HWA := Lib.hid hwa
  clear hwa hba hb
  go_enter Tryz.func18, Tryz.ntmps18
  go_wp2_with fail
  rw [← HWA.out]
  refine HOP.out.mono ?_
  rintro x w1 ⟨D, r, t, gd, cd, rfl, hts, hgd, hRC, hcd, hmd, hs, hb1⟩
  have RX1 := Lib.hid (HRX.out.kept (grown_of_below hb1) (by simp))
  have HB1 := Lib.hid (HBA.out.trans (hb1.mono (by omega)))
  have hz1 := hb1.size
  have HS := Lib.hid hs
  have HTS := Lib.hid hts
  have HOB := Lib.hid hRC
  have r0 := RX1.out.c0
  have r1 := RX1.out.c1
  have f0 := RX1.out.z 0
  have f1 := RX1.out.z 1
  have hrl := RX1.out.lt
  obtain ⟨RZ, GZ⟩ := put_box RX1.out (.slice (some ⟨gd, 0, none⟩) D.size cd) r
  have HRZ := Lib.hid RZ
  have HBZ := Lib.hid ((HB1.out.setCell (p := ⟨w.heap.size, 0, none⟩) (Nat.le_refl _) (.slice (some ⟨gd, 0, none⟩) D.size cd)).setCell (p := ⟨w.heap.size, 1, none⟩) (Nat.le_refl _) (.int .i64 r))
  have HRW := Lib.hid (HOB.out.keptD GZ (by simp; omega))
  clear RZ GZ hRC hs hts hb1
  go_wp2_with fail
  refine bodyPost_ret (v := .tuple #[.agg #[.slice (some ⟨gd, 0, none⟩) D.size cd, .int .i64 r], .string t]) (by simp [results, Tryz.results18, go_sem, HRZ.out.c0, HRZ.out.c1]) rfl (DrewTxt.mk D r t gd cd rfl HTS.out (by omega) HRW.out hcd hmd HS.out HBZ.out)
end Go.Proofs.YtbhamkmiagdimaaGreatDoor
