
/- The draws of chapter 7: a switch and mostly an order of its targets. -/
import Derived.Test.YtbhamkmiagdimaaGreatDoorKsDrawF
import Derived.Test.YtbhamkmiagdimaaGreatDoorKsWordA
namespace Go.Proofs.YtbhamkmiagdimaaGreatDoor
open Go.RowKit Go.Shelf Go.Lib Go.Sort

/-- A switch and a text have been drawn; the source lies in block g. -/
def DrewOrd (g p : Nat) (w : World) (x : Ending) (w' : World) : Prop := ∃ (D : Array CaseD) (rest : Int) (s : ByteArray) (b cap : Nat), SmallSw D 9 ∧ s.size ≤ 10 ∧ x = .returned (.tuple #[.agg #[.slice (some ⟨b, 0, none⟩) D.size cap, .int .i64 rest], .string s]) ∧ RowC w' b 0 D ∧ w.heap.size ≤ b ∧ D.size ≤ cap ∧ cap ≤ maxLen ∧ RdAt w' g p ∧ w.grownBy w' (some g)
theorem DrewOrd.mk {g p : Nat} {w : World} {x : Ending} {w' : World} (D : Array CaseD) (rest : Int) (s : ByteArray) (b cap : Nat) (h1 : SmallSw D 9) (h2 : s.size ≤ 10) (h3 : x = .returned (.tuple #[.agg #[.slice (some ⟨b, 0, none⟩) D.size cap, .int .i64 rest], .string s])) (h4 : RowC w' b 0 D) (h5 : w.heap.size ≤ b) (h6 : D.size ≤ cap) (h7 : cap ≤ maxLen) (h8 : RdAt w' g p) (h9 : w.grownBy w' (some g)) : DrewOrd g p w x w' := ⟨D, rest, s, b, cap, h1, h2, h3, h4, h5, h6, h7, h8, h9⟩
theorem grown_two {w w1 w2 : World} {g B : Nat} (h1 : w.grownBy w1 (some g)) (h2 : w1.grownBy w2 (some B)) (hB : w.heap.size ≤ B) : w.grownBy w2 (some g) :=
  ⟨h2.os.trans h1.os, h2.tape.trans h1.tape, h2.output.trans h1.output, Nat.le_trans h1.size h2.size, fun q hq hne => (h2.block q (Nat.lt_of_lt_of_le hq h1.size) (by simp; omega)).trans (h1.block q hq hne)⟩
theorem grown_belowD {w w' : World} {r : Option Nat} (h : RowKit.Below w.heap.size w w') : w.grownBy w' r := ⟨h.os, h.tape, h.output, h.size, fun k hk _ => h.block k hk⟩
theorem grown_drewD {a w : World} {r : Option Nat} (h : a.grownBy w r) (n : Nat) : a.grownBy (w.drewN n) r := ⟨h.os, h.tape, h.output, h.size, h.block⟩
theorem of3 {z : ByteArray} (h : z ∈ [(⟨#[97]⟩ : ByteArray), ⟨#[122]⟩, ⟨#[104]⟩]) : z.size = 1 := by
  simp only [List.mem_cons, List.not_mem_nil, or_false] at h
  rcases h with rfl | rfl | rfl <;> rfl

set_option maxRecDepth 100000 in
set_option maxHeartbeats 4000000 in
theorem l7Draw_any (g p : Nat) (w : World) (h : RdAt w g p) (hp : p ≤ 30000) :
    Calls Tryz.prog 35 #[.pointer (some ⟨g, 0, none⟩)] w (DrewOrd g (p + 100) w) := by
  obtain ⟨wa, hwa⟩ : ∃ wa, wa = w.alloc (.cells #[.slice none 0 0, .int .i64 0] 25) := ⟨_, rfl⟩
  have HRX := Lib.hid (show BoxS wa w.heap.size (.slice none 0 0) 0 by rw [hwa]; exact BoxS.new _ _ _)
  have HGA := Lib.hid (show w.grownBy wa (some g) by rw [hwa]; exact World.grownBy_alloc _ _ _)
  have HRA := Lib.hid (show RdAt wa g p by rw [hwa]; exact h.alloc _)
  have hz : w.heap.size < wa.heap.size := by rw [hwa]; simp
  have HWA := Lib.hid hwa
  have hgw : g < w.heap.size := h.1
  have HSM := Lib.hid (some_any g p wa HRA.out (by omega))
  clear hwa h
  go_enter Tryz.func35, Tryz.ntmps35
  go_wp2_with fail
  rw [← HWA.out]
  refine HSM.out.mono ?_
  rintro x w1 ⟨D, r, hs, ⟨v, rfl, ho, hv⟩, hR1, hG1⟩
  have hz1 := hG1.size
  obtain ⟨gd, cd, rfl, hgd, hcd, hmd⟩ := owns_form ho hv
  have hDl : D.toList.length = D.size := Array.length_toList
  rw [hDl] at ho hv hcd
  obtain ⟨wb, hwb⟩ : ∃ wb, wb = w1.alloc (.cells #[.slice (some ⟨gd, 0, none⟩) D.size cd, .int .i64 r] 25) := ⟨_, rfl⟩
  have HBX := Lib.hid (show BoxS wb w1.heap.size (.slice (some ⟨gd, 0, none⟩) D.size cd) r by rw [hwb]; exact BoxS.new _ _ _)
  have HRB := Lib.hid (show RdAt wb g (p + 80) by rw [hwb]; exact hR1.alloc _)
  have HGB := Lib.hid (show w.grownBy wb (some g) by rw [hwb]; exact grownBy_trans (grownBy_trans HGA.out hG1) (World.grownBy_alloc _ _ _))
  have RXB := Lib.hid (show BoxS wb w.heap.size (.slice none 0 0) 0 by rw [hwb]; exact (HRX.out.kept hG1 (by simp; omega)).kept (row := none) (World.grownBy_alloc _ _ _) (by simp))
  have HOB := Lib.hid (show OwnsC wa.heap.size (.slice (some ⟨gd, 0, none⟩) D.size cd) D.toList wb by rw [hwb]; exact World.ownsRow.alloc ho _)
  have hzb : w1.heap.size < wb.heap.size := by rw [hwb]; simp
  have HRC := Lib.hid (show RowC wb gd 0 D by
    have := owns_row (n := D.size) (l := D.toList) HOB.out
    rwa [Array.toArray_toList] at this)
  have HWB := Lib.hid hwb
  have HS := Lib.hid hs
  have HV := Lib.hid hv
  have x0 := HBX.out.c0
  have x1 := HBX.out.c1
  clear hwb ho hv hR1 hG1 hs
  go_wp2_with fail
  rw [← HWB.out]
  refine (specValid_any gd 0 cd D r wb HRC.out hcd hmd).mono ?_
  rintro x w3 ⟨rfl, hb3⟩
  have HG3 := Lib.hid (show wb.grownBy w3 (some g) from grown_belowD hb3)
  have HR3 := Lib.hid (HRB.out.below hb3 (Nat.le_refl _))
  have HBB3 := Lib.hid hb3
  have hz3 := hb3.size
  have y0 := (hb3.cell (p := ⟨w1.heap.size, 0, none⟩) hzb).trans x0
  have y1 := (hb3.cell (p := ⟨w1.heap.size, 1, none⟩) hzb).trans x1
  clear hb3 x0 x1
  cases hsw : swB D r
  · go_wp2_with fail
    obtain ⟨t, ht⟩ : ∃ t : ByteArray, t = ⟨#[]⟩ := ⟨_, rfl⟩
    have ht8 : t.size ≤ 8 := by rw [ht]; exact Nat.zero_le _
    rw [← ht]
    have HGR := HG3
    have HRR := Lib.hid (show RdAt w3 g (p + 90) from HR3.out.le (by omega))
    clear ht y0 y1 hsw
    have HPK := Lib.hid (show Calls Tryz.prog 68 #[.pointer (some ⟨g, 0, none⟩), .int .i64 14] w3 _ from pickR_any g 14 (p + 90) w3 HRR.out (by omega) (by omega))
    refine HPK.out.mono ?_
    rintro x w6 ⟨k, rfl, _, R6, g6⟩
    have HG6 := Lib.hid (grownBy_trans HGR.out g6)
    have HR6 := Lib.hid R6
    have HX6 := Lib.hid (HBX.out.kept HG6.out (by simp; omega))
    have RX6 := Lib.hid (RXB.out.kept HG6.out (by simp; omega))
    have HO6 := Lib.hid (show OwnsC wa.heap.size (.slice (some ⟨gd, 0, none⟩) D.size cd) D.toList w6 from World.ownsRow.kept HOB.out HG6.out (.inr (by simp [Value.ownBlock]; omega)))
    have hz6 := HG6.out.size
    clear R6 g6 HPK
    have x0 := HX6.out.c0
    have x1 := HX6.out.c1
    have hxl := HX6.out.lt
    have hrl := RX6.out.lt
    by_cases hk0 : k = 0
    · subst hk0
      have HOF := Lib.hid (fun W (hW : RdAt W g (p + 91)) => (show Calls Tryz.prog 80 #[.pointer (some ⟨g, 0, none⟩), .slice (some ⟨W.heap.size, 0, none⟩) 3 3] (W.alloc (.cells #[.string ⟨#[97]⟩, .string ⟨#[122]⟩, .string ⟨#[104]⟩] 9)) _ from ofLit_any g (p + 91) [⟨#[97]⟩, ⟨#[122]⟩, ⟨#[104]⟩] W hW (by omega) (by simp) (by simp)))
      have HOF6 := Lib.hid (show Calls Tryz.prog 80 #[.pointer (some ⟨g, 0, none⟩), .slice (some ⟨w6.heap.size, 0, none⟩) 3 3] ((w6.alloc (.cells #[.string ⟨#[97]⟩, .string ⟨#[122]⟩, .string ⟨#[104]⟩] 9)).drew) _ from HOF.out w6.drew HR6.out)
      go_wp2_with fail
      have a0 : (w6.alloc (.cells #[.string ⟨#[97]⟩, .string ⟨#[122]⟩, .string ⟨#[104]⟩] 9)).cell? ⟨w1.heap.size, 0, none⟩ = some (.slice (some ⟨gd, 0, none⟩) D.size cd) := (HX6.out.kept (row := none) (World.grownBy_alloc _ _ _) (by simp)).c0
      have a1 : (w6.alloc (.cells #[.string ⟨#[97]⟩, .string ⟨#[122]⟩, .string ⟨#[104]⟩] 9)).cell? ⟨w1.heap.size, 1, none⟩ = some (.int .i64 r) := (HX6.out.kept (row := none) (World.grownBy_alloc _ _ _) (by simp)).c1
      go_region_held3 (fun w' => w'.cell? ⟨w1.heap.size, 0, none⟩ = some (.slice (some ⟨gd, 0, none⟩) D.size cd) ∧ w'.cell? ⟨w1.heap.size, 1, none⟩ = some (.int .i64 r)) (first | exact ⟨x0, x1⟩ | exact ⟨a0, a1⟩ | exact ⟨z0, z1⟩ | exact ⟨HK0.out _ _, HK1.out _ _⟩ | go_keep) (first
        | (go_at_call 80; (with_reducible refine (HOF6.out).mono ?_); rintro _ w7 ⟨zs, hzs, rfl, R7, g7⟩; have HZS := Lib.hid (of3 hzs); have hcat0 : t.size + zs.size ≤ 9223372036854775807 := (by have := HZS.out; omega); have hcat1 : ¬ 9223372036854775807 < t.size + zs.size := (by omega); have hcat : (t.size : Int) + (zs.size : Int) ≤ 9223372036854775807 := (by have := HZS.out; omega); have hcat2 : ¬ (9223372036854775807 : Int) < (t.size : Int) + (zs.size : Int) := (by omega); have G7 := Lib.hid (grownBy_trans HG6.out (show w6.grownBy w7 (some g) from ⟨g7.os, g7.tape, g7.output, g7.size, g7.block⟩)); have HX7 := Lib.hid (HBX.out.kept G7.out (by simp; omega)); have RX7 := Lib.hid (RXB.out.kept G7.out (by simp; omega)); have z0 := HX7.out.c0; have z1 := HX7.out.c1; have q0 := RX7.out.c0; have q1 := RX7.out.c1; have q2 := RX7.out.z 0; have q3 := RX7.out.z 1; have hyl := HX7.out.lt; have hql := RX7.out.lt; have zz7 := G7.out.size; have HK0 := Lib.hid (fun u u' => ((kept_cells (W := w7) (a := w.heap.size) (b := w1.heap.size) (by omega) u u' 0).trans z0)); have HK1 := Lib.hid (fun u u' => ((kept_cells (W := w7) (a := w.heap.size) (b := w1.heap.size) (by omega) u u' 1).trans z1)); have HR7 := Lib.hid R7; clear R7 g7 hzs))
      all_goals
        obtain ⟨RZ, OZ, GZ⟩ := put_sw RX7.out (World.ownsRow.kept HOB.out G7.out (.inr (by simp [Value.ownBlock]; omega))) r
        have HRZ := Lib.hid RZ
        have HRW := Lib.hid (show RowC _ gd 0 D by
          have := owns_row (n := D.size) (l := D.toList) OZ
          rwa [Array.toArray_toList] at this)
        have HGZ := Lib.hid (grown_two (grownBy_trans HGB.out G7.out) GZ (Nat.le_refl _))
        have HRR7 := Lib.hid ((HR7.out.kept GZ (fun q e => by cases e; omega)).le (show p + 91 + 1 ≤ p + 100 by omega))
        have hss : (t ++ zs).size ≤ 10 := by rw [ByteArray.size_append, HZS.out]; omega
        have HSS := Lib.hid hss
        clear RZ OZ GZ hss
        go_wp2_with fail
        refine bodyPost_ret (v := .tuple #[.agg #[.slice (some ⟨gd, 0, none⟩) D.size cd, .int .i64 r], .string (t ++ zs)]) (by simp [results, Tryz.results35, go_sem, HRZ.out.c0, HRZ.out.c1]) rfl (DrewOrd.mk D r (t ++ zs) gd cd HS.out HSS.out rfl HRW.out (by omega) hcd hmd HRR7.out HGZ.out)
    · have hki : ¬ (k : Int) = 0 := by omega
      have r0 := RX6.out.c0
      have r1 := RX6.out.c1
      have r2 := RX6.out.z 0
      have r3 := RX6.out.z 1
      obtain ⟨RZ, OZ, GZ⟩ := put_sw RX6.out HO6.out r
      have HRZ := Lib.hid RZ
      have HRW := Lib.hid (show RowC _ gd 0 D by
        have := owns_row (n := D.size) (l := D.toList) OZ
        rwa [Array.toArray_toList] at this)
      have HGZ := Lib.hid (grown_two (grownBy_trans HGB.out HG6.out) GZ (Nat.le_refl _))
      have HRR7 := Lib.hid ((HR6.out.kept GZ (fun q e => by cases e; omega)).le (show p + 90 + 1 ≤ p + 100 by omega))
      have HSS := Lib.hid (show t.size ≤ 10 by omega)
      clear RZ OZ GZ
      go_wp2_with fail
      refine bodyPost_ret (v := .tuple #[.agg #[.slice (some ⟨gd, 0, none⟩) D.size cd, .int .i64 r], .string t]) (by simp [results, Tryz.results35, go_sem, HRZ.out.c0, HRZ.out.c1]) rfl (DrewOrd.mk D r t gd cd HS.out HSS.out rfl HRW.out (by omega) hcd hmd HRR7.out HGZ.out)
  · have HO := Lib.hid ((swB_iff _ _).1 hsw)
    have HOWN := Lib.hid (l7Own_any gd 0 cd D r w3 (HRC.out.below HBB3.out) HO.out)
    have hln := lettersTo_length D 8
    have hls := strOf_size (lettersTo D 8)
    obtain ⟨o, ho⟩ : ∃ o, o = strOf (lettersTo D 8) := ⟨_, rfl⟩
    rw [← ho] at HOWN hls
    have ho8 : o.size ≤ 8 := by omega
    have ho8i : (o.size : Int) ≤ 8 := by omega
    clear ho hls hln hsw
    go_wp2_with fail
    refine HOWN.out.mono ?_
    rintro x w4 ⟨rfl, hb4⟩
    have HG4 := Lib.hid (grownBy_trans HG3.out (grown_belowD (r := some g) hb4))
    have HR4 := Lib.hid (HR3.out.below hb4 (Nat.le_refl _))
    clear hb4 y0 y1
    go_wp2_with fail
    go_loopw [5, 7, 8, 17] (fun v _ _ i wr => ∃ (q : Nat) (t : ByteArray), i = .int .i64 q ∧ q ≤ o.size ∧ v = .string t ∧ t.size = q ∧ Hid (wb.grownBy wr (some g)) ∧ Hid (RdAt wr g (p + 80 + q))) (fun _ _ _ i _ => o.size - (intOf i).toNat)
    case atStart => exact ⟨0, ⟨#[]⟩, rfl, Nat.zero_le _, rfl, rfl, HG4.out, HR4.out⟩
    case round =>
      obtain ⟨i, t, rfl, hi, rfl, hts, HGR, HRI⟩ := hrel
      by_cases hlt : i < o.size
      · have hii : (i : Int) < (o.size : Int) := by omega
        have hti : (t.size : Int) = i := by omega
        have HPK := Lib.hid (show Calls Tryz.prog 68 #[.pointer (some ⟨g, 0, none⟩), .int .i64 ((i : Int) + 1)] wr _ from pickR_any g (i + 1) (p + 80 + i) wr HRI.out (by omega) (by omega))
        go_wp2_with fail
        refine HPK.out.mono ?_
        rintro x w5 ⟨k, rfl, hk, R5, g5⟩
        have hk2 : k ≤ i := by have := hk (by omega); omega
        have HG5 := Lib.hid (grownBy_trans HGR.out g5)
        have HR5 := Lib.hid R5
        have hk3 : (k : Int) ≤ i := by omega
        have hsz3 : (t.extract 0 k ++ o.extract i (i + 1) ++ t.extract k i).size = i + 1 := by
          simp only [ByteArray.size_append, ByteArray.size_extract]
          omega
        have HSZ := Lib.hid hsz3
        have HLT := Lib.hid hlt
        clear hk R5 g5 HPK hsz3
        go_wp2_with fail
        go_quiet (fail)
        go_wp2_with fail
        go_roundw
        case rel => exact ⟨i + 1, _, by go_num, by have := HLT.out; omega, rfl, HSZ.out, grown_drewD HG5.out _, HR5.out⟩
        case measure => simp [intOf]; omega
      · have hie : i = o.size := by omega
        subst hie
        have ht8 : t.size ≤ 8 := by omega
        have HRR := Lib.hid (show RdAt wr g (p + 90) from HRI.out.le (by omega))
        go_wp2_with fail
        have HPK := Lib.hid (show Calls Tryz.prog 68 #[.pointer (some ⟨g, 0, none⟩), .int .i64 14] wr _ from pickR_any g 14 (p + 90) wr HRR.out (by omega) (by omega))
        refine HPK.out.mono ?_
        rintro x w6 ⟨k, rfl, _, R6, g6⟩
        have HG6 := Lib.hid (grownBy_trans HGR.out g6)
        have HR6 := Lib.hid R6
        have HX6 := Lib.hid (HBX.out.kept HG6.out (by simp; omega))
        have RX6 := Lib.hid (RXB.out.kept HG6.out (by simp; omega))
        have HO6 := Lib.hid (show OwnsC wa.heap.size (.slice (some ⟨gd, 0, none⟩) D.size cd) D.toList w6 from World.ownsRow.kept HOB.out HG6.out (.inr (by simp [Value.ownBlock]; omega)))
        have hz6 := HG6.out.size
        clear R6 g6 HPK
        have x0 := HX6.out.c0
        have x1 := HX6.out.c1
        have hxl := HX6.out.lt
        have hrl := RX6.out.lt
        by_cases hk0 : k = 0
        · subst hk0
          have HOF := Lib.hid (fun W (hW : RdAt W g (p + 91)) => (show Calls Tryz.prog 80 #[.pointer (some ⟨g, 0, none⟩), .slice (some ⟨W.heap.size, 0, none⟩) 3 3] (W.alloc (.cells #[.string ⟨#[97]⟩, .string ⟨#[122]⟩, .string ⟨#[104]⟩] 9)) _ from ofLit_any g (p + 91) [⟨#[97]⟩, ⟨#[122]⟩, ⟨#[104]⟩] W hW (by omega) (by simp) (by simp)))
          have HOF6 := Lib.hid (show Calls Tryz.prog 80 #[.pointer (some ⟨g, 0, none⟩), .slice (some ⟨w6.heap.size, 0, none⟩) 3 3] ((w6.alloc (.cells #[.string ⟨#[97]⟩, .string ⟨#[122]⟩, .string ⟨#[104]⟩] 9)).drew) _ from HOF.out w6.drew HR6.out)
          go_wp2_with fail
          have a0 : (w6.alloc (.cells #[.string ⟨#[97]⟩, .string ⟨#[122]⟩, .string ⟨#[104]⟩] 9)).cell? ⟨w1.heap.size, 0, none⟩ = some (.slice (some ⟨gd, 0, none⟩) D.size cd) := (HX6.out.kept (row := none) (World.grownBy_alloc _ _ _) (by simp)).c0
          have a1 : (w6.alloc (.cells #[.string ⟨#[97]⟩, .string ⟨#[122]⟩, .string ⟨#[104]⟩] 9)).cell? ⟨w1.heap.size, 1, none⟩ = some (.int .i64 r) := (HX6.out.kept (row := none) (World.grownBy_alloc _ _ _) (by simp)).c1
          go_region_held3 (fun w' => w'.cell? ⟨w1.heap.size, 0, none⟩ = some (.slice (some ⟨gd, 0, none⟩) D.size cd) ∧ w'.cell? ⟨w1.heap.size, 1, none⟩ = some (.int .i64 r)) (first | exact ⟨x0, x1⟩ | exact ⟨a0, a1⟩ | exact ⟨z0, z1⟩ | exact ⟨HK0.out _ _, HK1.out _ _⟩ | go_keep) (first
            | (go_at_call 80; (with_reducible refine (HOF6.out).mono ?_); rintro _ w7 ⟨zs, hzs, rfl, R7, g7⟩; have HZS := Lib.hid (of3 hzs); have hcat0 : t.size + zs.size ≤ 9223372036854775807 := (by have := HZS.out; omega); have hcat1 : ¬ 9223372036854775807 < t.size + zs.size := (by omega); have hcat3 : ¬ 9223372036854775807 < o.size + zs.size := (by omega); have hcat4 : ¬ 9223372036854775807 < o.size + 1 := (by omega); have hcat5 : ¬ 9223372036854775807 < t.size + 1 := (by omega); have hcat : (t.size : Int) + (zs.size : Int) ≤ 9223372036854775807 := (by have := HZS.out; omega); have hcat2 : ¬ (9223372036854775807 : Int) < (t.size : Int) + (zs.size : Int) := (by omega); have G7 := Lib.hid (grownBy_trans HG6.out (show w6.grownBy w7 (some g) from ⟨g7.os, g7.tape, g7.output, g7.size, g7.block⟩)); have HX7 := Lib.hid (HBX.out.kept G7.out (by simp; omega)); have RX7 := Lib.hid (RXB.out.kept G7.out (by simp; omega)); have z0 := HX7.out.c0; have z1 := HX7.out.c1; have q0 := RX7.out.c0; have q1 := RX7.out.c1; have q2 := RX7.out.z 0; have q3 := RX7.out.z 1; have hyl := HX7.out.lt; have hql := RX7.out.lt; have zz7 := G7.out.size; have HK0 := Lib.hid (fun u u' => ((kept_cells (W := w7) (a := w.heap.size) (b := w1.heap.size) (by omega) u u' 0).trans z0)); have HK1 := Lib.hid (fun u u' => ((kept_cells (W := w7) (a := w.heap.size) (b := w1.heap.size) (by omega) u u' 1).trans z1)); have HR7 := Lib.hid R7; clear R7 g7 hzs))
          all_goals
            obtain ⟨RZ, OZ, GZ⟩ := put_sw RX7.out (World.ownsRow.kept HOB.out G7.out (.inr (by simp [Value.ownBlock]; omega))) r
            have HRZ := Lib.hid RZ
            have HRW := Lib.hid (show RowC _ gd 0 D by
              have := owns_row (n := D.size) (l := D.toList) OZ
              rwa [Array.toArray_toList] at this)
            have HGZ := Lib.hid (grown_two (grownBy_trans HGB.out G7.out) GZ (Nat.le_refl _))
            have HRR7 := Lib.hid ((HR7.out.kept GZ (fun q e => by cases e; omega)).le (show p + 91 + 1 ≤ p + 100 by omega))
            have hss : (t ++ zs).size ≤ 10 := by rw [ByteArray.size_append, HZS.out]; omega
            have HSS := Lib.hid hss
            clear RZ OZ GZ hss
            go_wp2_with fail
            refine bodyPost_ret (v := .tuple #[.agg #[.slice (some ⟨gd, 0, none⟩) D.size cd, .int .i64 r], .string (t ++ zs)]) (by simp [results, Tryz.results35, go_sem, HRZ.out.c0, HRZ.out.c1]) rfl (DrewOrd.mk D r (t ++ zs) gd cd HS.out HSS.out rfl HRW.out (by omega) hcd hmd HRR7.out HGZ.out)
        · have hki : ¬ (k : Int) = 0 := by omega
          have r0 := RX6.out.c0
          have r1 := RX6.out.c1
          have r2 := RX6.out.z 0
          have r3 := RX6.out.z 1
          obtain ⟨RZ, OZ, GZ⟩ := put_sw RX6.out HO6.out r
          have HRZ := Lib.hid RZ
          have HRW := Lib.hid (show RowC _ gd 0 D by
            have := owns_row (n := D.size) (l := D.toList) OZ
            rwa [Array.toArray_toList] at this)
          have HGZ := Lib.hid (grown_two (grownBy_trans HGB.out HG6.out) GZ (Nat.le_refl _))
          have HRR7 := Lib.hid ((HR6.out.kept GZ (fun q e => by cases e; omega)).le (show p + 90 + 1 ≤ p + 100 by omega))
          have HSS := Lib.hid (show t.size ≤ 10 by omega)
          clear RZ OZ GZ
          go_wp2_with fail
          refine bodyPost_ret (v := .tuple #[.agg #[.slice (some ⟨gd, 0, none⟩) D.size cd, .int .i64 r], .string t]) (by simp [results, Tryz.results35, go_sem, HRZ.out.c0, HRZ.out.c1]) rfl (DrewOrd.mk D r t gd cd HS.out HSS.out rfl HRW.out (by omega) hcd hmd HRR7.out HGZ.out)

theorem RowC.keptD {W W' : World} {g off : Nat} {d : Array CaseD} {row : Option Nat} (h : RowC W g off d) (hg : W.grownBy W' row) (hne : some g ≠ row) : RowC W' g off d := by
  have hc : ∀ j, W'.cell? ⟨g, j, none⟩ = W.cell? ⟨g, j, none⟩ := fun j => World.cell?_of_block (w := W) (hg.block g h.old hne)
  exact ⟨Nat.lt_of_lt_of_le h.old hg.size, fun j hj => (hc _).trans (h.low j hj), fun j hj => (hc _).trans (h.high j hj), fun j hj => (hc _).trans (h.target j hj), fun j hj => (hc _).trans (h.weight j hj)⟩
theorem put_box {W : World} {B : Nat} {v : Value} {r : Int} (hB : BoxS W B v r) (u : Value) (z : Int) :
    BoxS ((W.setCell ⟨B, 0, none⟩ u).setCell ⟨B, 1, none⟩ (.int .i64 z)) B u z ∧ W.grownBy ((W.setCell ⟨B, 0, none⟩ u).setCell ⟨B, 1, none⟩ (.int .i64 z)) (some B) :=
  ⟨(hB.set u).set1 z, (grown_set W B 0 u).trans (grown_set (W.setCell ⟨B, 0, none⟩ u) B 1 (.int .i64 z))⟩
/-- A switch, a text and a key have been drawn. -/
def DrewOKey (w : World) (x : Ending) (w' : World) : Prop := ∃ (D : Array CaseD) (rest key : Int) (s : ByteArray) (b cap : Nat), x = .returned (.tuple #[.agg #[.slice (some ⟨b, 0, none⟩) D.size cap, .int .i64 rest], .string s, .int .i64 key]) ∧ s.size ≤ 10 ∧ RowC w' b 0 D ∧ D.size ≤ cap ∧ cap ≤ maxLen ∧ SmallSw D 9 ∧ RowKit.Below w.heap.size w w'
theorem DrewOKey.mk {w : World} {x : Ending} {w' : World} (D : Array CaseD) (rest key : Int) (s : ByteArray) (b cap : Nat) (h1 : x = .returned (.tuple #[.agg #[.slice (some ⟨b, 0, none⟩) D.size cap, .int .i64 rest], .string s, .int .i64 key])) (h0 : s.size ≤ 10) (h2 : RowC w' b 0 D) (h3 : D.size ≤ cap) (h4 : cap ≤ maxLen) (h5 : SmallSw D 9) (h6 : RowKit.Below w.heap.size w w') : DrewOKey w x w' := ⟨D, rest, key, s, b, cap, h1, h0, h2, h3, h4, h5, h6⟩

set_option maxRecDepth 100000 in
set_option maxHeartbeats 4000000 in
theorem drawRun_any (v : Value) (m : Nat) (w : World) (hb : BytesAt w.heap.size w v m) (hm : m ≤ 1048576) :
    Calls Tryz.prog 6 #[v] w (DrewOKey w) := by
  obtain ⟨wa, hwa⟩ : ∃ wa, wa = w.alloc (.cells #[.slice none 0 0, .int .i64 0] 25) := ⟨_, rfl⟩
  have HRX := Lib.hid (show BoxS wa w.heap.size (.slice none 0 0) 0 by rw [hwa]; exact BoxS.new _ _ _)
  have HBA := Lib.hid (show RowKit.Below w.heap.size w wa by rw [hwa]; exact (Below.refl _ _).alloc (Nat.le_refl _) _)
  have hz : w.heap.size < wa.heap.size := by rw [hwa]; simp
  have hba : BytesAt wa.heap.size wa v m := by
    rcases hb with h1 | ⟨b, off, cap, h1, h2, h3, h4⟩
    · exact .inl h1
    · refine .inr ⟨b, off, cap, h1, h2, by omega, fun j hj => ?_⟩
      obtain ⟨y, h5, h6⟩ := h4 j hj
      exact ⟨y, h5, (HBA.out.cell (p := ⟨b, off + j, none⟩) h3).trans h6⟩
  have HOP := Lib.hid (open_any v m wa hba hm)
  have HWA := Lib.hid hwa
  clear hwa hba hb
  go_enter Tryz.func6, Tryz.ntmps6
  go_wp2_with fail
  rw [← HWA.out]
  refine HOP.out.mono ?_
  rintro x w1 ⟨g, rfl, hgl, hR1, hb1⟩
  have HR1 := Lib.hid hR1
  have hgl2 := hR1.1
  have RX1 := Lib.hid (HRX.out.kept (grown_of_below hb1) (by simp))
  have HB1 := Lib.hid (HBA.out.trans (hb1.mono (by omega)))
  have hz1 := hb1.size
  have HSM := Lib.hid (l7Draw_any g 0 w1 HR1.out (by omega))
  clear hR1 hb1
  go_wp2_with fail
  refine HSM.out.mono ?_
  rintro x w2 ⟨D, r, t, gd, cd, hs, hts, rfl, hRC, hgd, hcd, hmd, hR2, hG2⟩
  have hz2 := hG2.size
  have HS := Lib.hid hs
  have HTS := Lib.hid hts
  have RX2 := Lib.hid (RX1.out.kept hG2 (by simp; omega))
  have HB2 := Lib.hid (below_drawn HB1.out hG2 (by omega) (by omega))
  obtain ⟨wb, hwb⟩ : ∃ wb, wb = w2.alloc (.cells #[.slice (some ⟨gd, 0, none⟩) D.size cd, .int .i64 r] 25) := ⟨_, rfl⟩
  have HBX := Lib.hid (show BoxS wb w2.heap.size (.slice (some ⟨gd, 0, none⟩) D.size cd) r by rw [hwb]; exact BoxS.new _ _ _)
  have HRB := Lib.hid (show RdAt wb g 100 by rw [hwb]; exact (hR2.le (by omega)).alloc _)
  have RXB := Lib.hid (show BoxS wb w.heap.size (.slice none 0 0) 0 by rw [hwb]; exact RX2.out.kept (row := none) (World.grownBy_alloc _ _ _) (by simp))
  have HOB := Lib.hid (show RowC wb gd 0 D by rw [hwb]; exact hRC.below ((Below.refl _ _).alloc (Nat.le_refl _) _))
  have HBB := Lib.hid (show RowKit.Below w.heap.size w wb by rw [hwb]; exact HB2.out.alloc (by omega) _)
  have hzb : w2.heap.size < wb.heap.size := by rw [hwb]; simp
  have HWB := Lib.hid hwb
  have x0 := HBX.out.c0
  have x1 := HBX.out.c1
  have r0 := RXB.out.c0
  have r1 := RXB.out.c1
  have f0 := RXB.out.z 0
  have f1 := RXB.out.z 1
  have hxl := HBX.out.lt
  have hrl := RXB.out.lt
  have HAK := Lib.hid (anyKey_any g 100 wb.drew HRB.out.drew (by omega))
  clear hwb hRC hR2 hG2 hs hts
  go_wp2_with fail
  rw [← HWB.out]
  go_region_held3 (fun w' => w'.cell? ⟨w2.heap.size, 0, none⟩ = some (.slice (some ⟨gd, 0, none⟩) D.size cd) ∧ w'.cell? ⟨w2.heap.size, 1, none⟩ = some (.int .i64 r)) (first | exact ⟨x0, x1⟩ | exact ⟨y0, y1⟩ | exact ⟨HK0.out _ _, HK1.out _ _⟩ | go_keep) (first
    | (go_at_call 36; (with_reducible refine (HAK.out).mono ?_); rintro _ w3 ⟨key, rfl, R3, g3⟩; have G3 := Lib.hid (show wb.grownBy w3 (some g) from ⟨g3.os, g3.tape, g3.output, g3.size, g3.block⟩); have BX3 := Lib.hid (HBX.out.kept G3.out (by simp; omega)); have RX3 := Lib.hid (RXB.out.kept G3.out (by simp; omega)); have y0 := BX3.out.c0; have y1 := BX3.out.c1; have q0 := RX3.out.c0; have q1 := RX3.out.c1; have q2 := RX3.out.z 0; have q3 := RX3.out.z 1; have hyl := BX3.out.lt; have hql := RX3.out.lt; have z3 := G3.out.size; have HK0 := Lib.hid (fun u u' => ((kept_cells (W := w3) (a := w.heap.size) (b := w2.heap.size) (by omega) u u' 0).trans y0)); have HK1 := Lib.hid (fun u u' => ((kept_cells (W := w3) (a := w.heap.size) (b := w2.heap.size) (by omega) u u' 1).trans y1)); have HR3 := Lib.hid R3; clear R3 g3))
  all_goals
    obtain ⟨RZ, GZ⟩ := put_box RX3.out (.slice (some ⟨gd, 0, none⟩) D.size cd) r
    have HRZ := Lib.hid RZ
    have HB3 := below_drawn HBB.out G3.out (by omega) (by omega)
    have HBZ := Lib.hid ((HB3.setCell (p := ⟨w.heap.size, 0, none⟩) (Nat.le_refl _) (.slice (some ⟨gd, 0, none⟩) D.size cd)).setCell (p := ⟨w.heap.size, 1, none⟩) (Nat.le_refl _) (.int .i64 r))
    have HRW := Lib.hid ((HOB.out.keptD G3.out (by simp; omega)).keptD GZ (by simp; omega))
    clear RZ GZ HB3
    go_wp2_with fail
    refine bodyPost_ret (v := .tuple #[.agg #[.slice (some ⟨gd, 0, none⟩) D.size cd, .int .i64 r], .string t, .int .i64 key]) (by simp [results, Tryz.results6, go_sem, HRZ.out.c0, HRZ.out.c1]) rfl (DrewOKey.mk D r key t gd cd rfl HTS.out HRW.out hcd hmd HS.out HBZ.out)
end Go.Proofs.YtbhamkmiagdimaaGreatDoor
