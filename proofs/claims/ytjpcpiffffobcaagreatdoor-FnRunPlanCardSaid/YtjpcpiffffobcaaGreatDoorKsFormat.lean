
/- FormatSwitch: the program's and the model's. -/
import Derived.Test.YtjpcpiffffobcaaGreatDoorKsText
namespace Go.Proofs.YtjpcpiffffobcaaGreatDoor
open Go.RowKit Go.Shelf Go.Lib Go.Sort

def strRow (d : Array CaseD) (n : Nat) : List Value := (List.range n).map fun j => Value.string (textS d[j]!)
theorem strRow_succ (d : Array CaseD) (n : Nat) : strRow d n ++ [.string (textS d[n]!)] = strRow d (n + 1) := by simp [strRow, List.range_succ]
theorem info9 : (Tryz.prog.info? 9).map (fun i => (i.zero, i.size, i.bytes)) = some (some (.string ⟨#[]⟩), 1, 16) := by kernel_rfl

theorem join_any (d : Array CaseD) (rest : Int) (n base : Nat) (v : Value) (w : World) (ho : w.ownsRow base 9 1 v n (strRow d n)) (hok : SwOK d rest) (hn : n ≤ d.size) :
    Calls Tryz.prog 60 #[v, .string commaS] w fun x w' => x = .returned (.string (fmtTo d n)) ∧ RowKit.Below w.heap.size w w' := by
  rcases ho.2 with ⟨rfl, rfl⟩ | ⟨g, cap, cur, rfl, hg, hh, hnc, hcm, _⟩
  · exact (Tryz.strings_Join_none none 0 commaS w).mono fun _ _ ⟨h1, h2⟩ => ⟨h1, h2 ▸ Below.refl _ _⟩
  · have hlen : (texts d n).length = n := by simp [texts]
    have h := Tryz.strings_Join g 0 cap (texts d n) commaS w (fun j x hx => ?_) (Array.getElem?_eq_some_iff.1 hh).1 (by rw [hlen]; have := hok.size; omega) (by rw [hlen]; exact hnc) ?_
    · rw [hlen, join_texts] at h
      exact h
    · obtain ⟨hj, rfl⟩ := List.getElem?_eq_some_iff.1 hx
      have hj' : j < n := by simpa [texts] using hj
      rw [Nat.zero_add, ho.cellAt j (by omega)]
      simp [strRow, texts, hj']
    · have h1 := congrArg ByteArray.size (join_texts d n)
      have h2 := fmtTo_size hok n hn
      have h3 := hok.size
      have h4 : (⟨(Lib.join ((texts d n).map (·.data.toList)) commaS.data.toList).toArray⟩ : ByteArray).size = (Lib.join ((texts d n).map (·.data.toList)) commaS.data.toList).length := by simp [ByteArray.size]
      rw [h4] at h1
      omega

set_option maxRecDepth 100000 in
set_option maxHeartbeats 2000000 in
theorem specFormat_any (b off cap : Nat) (d : Array CaseD) (rest : Int) (w : World) (hR : RowC w b off d) (hcap : d.size ≤ cap) (hmax : cap ≤ maxLen) :
    Calls Tryz.prog 118 #[.agg #[.slice (some ⟨b, off, none⟩) d.size cap, .int .i64 rest]] w fun x w' => x = .returned (.string (fmtN d rest)) ∧ RowKit.Below w.heap.size w w' := by
  have hv := fun W (hW : RowKit.Below w.heap.size w W) => specValid_any b off cap d rest W (hR.below hW) hcap hmax
  have HR := Lib.hid hR
  obtain ⟨wa, hwa⟩ : ∃ wa, wa = w.alloc (.cells #[.slice (some ⟨b, off, none⟩) d.size cap, .int .i64 rest] 32) := ⟨_, rfl⟩
  have c0 : wa.cell? ⟨w.heap.size, 0, none⟩ = some (.slice (some ⟨b, off, none⟩) d.size cap) := by rw [hwa]; simp
  have c1 : wa.cell? ⟨w.heap.size, 1, none⟩ = some (.int .i64 rest) := by rw [hwa]; simp
  have hz : w.heap.size < wa.heap.size := by rw [hwa]; simp
  have hba : RowKit.Below w.heap.size w wa := by rw [hwa]; exact (Below.refl _ _).alloc (Nat.le_refl _) _
  have HA := Lib.hid hba
  have C0 := Lib.hid c0
  have C1 := Lib.hid c1
  have HWA := Lib.hid hwa
  clear hba c0 c1 hwa hR
  cases hs : swB d rest
  all_goals
    simp only [hs] at hv
    have HV := Lib.hid hv
    have HS := Lib.hid hs
    clear hv hs
    go_enter Tryz.func118, Tryz.ntmps118
    go_wp2_with fail
    rw [← HWA.out]
    refine (HV.out _ HA.out).mono ?_
    rintro x w1 ⟨rfl, hb⟩
    have HB := Lib.hid hb
    have hz1 := hb.size
    have a0 := (hb.cell (p := ⟨w.heap.size, 0, none⟩) hz).trans C0.out
    have a1 := (hb.cell (p := ⟨w.heap.size, 1, none⟩) hz).trans C1.out
    clear hb
    go_wp2_with fail
  · go_ret
    exact ⟨retStr (by rw [fmtN, if_neg (by rw [HS.out]; exact Bool.false_ne_true)]), HA.out.trans (HB.out.mono (by omega))⟩
  · have HO := Lib.hid ((swB_iff _ _).1 HS.out)
    have h8 : (d.size : Int) ≤ 8 := by have := HO.out.size; omega
    have h8n : d.size ≤ 8 := HO.out.size
    clear a0 a1
    go_loopw [3, 12] (fun v i wr => ∃ k : Nat, i = .int .i64 k ∧ k ≤ d.size ∧ v = .string (fmtTo d k) ∧ Hid (RowKit.Below wa.heap.size wa wr) ∧ wa.heap.size ≤ wr.heap.size) (fun _ i _ => d.size - (intOf i).toNat)
    case atStart => exact ⟨0, rfl, Nat.zero_le _, rfl, HB.out, hz1⟩
    case round =>
      obtain ⟨k, rfl, hk, rfl, HW, hw2⟩ := hrel
      have HWW := Lib.hid (HA.out.trans (HW.out.mono (by omega)))
      have hsz := fmtTo_size HO.out k hk
      obtain ⟨t, ht⟩ : ∃ t, t = fmtTo d k := ⟨_, rfl⟩
      rw [← ht] at hsz ⊢
      have HT := Lib.hid ht
      clear ht
      have hsz2 : t.size ≤ 72 := by omega
      clear hsz
      by_cases hlt : k < d.size
      · have hx := HR.out.below HWW.out
        have x0 := hx.low k hlt
        have x1 := hx.high k hlt
        have x2 := hx.target k hlt
        have x3 := hx.weight k hlt
        have hcase := HO.out.case k hlt
        clear hx
        obtain ⟨x, hxe⟩ : ∃ x, x = d[k]! := ⟨_, rfl⟩
        rw [← hxe] at x0 x1 x2 x3 hcase
        have HX := Lib.hid (show textS d[k]! = (rangeS x.low x.high ++ x.target) ++ itoaS x.weight by rw [hxe]; rfl)
        clear hxe
        have m1 := caseB_low hcase
        have m2 := caseB_high hcase
        have m3 := caseB_weight hcase
        have s1 := rangeS_size m1.1 m1.2 m2.1 m2.2
        have s2 := caseB_target hcase
        have s3 := itoaS_size m3.1 m3.2
        have s2' : x.target.size ≤ 1 := by omega
        have hrg := Lib.hid (fun W => l1Range_any x.low x.high W m1.1 m1.2 m2.1 m2.2)
        have hdc := Lib.hid (fun W => dec_any x.weight m3.1 m3.2 W)
        obtain ⟨u, hu⟩ : ∃ u, u = rangeS x.low x.high := ⟨_, rfl⟩
        obtain ⟨z, hzz⟩ : ∃ z, z = itoaS x.weight := ⟨_, rfl⟩
        rw [← hu] at hrg s1 HX
        rw [← hzz] at hdc s3 HX
        clear hu hzz m1 m2 m3 s2 hcase
        by_cases hk0 : k = 0
        · have hd0 : decide (0 < k) = false := by simp; omega
          have HK0 := Lib.hid hk0
          clear hk0
          go_wp2_with fail
          obtain ⟨wb, hwb⟩ : ∃ wb, wb = wr.alloc (.cells #[.int .i64 x.low, .int .i64 x.high, .string x.target, .int .i64 x.weight] 67) := ⟨_, rfl⟩
          have d0 : wb.cell? ⟨wr.heap.size, 0, none⟩ = some (.int .i64 x.low) := by rw [hwb]; simp
          have d1 : wb.cell? ⟨wr.heap.size, 1, none⟩ = some (.int .i64 x.high) := by rw [hwb]; simp
          have d2 : wb.cell? ⟨wr.heap.size, 2, none⟩ = some (.string x.target) := by rw [hwb]; simp
          have d3 : wb.cell? ⟨wr.heap.size, 3, none⟩ = some (.int .i64 x.weight) := by rw [hwb]; simp
          have hzb : wr.heap.size < wb.heap.size := by rw [hwb]; simp
          have hbb : RowKit.Below wr.heap.size wr wb := by rw [hwb]; exact (Below.refl _ _).alloc (Nat.le_refl _) _
          rw [← hwb]
          clear hwb x0 x1 x2 x3
          have f0 := fun p : BW wb => p.cell (a := ⟨wr.heap.size, 0, none⟩) hzb d0
          have f1 := fun p : BW wb => p.cell (a := ⟨wr.heap.size, 1, none⟩) hzb d1
          have f2 := fun p : BW wb => p.cell (a := ⟨wr.heap.size, 2, none⟩) hzb d2
          have f3 := fun p : BW wb => p.cell (a := ⟨wr.heap.size, 3, none⟩) hzb d3
          clear d0 d1 d2 d3
          have HBP := Lib.hid (fun p : BW wb => hbb.trans (p.h.mono (by omega)))
          clear hbb
          refine wp_region_bw (by kernel_rfl) (by kernel_rfl) ?_
          repeat (go_big_quiet_step ((first | (go_at_call 61; refine bw_of (hrg.out _)) | (go_at_call 88; refine bw_of (hdc.out _)))))
          refine wpQuiet_nil ?_
          rintro _ ⟨p, rfl⟩
          go_wp2
          go_roundw
          case rel =>
            have hb9 := HBP.out p
            refine ⟨k + 1, by go_num, by omega, ?_, HW.out.trans (hb9.mono hw2), Nat.le_trans hw2 hb9.size⟩
            have e0 : fmtTo d (k + 1) = t ++ textS d[k]! := by
              rw [HT.out, HK0.out]
              show textS d[0]! = (⟨#[]⟩ : ByteArray) ++ textS d[0]!
              apply ByteArray.ext; simp [ByteArray.data_append]
            rw [e0, HX.out]
            simp only [app_assoc]
          case measure => simp [intOf]; omega
        · have hd0 : decide (0 < k) = true := by simp; omega
          have HK0 := Lib.hid hk0
          clear hk0
          go_wp2_with fail
          obtain ⟨wb, hwb⟩ : ∃ wb, wb = wr.alloc (.cells #[.int .i64 x.low, .int .i64 x.high, .string x.target, .int .i64 x.weight] 67) := ⟨_, rfl⟩
          have d0 : wb.cell? ⟨wr.heap.size, 0, none⟩ = some (.int .i64 x.low) := by rw [hwb]; simp
          have d1 : wb.cell? ⟨wr.heap.size, 1, none⟩ = some (.int .i64 x.high) := by rw [hwb]; simp
          have d2 : wb.cell? ⟨wr.heap.size, 2, none⟩ = some (.string x.target) := by rw [hwb]; simp
          have d3 : wb.cell? ⟨wr.heap.size, 3, none⟩ = some (.int .i64 x.weight) := by rw [hwb]; simp
          have hzb : wr.heap.size < wb.heap.size := by rw [hwb]; simp
          have hbb : RowKit.Below wr.heap.size wr wb := by rw [hwb]; exact (Below.refl _ _).alloc (Nat.le_refl _) _
          rw [← hwb]
          clear hwb x0 x1 x2 x3
          have f0 := fun p : BW wb => p.cell (a := ⟨wr.heap.size, 0, none⟩) hzb d0
          have f1 := fun p : BW wb => p.cell (a := ⟨wr.heap.size, 1, none⟩) hzb d1
          have f2 := fun p : BW wb => p.cell (a := ⟨wr.heap.size, 2, none⟩) hzb d2
          have f3 := fun p : BW wb => p.cell (a := ⟨wr.heap.size, 3, none⟩) hzb d3
          clear d0 d1 d2 d3
          have HBP := Lib.hid (fun p : BW wb => hbb.trans (p.h.mono (by omega)))
          clear hbb
          refine wp_region_bw (by kernel_rfl) (by kernel_rfl) ?_
          repeat (go_big_quiet_step ((first | (go_at_call 61; refine bw_of (hrg.out _)) | (go_at_call 88; refine bw_of (hdc.out _)))))
          refine wpQuiet_nil ?_
          rintro _ ⟨p, rfl⟩
          go_wp2
          go_roundw
          case rel =>
            have hb9 := HBP.out p
            refine ⟨k + 1, by go_num, by omega, ?_, HW.out.trans (hb9.mono hw2), Nat.le_trans hw2 hb9.size⟩
            have e0 : fmtTo d (k + 1) = (t ++ commaS) ++ textS d[k]! := by
              obtain ⟨q, hq⟩ : ∃ q, k = q + 1 := ⟨k - 1, by have := HK0.out; omega⟩
              rw [HT.out, hq]
              rfl
            rw [e0, HX.out]
            simp only [app_assoc]
            rfl
          case measure => simp [intOf]; omega
      · have hke : k = d.size := by omega
        have HKE := Lib.hid hke
        have hr := HO.out.rest
        simp only [wgtB, decide_eq_true_eq] at hr
        have hsr := itoaS_size hr.1 hr.2
        have hdc := Lib.hid (fun W => dec_any rest hr.1 hr.2 W)
        have y1 := (HW.out.cell (p := ⟨w.heap.size, 1, none⟩) hz).trans C1.out
        obtain ⟨r, hrr⟩ : ∃ r, r = itoaS rest := ⟨_, rfl⟩
        rw [← hrr] at hdc hsr
        have HRR := Lib.hid hrr
        clear hke hr hrr
        go_wp2_with (go_at_call 88; refine (hdc.out _).mono ?_; rintro y w2 ⟨rfl, hb2⟩; have HB2 := Lib.hid (HWW.out.trans (hb2.mono (by omega))); clear hb2)
        go_ret
        refine ⟨retStr ?_, HB2.out⟩
        rw [fmtN, if_pos HS.out, HRR.out, ← HKE.out, ← HT.out]
        rfl
end Go.Proofs.YtjpcpiffffobcaaGreatDoor
