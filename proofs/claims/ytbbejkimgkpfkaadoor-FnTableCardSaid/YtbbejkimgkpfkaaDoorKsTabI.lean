
/- TableFor: the program's and the model's. -/
import Derived.Test.YtbbejkimgkpfkaaDoorKsTabS
import Derived.Test.YtbbejkimgkpfkaaDoorKsRowU
import Derived.Deep.WholeRow
import Derived.Laws.BytesArg
namespace Go.Proofs.YtbbejkimgkpfkaaDoor
open Go.RowKit Go.Shelf Go.Lib Go.Sort

set_option maxRecDepth 100000 in
set_option maxHeartbeats 1000000 in
theorem specTable_any (b off cap : Nat) (d : Array CaseD) (rest lo hi : Int) (w : World) (hR : RowC w b off d) (hcap : d.size ≤ cap) (hmax : cap ≤ maxLen) :
    Calls Tryd.prog 24 #[.agg #[.slice (some ⟨b, off, none⟩) d.size cap, .int .i64 rest], .int .i64 lo, .int .i64 hi] w fun x w' => x = .returned (.tuple #[.string (tabN d rest lo hi), .bool (tabB d rest lo hi)]) ∧ RowKit.Below w.heap.size w w' := by
  have hv := fun W (hW : RowKit.Below w.heap.size w W) => specValid_any b off cap d rest W (hR.below hW) hcap hmax
  have HT := Lib.hid (fun (ln n : Nat) (ho : SwOK d rest) (h1 : hi + 1 = ln + n) (h2 : hi ≤ 31) W (hW : RowKit.Below w.heap.size w W) => l6Table_any b off cap d rest hi ln n W (hR.below hW) ho h1 h2)
  have hk := fun W => l6Range_any lo hi W
  clear hR
  obtain ⟨wa, hwa⟩ : ∃ wa, wa = w.alloc (.cells #[.slice (some ⟨b, off, none⟩) d.size cap, .int .i64 rest] 25) := ⟨_, rfl⟩
  have c0 : wa.cell? ⟨w.heap.size, 0, none⟩ = some (.slice (some ⟨b, off, none⟩) d.size cap) := by rw [hwa]; simp
  have c1 : wa.cell? ⟨w.heap.size, 1, none⟩ = some (.int .i64 rest) := by rw [hwa]; simp
  have hz : w.heap.size < wa.heap.size := by rw [hwa]; simp
  have hba : RowKit.Below w.heap.size w wa := by rw [hwa]; exact (Below.refl _ _).alloc (Nat.le_refl _) _
  have HA := Lib.hid hba
  have C0 := Lib.hid c0
  have C1 := Lib.hid c1
  have HWA := Lib.hid hwa
  clear hba c0 c1 hwa
  cases hs : swB d rest <;> cases hkb : rangeB lo hi
  all_goals
    simp only [hs] at hv
    simp only [hkb] at hk
    have HV := Lib.hid hv
    have HS := Lib.hid hs
    have HK := Lib.hid hk
    have HKB := Lib.hid hkb
    clear hv hs hk hkb
    go_enter Tryd.func24, Tryd.ntmps24
    go_wp2_with fail
    rw [← HWA.out]
    refine (HV.out _ HA.out).mono ?_
    rintro x w1 ⟨rfl, hb⟩
    have HB := Lib.hid hb
    have hz1 := hb.size
    have a0 := (hb.cell (p := ⟨w.heap.size, 0, none⟩) hz).trans C0.out
    have a1 := (hb.cell (p := ⟨w.heap.size, 1, none⟩) hz).trans C1.out
    have HWB := Lib.hid (HA.out.trans (HB.out.mono (by omega)))
    clear hb
    go_wp2_with (go_at_call 74; refine (HK.out _).mono ?_; rintro y w2 ⟨rfl, rfl⟩)
  iterate 3
    · go_ret2
      exact ⟨ret2 (by simp [tabN, tabB, HS.out, HKB.out]) (by simp [tabB, HS.out, HKB.out]), HWB.out⟩
  · have hrg := (rangeB_iff _ _).1 HKB.out
    obtain ⟨ln, rfl⟩ : ∃ ln : Nat, lo = ln := ⟨lo.toNat, by omega⟩
    obtain ⟨n, hn⟩ : ∃ n : Nat, hi + 1 = ln + n := ⟨(hi + 1 - ln).toNat, by omega⟩
    refine (HT.out ln n ((swB_iff _ _).1 HS.out) hn hrg.2.2 _ HWB.out).mono ?_
    rintro x w2 ⟨rfl, hb2⟩
    have HB2 := Lib.hid (HWB.out.trans (hb2.mono (by omega)))
    have HTN := Lib.hid (show tabN d rest ln hi = tabS d ln n by rw [tabN, if_pos (by simp [tabB, HS.out, HKB.out]), show (hi - (ln : Int) + 1).toNat = n by omega]; rfl)
    clear hb2 hrg hn
    go_wp2
    go_ret2
    exact ⟨ret2 HTN.out.symm (by simp [tabB, HS.out, HKB.out]), HB2.out⟩

theorem strOf_tab (d : Array CaseD) (lo n : Nat) : strOfNums ((List.range n).map fun i => goB d (lo + i)) = tabS d lo n := by
  apply ByteArray.ext
  simp [strOfNums, tabS, tabL]
theorem conv_row (d : Array CaseD) (g ln n cap : Nat) (h32 : ln + n ≤ 32) (W : World) (hW : RowU W g (goB d)) :
    Sem.run Tryd.prog (convert 95 9 (.slice (some ⟨g, ln, none⟩) n cap)) W = .ok (.string (tabS d ln n)) W := by
  rw [← strOf_tab d]
  refine run_convert_bytes_arg W 95 91 Tryd.underlying95 Tryd.underlying91 g ln n cap _ (by simp) (fun i hi => ?_) 9 Tryd.underlying9
  rw [hW.cell (by omega)]
  simp [hi]

set_option maxRecDepth 100000 in
set_option maxHeartbeats 1000000 in
theorem implTable_any (b off cap : Nat) (d : Array CaseD) (rest lo hi : Int) (w : World) (hR : RowC w b off d) (hE : ErrAt w) (hcap : d.size ≤ cap) (hmax : cap ≤ maxLen) :
    Calls Tryd.prog 23 #[.agg #[.slice (some ⟨b, off, none⟩) d.size cap, .int .i64 rest], .int .i64 lo, .int .i64 hi] w fun x w' => x = .returned (.tuple #[.string (tabN d rest lo hi), .bool (tabB d rest lo hi)]) ∧ RowKit.Below w.heap.size w w' := by
  have hv := fun W (hW : RowKit.Below w.heap.size w W) => switchValid_any b off cap d rest W (hR.below hW) (hE.below hW) hcap hmax
  have HT := Lib.hid (fun (ho : SwOK d rest) W (hW : RowKit.Below w.heap.size w W) => implRow_any b off cap d rest W (hR.below hW) ho)
  have hk := fun W => isRange_any lo hi W
  clear hR hE
  obtain ⟨wa, hwa⟩ : ∃ wa, wa = w.alloc (.cells #[.slice (some ⟨b, off, none⟩) d.size cap, .int .i64 rest] 25) := ⟨_, rfl⟩
  have c0 : wa.cell? ⟨w.heap.size, 0, none⟩ = some (.slice (some ⟨b, off, none⟩) d.size cap) := by rw [hwa]; simp
  have c1 : wa.cell? ⟨w.heap.size, 1, none⟩ = some (.int .i64 rest) := by rw [hwa]; simp
  have hz : w.heap.size < wa.heap.size := by rw [hwa]; simp
  have hba : RowKit.Below w.heap.size w wa := by rw [hwa]; exact (Below.refl _ _).alloc (Nat.le_refl _) _
  have HA := Lib.hid hba
  have C0 := Lib.hid c0
  have C1 := Lib.hid c1
  have HWA := Lib.hid hwa
  clear hba c0 c1 hwa
  cases hs : swB d rest <;> cases hkb : rangeB lo hi
  all_goals
    simp only [hs] at hv
    simp only [hkb] at hk
    have HV := Lib.hid hv
    have HS := Lib.hid hs
    have HK := Lib.hid hk
    have HKB := Lib.hid hkb
    clear hv hs hk hkb
    go_enter Tryd.func23, Tryd.ntmps23
    go_wp2_with fail
    rw [← HWA.out]
    refine (HV.out _ HA.out).mono ?_
    rintro x w1 ⟨rfl, hb⟩
    have HB := Lib.hid hb
    have hz1 := hb.size
    have a0 := (hb.cell (p := ⟨w.heap.size, 0, none⟩) hz).trans C0.out
    have a1 := (hb.cell (p := ⟨w.heap.size, 1, none⟩) hz).trans C1.out
    have HWB := Lib.hid (HA.out.trans (HB.out.mono (by omega)))
    clear hb
    go_wp2_with (go_at_call 72; refine (HK.out _).mono ?_; rintro y w2 ⟨rfl, rfl⟩)
  iterate 3
    · go_ret2
      exact ⟨ret2 (by simp [tabN, tabB, HS.out, HKB.out]) (by simp [tabB, HS.out, HKB.out]), HWB.out⟩
  · have hrg := (rangeB_iff _ _).1 HKB.out
    obtain ⟨ln, rfl⟩ : ∃ ln : Nat, lo = ln := ⟨lo.toNat, by omega⟩
    obtain ⟨n, hn⟩ : ∃ n : Nat, hi + 1 = ln + n := ⟨(hi + 1 - ln).toNat, by omega⟩
    refine (HT.out ((swB_iff _ _).1 HS.out) _ HWB.out).mono ?_
    rintro x w2 ⟨rfl, hb2⟩
    have HB2 := Lib.hid (HWB.out.trans (hb2.mono (by omega)))
    have HTN := Lib.hid (show tabN d rest ln hi = tabS d ln n by rw [tabN, if_pos (by simp [tabB, HS.out, HKB.out]), show (hi - (ln : Int) + 1).toNat = n by omega]; rfl)
    clear hb2
    obtain ⟨g0, g1, g2⟩ := hrg
    have hrow : RowU (w2.alloc (.cells (rowA (goB d)) 93)) w2.heap.size (goB d) := heap_alloc_new _ _
    have hcv := conv_row d w2.heap.size ln n (32 - ln) (by omega) _ hrow
    have hsl := slice_row w2.heap.size ln n (by omega) (by omega) (hi + 1) hn (w2.alloc (.cells (rowA (goB d)) 93))
    have HW2 := Lib.hid hrow.lt
    clear hrow hn
    go_wp2_with (refine wpList_store_row rfl 93 (.tmp 8) (.tmp 19) rfl w2.heap.size (rowA (goB d)) rfl rfl 93 _ (heap_alloc_new _ _) (infoRowA _) (by rw [rowA_size]; rfl) (rowA_one _) ?_; rw [World.setRow_alloc_new])
    go_ret2
    exact ⟨ret2 HTN.out.symm (by simp [tabB, HS.out, HKB.out]), HB2.out.alloc HB2.out.size _⟩
end Go.Proofs.YtbbejkimgkpfkaaDoor
