
/- The text of any case, whatever its numbers and its target: the program's and the model's. -/
import Derived.Test.YtndnbeijmhcepaaDoorKsSums
import Derived.Test.YtndnbeijmhcepaaDoorKsDecF
import Derived.Test.YtndnbeijmhcepaaDoorKsQuiet
import Derived.BigQuiet
namespace Go.Proofs.YtndnbeijmhcepaaDoor
open Go.RowKit Go.Shelf Go.Lib Go.Sort

def dashF : ByteArray := ⟨#[45]⟩
def spaceF : ByteArray := ⟨#[32]⟩
def rangeF (lo hi : Int) : ByteArray := if lo = hi then itoaF lo else (itoaF lo ++ dashF) ++ itoaF hi
def textF (c : CaseD) : ByteArray := (rangeF c.low c.high ++ c.target) ++ itoaF c.weight
/-- Its numbers are ints, and its target is no longer than 2^20. -/
structure FitC (c : CaseD) : Prop where
  l0 : -9223372036854775808 ≤ c.low
  l1 : c.low ≤ 9223372036854775807
  h0 : -9223372036854775808 ≤ c.high
  h1 : c.high ≤ 9223372036854775807
  w0 : -9223372036854775808 ≤ c.weight
  w1 : c.weight ≤ 9223372036854775807
  tg : c.target.size ≤ 1048576
theorem sizeF_app (a b : ByteArray) : (a ++ b).size = a.size + b.size := by simp [ByteArray.size_append]
theorem rangeF_size {lo hi : Int} (h0 : -9223372036854775808 ≤ lo) (h1 : lo ≤ 9223372036854775807) (h2 : -9223372036854775808 ≤ hi) (h3 : hi ≤ 9223372036854775807) : (rangeF lo hi).size ≤ 41 := by
  have a := itoaF_size h0 h1
  have b := itoaF_size h2 h3
  unfold rangeF
  split
  · omega
  · rw [sizeF_app, sizeF_app]
    have : dashF.size = 1 := rfl
    omega
theorem textF_size {c : CaseD} (h : FitC c) : (textF c).size ≤ 1048640 := by
  have a := rangeF_size h.l0 h.l1 h.h0 h.h1
  have b := itoaF_size h.w0 h.w1
  have t := h.tg
  unfold textF
  rw [sizeF_app, sizeF_app]
  omega

set_option maxRecDepth 100000 in
set_option maxHeartbeats 1000000 in
theorem textF_any (c : CaseD) (w : World) (hf : FitC c) (hT : TabA w) : Calls Tryd.prog 30 #[aggC c] w fun x w' => x = .returned (.string (textF c)) ∧ RowKit.Below w.heap.size w w' := by
  obtain ⟨l0, l1, h0, h1, w0, w1, tg⟩ := hf
  have s1 := itoaF_size l0 l1
  have s2 := itoaF_size h0 h1
  have s3 := itoaF_size w0 w1
  have i1 := Lib.hid (fun W (hW : RowKit.Below w.heap.size w W) => itoaF_any c.low l0 l1 W (tabA_below hT hW))
  have i2 := Lib.hid (fun W (hW : RowKit.Below w.heap.size w W) => itoaF_any c.high h0 h1 W (tabA_below hT hW))
  have i3 := Lib.hid (fun W (hW : RowKit.Below w.heap.size w W) => itoaF_any c.weight w0 w1 W (tabA_below hT hW))
  have HT := Lib.hid (show textF c = (rangeF c.low c.high ++ c.target) ++ itoaF c.weight from rfl)
  have HR := Lib.hid (show rangeF c.low c.high = if c.low = c.high then itoaF c.low else (itoaF c.low ++ dashF) ++ itoaF c.high from rfl)
  obtain ⟨lo, hi, tgt, wt⟩ := c
  simp only at *
  obtain ⟨x1, hx1⟩ : ∃ x, x = itoaF lo := ⟨_, rfl⟩
  obtain ⟨x2, hx2⟩ : ∃ x, x = itoaF hi := ⟨_, rfl⟩
  obtain ⟨x3, hx3⟩ : ∃ x, x = itoaF wt := ⟨_, rfl⟩
  rw [← hx1] at i1 s1 HR
  rw [← hx2] at i2 s2 HR
  rw [← hx3] at i3 s3 HT
  obtain ⟨wa, hwa⟩ : ∃ wa, wa = w.alloc (.cells #[.int .i64 lo, .int .i64 hi, .string tgt, .int .i64 wt] 47) := ⟨_, rfl⟩
  have hba : RowKit.Below w.heap.size w wa := by rw [hwa]; exact (Below.refl _ _).alloc (Nat.le_refl _) _
  have d0 : wa.cell? ⟨w.heap.size, 0, none⟩ = some (.int .i64 lo) := by rw [hwa]; simp
  have d1 : wa.cell? ⟨w.heap.size, 1, none⟩ = some (.int .i64 hi) := by rw [hwa]; simp
  have d2 : wa.cell? ⟨w.heap.size, 2, none⟩ = some (.string tgt) := by rw [hwa]; simp
  have d3 : wa.cell? ⟨w.heap.size, 3, none⟩ = some (.int .i64 wt) := by rw [hwa]; simp
  have hz : w.heap.size < wa.heap.size := by rw [hwa]; simp
  have HWA := Lib.hid hwa
  have HBA := Lib.hid hba
  have hE : lo = hi ∨ ¬ lo = hi := Decidable.em _
  clear hx1 hx2 hx3 hT hwa hba l0 l1 h0 h1 w0 w1
  unfold aggC
  rcases hE with he | he
  · have HRR := Lib.hid (HR.out.trans (if_pos he))
    have hq : (hi == lo) = true := by simp [he]
    have hq2 : (hi != lo) = false := by simp [he]
    clear HR he
    go_enter Tryd.func30, Tryd.ntmps30
    go_wp2_with fail
    rw [← HWA.out]
    refine (i1.out _ HBA.out).mono ?_
    rintro e w1 ⟨rfl, hb⟩
    have HB1 := Lib.hid (HBA.out.trans (hb.mono HBA.out.size))
    have e0 := (hb.cell (p := ⟨w.heap.size, 0, none⟩) hz).trans d0
    have e1 := (hb.cell (p := ⟨w.heap.size, 1, none⟩) hz).trans d1
    have e2 := (hb.cell (p := ⟨w.heap.size, 2, none⟩) hz).trans d2
    have e3 := (hb.cell (p := ⟨w.heap.size, 3, none⟩) hz).trans d3
    have hz1 : w.heap.size < w1.heap.size := Nat.lt_of_lt_of_le hz hb.size
    clear hb d0 d1 d2 d3
    go_wp2_with fail
    have q2 := fun p : BW w1 => p.cell (a := ⟨w.heap.size, 2, none⟩) hz1 e2
    have q3 := fun p : BW w1 => p.cell (a := ⟨w.heap.size, 3, none⟩) hz1 e3
    have J3 := Lib.hid (fun p : BW w1 => i3.out p.W (HB1.out.trans (p.h.mono HB1.out.size)))
    clear e2 e3
    refine wp_region_bw (by kernel_rfl) (by kernel_rfl) ?_
    repeat (go_big_quiet_step ((go_at_call 52; refine bw_of (J3.out _))))
    refine wpQuiet_nil ?_
    rintro _ ⟨p, rfl⟩
    have HB2 := Lib.hid (HB1.out.trans (p.h.mono HB1.out.size))
    go_wp2
    go_ret
    exact ⟨retStr (by rw [HT.out, HRR.out]), HB2.out⟩
  · have HRR := Lib.hid (HR.out.trans (if_neg he))
    have he' : ¬ hi = lo := fun h => he h.symm
    have hq : (hi == lo) = false := by simp [he']
    have hq2 : (hi != lo) = true := by simp [he']
    clear HR he he'
    go_enter Tryd.func30, Tryd.ntmps30
    go_wp2_with fail
    rw [← HWA.out]
    refine (i1.out _ HBA.out).mono ?_
    rintro e w0 ⟨rfl, hb⟩
    have HB0 := Lib.hid (HBA.out.trans (hb.mono HBA.out.size))
    have c0 := (hb.cell (p := ⟨w.heap.size, 0, none⟩) hz).trans d0
    have c1 := (hb.cell (p := ⟨w.heap.size, 1, none⟩) hz).trans d1
    have c2 := (hb.cell (p := ⟨w.heap.size, 2, none⟩) hz).trans d2
    have c3 := (hb.cell (p := ⟨w.heap.size, 3, none⟩) hz).trans d3
    have hz0 : w.heap.size < w0.heap.size := Nat.lt_of_lt_of_le hz hb.size
    clear hb d0 d1 d2 d3
    go_wp2_with fail
    refine (i2.out _ HB0.out).mono ?_
    rintro e w1 ⟨rfl, hb⟩
    have HB1 := Lib.hid (HB0.out.trans (hb.mono HB0.out.size))
    have e2 := (hb.cell (p := ⟨w.heap.size, 2, none⟩) hz0).trans c2
    have e3 := (hb.cell (p := ⟨w.heap.size, 3, none⟩) hz0).trans c3
    have hz1 : w.heap.size < w1.heap.size := Nat.lt_of_lt_of_le hz0 hb.size
    clear hb c0 c1 c2 c3
    go_wp2_with fail
    have q2 := fun p : BW w1 => p.cell (a := ⟨w.heap.size, 2, none⟩) hz1 e2
    have q3 := fun p : BW w1 => p.cell (a := ⟨w.heap.size, 3, none⟩) hz1 e3
    have J3 := Lib.hid (fun p : BW w1 => i3.out p.W (HB1.out.trans (p.h.mono HB1.out.size)))
    clear e2 e3
    refine wp_region_bw (by kernel_rfl) (by kernel_rfl) ?_
    repeat (go_big_quiet_step ((go_at_call 52; refine bw_of (J3.out _))))
    refine wpQuiet_nil ?_
    rintro _ ⟨p, rfl⟩
    have HB2 := Lib.hid (HB1.out.trans (p.h.mono HB1.out.size))
    go_wp2
    go_ret
    exact ⟨retStr (by rw [HT.out, HRR.out]; simp only [ByteArray.append_assoc]; rfl), HB2.out⟩

set_option maxHeartbeats 400000 in
theorem l1RangeF_any (lo hi : Int) (w : World) (h0 : -9223372036854775808 ≤ lo) (h1 : lo ≤ 9223372036854775807) (h2 : -9223372036854775808 ≤ hi) (h3 : hi ≤ 9223372036854775807) : Calls Tryd.prog 27 #[.int .i64 lo, .int .i64 hi] w fun x w' => x = .returned (.string (rangeF lo hi)) ∧ RowKit.Below w.heap.size w w' := by
  have s1 := itoaF_size h0 h1
  have s2 := itoaF_size h2 h3
  have d1 := Lib.hid (fun W => decF_any lo h0 h1 W)
  have d2 := Lib.hid (fun W => decF_any hi h2 h3 W)
  clear h0 h1 h2 h3
  by_cases he : lo = hi
  · have HRR := Lib.hid (show rangeF lo hi = itoaF lo by rw [rangeF, if_pos he])
    have hq : (lo == hi) = true := by simp [he]
    clear he
    obtain ⟨x1, hx1⟩ : ∃ x, x = itoaF lo := ⟨_, rfl⟩
    rw [← hx1] at d1 s1 HRR
    clear hx1
    go_enter Tryd.func27, Tryd.ntmps27
    go_wp2_with (go_at_call 28; refine (d1.out _).mono ?_; rintro e w' ⟨rfl, hb⟩)
    go_ret
    exact ⟨retStr HRR.out.symm, hb⟩
  · have HRR := Lib.hid (show rangeF lo hi = (itoaF lo ++ dashF) ++ itoaF hi by rw [rangeF, if_neg he])
    have hq : (lo == hi) = false := by simp [he]
    clear he
    obtain ⟨x1, hx1⟩ : ∃ x, x = itoaF lo := ⟨_, rfl⟩
    obtain ⟨x2, hx2⟩ : ∃ x, x = itoaF hi := ⟨_, rfl⟩
    rw [← hx1] at d1 s1 HRR
    rw [← hx2] at d2 s2 HRR
    clear hx1 hx2
    go_enter Tryd.func27, Tryd.ntmps27
    go_wp2_with fail
    refine (d1.out _).mono ?_
    rintro e w1 ⟨rfl, hb1⟩
    go_wp2_with fail
    refine (d2.out _).mono ?_
    rintro e w2 ⟨rfl, hb2⟩
    go_wp2
    go_ret
    exact ⟨retStr HRR.out.symm, hb1.trans (hb2.mono hb1.size)⟩
end Go.Proofs.YtndnbeijmhcepaaDoor
