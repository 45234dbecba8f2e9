
/- The text of any case, whatever its numbers and its target: the program's and the model's. -/
import Derived.Test.YtjpcpiffffobcaaDoorKsSums
import Derived.Test.YtjpcpiffffobcaaDoorKsDecF
import Derived.Test.YtjpcpiffffobcaaDoorKsQuiet
import Derived.BigQuiet
namespace Go.Proofs.YtjpcpiffffobcaaDoor
open Go.RowKit Go.Shelf Go.Lib Go.Sort

def dashF : ByteArray := ⟨#[45]⟩
def spaceF : ByteArray := ⟨#[32]⟩
def rangeF (lo hi : Int) : ByteArray := if lo = hi then itoaF lo else (itoaF lo ++ dashF) ++ itoaF hi
def textF (c : CaseD) : ByteArray := (rangeF c.low c.high ++ c.target) ++ itoaF c.weight
/-- Its numbers are ints, and its target is no longer than 2^20. -/
structure FitC (c : CaseD) : Prop where
  l0 : -9223372036854775808 ≤ c.low
  l1 : c.low ≤ 9223372036854775807
  h0 : -9223372036854775808 ≤ c.high
  h1 : c.high ≤ 9223372036854775807
  w0 : -9223372036854775808 ≤ c.weight
  w1 : c.weight ≤ 9223372036854775807
  tg : c.target.size ≤ 1048576
theorem sizeF_app (a b : ByteArray) : (a ++ b).size = a.size + b.size := by simp [ByteArray.size_append]
theorem rangeF_size {lo hi : Int} (h0 : -9223372036854775808 ≤ lo) (h1 : lo ≤ 9223372036854775807) (h2 : -9223372036854775808 ≤ hi) (h3 : hi ≤ 9223372036854775807) : (rangeF lo hi).size ≤ 41 := by
  have a := itoaF_size h0 h1
  have b := itoaF_size h2 h3
  unfold rangeF
  split
  · omega
  · rw [sizeF_app, sizeF_app]
    have : dashF.size = 1 := rfl
    omega
theorem textF_size {c : CaseD} (h : FitC c) : (textF c).size ≤ 1048640 := by
  have a := rangeF_size h.l0 h.l1 h.h0 h.h1
  have b := itoaF_size h.w0 h.w1
  have t := h.tg
  unfold textF
  rw [sizeF_app, sizeF_app]
  omega

set_option maxHeartbeats 400000 in
theorem rangeF_any (lo hi : Int) (w : World) (h0 : -9223372036854775808 ≤ lo) (h1 : lo ≤ 9223372036854775807) (h2 : -9223372036854775808 ≤ hi) (h3 : hi ≤ 9223372036854775807) (hT : TabA w) : Calls Tryd.prog 59 #[.int .i64 lo, .int .i64 hi] w fun x w' => x = .returned (.string (rangeF lo hi)) ∧ RowKit.Below w.heap.size w w' := by
  have s1 := itoaF_size h0 h1
  have s2 := itoaF_size h2 h3
  have d1 := Lib.hid (itoaF_any lo h0 h1 w hT)
  have d2 := Lib.hid (fun W (hW : RowKit.Below w.heap.size w W) => itoaF_any hi h2 h3 W (tabA_below hT hW))
  clear h0 h1 h2 h3 hT
  by_cases he : lo = hi
  · have HRR := Lib.hid (show rangeF lo hi = itoaF lo by rw [rangeF, if_pos he])
    have hq : (lo == hi) = true := by simp [he]
    clear he
    obtain ⟨x1, hx1⟩ : ∃ x, x = itoaF lo := ⟨_, rfl⟩
    rw [← hx1] at d1 s1 HRR
    clear hx1
    go_enter Tryd.func59, Tryd.ntmps59
    go_wp2_with (go_at_call 63; refine d1.out.mono ?_; rintro e w' ⟨rfl, hb⟩)
    go_ret
    exact ⟨retStr HRR.out.symm, hb⟩
  · have HRR := Lib.hid (show rangeF lo hi = (itoaF lo ++ dashF) ++ itoaF hi by rw [rangeF, if_neg he])
    have hq : (lo == hi) = false := by simp [he]
    clear he
    obtain ⟨x1, hx1⟩ : ∃ x, x = itoaF lo := ⟨_, rfl⟩
    obtain ⟨x2, hx2⟩ : ∃ x, x = itoaF hi := ⟨_, rfl⟩
    rw [← hx1] at d1 s1 HRR
    rw [← hx2] at d2 s2 HRR
    clear hx1 hx2
    go_enter Tryd.func59, Tryd.ntmps59
    go_wp2_with fail
    refine d1.out.mono ?_
    rintro e w1 ⟨rfl, hb1⟩
    have HB1 := Lib.hid hb1
    clear hb1
    go_wp2_with fail
    refine (d2.out _ HB1.out).mono ?_
    rintro e w2 ⟨rfl, hb2⟩
    have HB2 := Lib.hid (HB1.out.trans (hb2.mono HB1.out.size))
    clear hb2
    go_wp2
    go_ret
    exact ⟨retStr HRR.out.symm, HB2.out⟩
set_option maxRecDepth 100000 in
set_option maxHeartbeats 1000000 in
theorem textF_any (c : CaseD) (w : World) (hf : FitC c) (hT : TabA w) : Calls Tryd.prog 62 #[aggC c] w fun x w' => x = .returned (.string (textF c)) ∧ RowKit.Below w.heap.size w w' := by
  obtain ⟨l0, l1, h0, h1, w0, w1, tg⟩ := hf
  have s1 := rangeF_size l0 l1 h0 h1
  have s3 := itoaF_size w0 w1
  have i1 := Lib.hid (fun W (hW : RowKit.Below w.heap.size w W) => rangeF_any c.low c.high W l0 l1 h0 h1 (tabA_below hT hW))
  have i3 := Lib.hid (fun W (hW : RowKit.Below w.heap.size w W) => itoaF_any c.weight w0 w1 W (tabA_below hT hW))
  have HT := Lib.hid (show textF c = (rangeF c.low c.high ++ c.target) ++ itoaF c.weight from rfl)
  obtain ⟨lo, hi, tgt, wt⟩ := c
  simp only at *
  obtain ⟨x1, hx1⟩ : ∃ x, x = rangeF lo hi := ⟨_, rfl⟩
  obtain ⟨x3, hx3⟩ : ∃ x, x = itoaF wt := ⟨_, rfl⟩
  rw [← hx1] at i1 s1 HT
  rw [← hx3] at i3 s3 HT
  obtain ⟨wb, hwb⟩ : ∃ wb, wb = w.alloc (.cells #[.int .i64 lo, .int .i64 hi, .string tgt, .int .i64 wt] 90) := ⟨_, rfl⟩
  have hbb : RowKit.Below w.heap.size w wb := by rw [hwb]; exact (Below.refl _ _).alloc (Nat.le_refl _) _
  have d0 : wb.cell? ⟨w.heap.size, 0, none⟩ = some (.int .i64 lo) := by rw [hwb]; simp
  have d1 : wb.cell? ⟨w.heap.size, 1, none⟩ = some (.int .i64 hi) := by rw [hwb]; simp
  have d2 : wb.cell? ⟨w.heap.size, 2, none⟩ = some (.string tgt) := by rw [hwb]; simp
  have d3 : wb.cell? ⟨w.heap.size, 3, none⟩ = some (.int .i64 wt) := by rw [hwb]; simp
  have hzb : w.heap.size < wb.heap.size := by rw [hwb]; simp
  have q0 := fun p : BW wb => p.cell (a := ⟨w.heap.size, 0, none⟩) hzb d0
  have q1 := fun p : BW wb => p.cell (a := ⟨w.heap.size, 1, none⟩) hzb d1
  have q2 := fun p : BW wb => p.cell (a := ⟨w.heap.size, 2, none⟩) hzb d2
  have q3 := fun p : BW wb => p.cell (a := ⟨w.heap.size, 3, none⟩) hzb d3
  have J1 := Lib.hid (fun p : BW wb => i1.out p.W (hbb.trans (p.h.mono hbb.size)))
  have J3 := Lib.hid (fun p : BW wb => i3.out p.W (hbb.trans (p.h.mono hbb.size)))
  have HWB := Lib.hid hwb
  have HBB := Lib.hid hbb
  clear hx1 hx3 hwb hbb d0 d1 d2 d3 l0 l1 h0 h1 w0 w1 hT i1 i3
  unfold aggC
  go_enter Tryd.func62, Tryd.ntmps62
  go_wp2_with fail
  rw [← HWB.out]
  refine wp_region_bw (by kernel_rfl) (by kernel_rfl) ?_
  repeat (go_big_quiet_step ((first | (go_at_call 59; with_reducible refine bw_of (J1.out _)) | (go_at_call 63; with_reducible refine bw_of (J3.out _)))))
  refine wpQuiet_nil ?_
  rintro _ ⟨p, rfl⟩
  have HB2 := Lib.hid (HBB.out.trans (p.h.mono HBB.out.size))
  go_wp2
  go_ret
  exact ⟨retStr HT.out.symm, HB2.out⟩
set_option maxHeartbeats 400000 in
theorem l1RangeF_any (lo hi : Int) (w : World) (h0 : -9223372036854775808 ≤ lo) (h1 : lo ≤ 9223372036854775807) (h2 : -9223372036854775808 ≤ hi) (h3 : hi ≤ 9223372036854775807) : Calls Tryd.prog 58 #[.int .i64 lo, .int .i64 hi] w fun x w' => x = .returned (.string (rangeF lo hi)) ∧ RowKit.Below w.heap.size w w' := by
  have s1 := itoaF_size h0 h1
  have s2 := itoaF_size h2 h3
  have d1 := Lib.hid (fun W => decF_any lo h0 h1 W)
  have d2 := Lib.hid (fun W => decF_any hi h2 h3 W)
  clear h0 h1 h2 h3
  by_cases he : lo = hi
  · have HRR := Lib.hid (show rangeF lo hi = itoaF lo by rw [rangeF, if_pos he])
    have hq : (lo == hi) = true := by simp [he]
    clear he
    obtain ⟨x1, hx1⟩ : ∃ x, x = itoaF lo := ⟨_, rfl⟩
    rw [← hx1] at d1 s1 HRR
    clear hx1
    go_enter Tryd.func58, Tryd.ntmps58
    go_wp2_with (go_at_call 61; refine (d1.out _).mono ?_; rintro e w' ⟨rfl, hb⟩)
    go_ret
    exact ⟨retStr HRR.out.symm, hb⟩
  · have HRR := Lib.hid (show rangeF lo hi = (itoaF lo ++ dashF) ++ itoaF hi by rw [rangeF, if_neg he])
    have hq : (lo == hi) = false := by simp [he]
    clear he
    obtain ⟨x1, hx1⟩ : ∃ x, x = itoaF lo := ⟨_, rfl⟩
    obtain ⟨x2, hx2⟩ : ∃ x, x = itoaF hi := ⟨_, rfl⟩
    rw [← hx1] at d1 s1 HRR
    rw [← hx2] at d2 s2 HRR
    clear hx1 hx2
    go_enter Tryd.func58, Tryd.ntmps58
    go_wp2_with fail
    refine (d1.out _).mono ?_
    rintro e w1 ⟨rfl, hb1⟩
    go_wp2_with fail
    refine (d2.out _).mono ?_
    rintro e w2 ⟨rfl, hb2⟩
    go_wp2
    go_ret
    exact ⟨retStr HRR.out.symm, hb1.trans (hb2.mono hb1.size)⟩
end Go.Proofs.YtjpcpiffffobcaaDoor
