/- The comparison of two cases by what they weigh for each unit of cost; the library's stable sort by it. -/
import Derived.Test.YthchhgjnelkmhaaDoorKsBestP
import Derived.Test.YthchhgjnelkmhaaDoorKsCostP
import Derived.Test.YthchhgjnelkmhaaDoorKsQuiet
import Derived.Test.YthchhgjnelkmhaaDoorKsTestA
namespace Go.Proofs.YthchhgjnelkmhaaDoor
open Go.RowKit Go.Shelf Go.Lib Go.Sort

def cmpI (x y : Int) : Int := if x < y then -1 else if y < x then 1 else 0
def worth (a b : CaseD) : Int := cmpI (a.weight * tcost b) (b.weight * tcost a)
theorem mul_le2 {a b : Int} (h1 : 0 ≤ a) (h2 : a ≤ 99) (h3 : 1 ≤ b) (h4 : b ≤ 2) : 0 ≤ a * b ∧ a * b ≤ 198 := by
  refine ⟨Int.mul_nonneg h1 (by omega), ?_⟩
  have : a * b ≤ 99 * 2 := Int.mul_le_mul h2 h4 (by omega) (by omega)
  omega

set_option maxRecDepth 100000 in
set_option maxHeartbeats 1000000 in
theorem worth_any (a b : CaseD) (w : World) (ha : caseB a = true) (hb : caseB b = true) :
    Calls Tryd.prog 57 #[aggC a, aggC b] w fun e w' => e = .returned (.int .i64 (worth a b)) ∧ RowKit.Below w.heap.size w w' := by
  have hwa := caseB_weight ha
  have hwb := caseB_weight hb
  have la1 := caseB_low ha
  have la2 := caseB_high ha
  have lb1 := caseB_low hb
  have lb2 := caseB_high hb
  have hta := fun W => testCost_any a W la1.1 la1.2 la2.1 la2.2
  have htb := fun W => testCost_any b W lb1.1 lb1.2 lb2.1 lb2.2
  have ba := tcost_bounds a
  have bb := tcost_bounds b
  have HWR := Lib.hid (show worth a b = cmpI (a.weight * tcost b) (b.weight * tcost a) from rfl)
  obtain ⟨ta, hta'⟩ : ∃ t, t = tcost a := ⟨_, rfl⟩
  obtain ⟨tb, htb'⟩ : ∃ t, t = tcost b := ⟨_, rfl⟩
  rw [← hta'] at hta ba HWR
  rw [← htb'] at htb bb HWR
  have hm1 := mul_le2 hwa.1 hwa.2 bb.1 bb.2
  have hm2 := mul_le2 hwb.1 hwb.2 ba.1 ba.2
  obtain ⟨m1, hm1'⟩ : ∃ m, m = a.weight * tb := ⟨_, rfl⟩
  obtain ⟨m2, hm2'⟩ : ∃ m, m = b.weight * ta := ⟨_, rfl⟩
  rw [← hm1'] at hm1 HWR
  rw [← hm2'] at hm2 HWR
  have hw1 : IntKind.i64.wrap (a.weight * tb) = m1 := by rw [← hm1']; exact IntWalk.i64_in _ (by omega)
  have hw2 : IntKind.i64.wrap (b.weight * ta) = m2 := by rw [← hm2']; exact IntWalk.i64_in _ (by omega)
  have hcm := fun W => compare_any m1 m2 W
  change ∀ W, Calls _ _ _ W fun e w' => e = .returned (.int .i64 (cmpI m1 m2)) ∧ _ at hcm
  obtain ⟨c, hc⟩ : ∃ c, c = cmpI m1 m2 := ⟨_, rfl⟩
  rw [← hc] at hcm HWR
  have HTA := Lib.hid hta
  have HTB := Lib.hid htb
  have HCM := Lib.hid hcm
  clear ha hb hwa hwb la1 la2 lb1 lb2 hta htb ba bb hta' htb' hm1 hm2 hm1' hm2' hcm hc
  unfold aggC at *
  go_enter Tryd.func57, Tryd.ntmps57
  go_wp2_with fail
  obtain ⟨wb, hwb⟩ : ∃ wb, wb = (w.alloc (.cells #[.int .i64 a.low, .int .i64 a.high, .string a.target, .int .i64 a.weight] 59)).alloc (.cells #[.int .i64 b.low, .int .i64 b.high, .string b.target, .int .i64 b.weight] 59) := ⟨_, rfl⟩
  have a0 : wb.cell? ⟨w.heap.size, 0, none⟩ = some (.int .i64 a.low) := by rw [hwb]; simp [go_sem]
  have a1 : wb.cell? ⟨w.heap.size, 1, none⟩ = some (.int .i64 a.high) := by rw [hwb]; simp [go_sem]
  have a2 : wb.cell? ⟨w.heap.size, 2, none⟩ = some (.string a.target) := by rw [hwb]; simp [go_sem]
  have a3 : wb.cell? ⟨w.heap.size, 3, none⟩ = some (.int .i64 a.weight) := by rw [hwb]; simp [go_sem]
  have b0 : wb.cell? ⟨w.heap.size + 1, 0, none⟩ = some (.int .i64 b.low) := by rw [hwb]; simp [go_sem]
  have b1 : wb.cell? ⟨w.heap.size + 1, 1, none⟩ = some (.int .i64 b.high) := by rw [hwb]; simp [go_sem]
  have b2 : wb.cell? ⟨w.heap.size + 1, 2, none⟩ = some (.string b.target) := by rw [hwb]; simp [go_sem]
  have b3 : wb.cell? ⟨w.heap.size + 1, 3, none⟩ = some (.int .i64 b.weight) := by rw [hwb]; simp [go_sem]
  have hz : wb.heap.size = w.heap.size + 2 := by rw [hwb]; simp
  have HB := Lib.hid (show RowKit.Below w.heap.size w wb by rw [hwb]; exact ((Below.refl _ _).alloc (Nat.le_refl _) _).alloc (by simp) _)
  rw [← hwb]
  clear hwb
  have p0 := fun p : BW wb => p.cell (a := ⟨w.heap.size, 0, none⟩) (by omega : w.heap.size < wb.heap.size) a0
  have p1 := fun p : BW wb => p.cell (a := ⟨w.heap.size, 1, none⟩) (by omega : w.heap.size < wb.heap.size) a1
  have p2 := fun p : BW wb => p.cell (a := ⟨w.heap.size, 2, none⟩) (by omega : w.heap.size < wb.heap.size) a2
  have p3 := fun p : BW wb => p.cell (a := ⟨w.heap.size, 3, none⟩) (by omega : w.heap.size < wb.heap.size) a3
  have q0 := fun p : BW wb => p.cell (a := ⟨w.heap.size + 1, 0, none⟩) (by omega : w.heap.size + 1 < wb.heap.size) b0
  have q1 := fun p : BW wb => p.cell (a := ⟨w.heap.size + 1, 1, none⟩) (by omega : w.heap.size + 1 < wb.heap.size) b1
  have q2 := fun p : BW wb => p.cell (a := ⟨w.heap.size + 1, 2, none⟩) (by omega : w.heap.size + 1 < wb.heap.size) b2
  have q3 := fun p : BW wb => p.cell (a := ⟨w.heap.size + 1, 3, none⟩) (by omega : w.heap.size + 1 < wb.heap.size) b3
  have GA := Lib.hid fun p : BW wb => HTA.out p.W
  have GB := Lib.hid fun p : BW wb => HTB.out p.W
  have GC := Lib.hid fun p : BW wb => (HCM.out p.W).mono fun e w' (h : _ ∧ p.W = w') => (⟨h.1, h.2 ▸ RowKit.Below.refl _ _⟩ : e = .returned (.int .i64 c) ∧ RowKit.Below p.W.heap.size p.W w')
  have hzz := HB.out.size
  clear HTA HTB HCM a0 a1 a2 a3 b0 b1 b2 b3
  refine wp_region_bw (by kernel_rfl) (by kernel_rfl) ?_
  repeat (go_big_quiet_step (first
    | (with_reducible refine bw_of (GB.out _))
    | (with_reducible refine bw_of (GA.out _))
    | (with_reducible refine bw_of (GC.out _))))
  refine wpQuiet_nil ?_
  rintro _ ⟨⟨W', hBW⟩, rfl⟩
  have HBW := Lib.hid (HB.out.trans (hBW.mono HB.out.size))
  clear hBW
  go_wp2
  go_ret
  exact ⟨retIA HWR.out.symm, HBW.out⟩
end Go.Proofs.YthchhgjnelkmhaaDoor
