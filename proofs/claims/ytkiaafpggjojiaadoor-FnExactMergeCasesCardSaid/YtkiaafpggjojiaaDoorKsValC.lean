
/- slices.Values of cases: what its closure promises to every loop over it. -/
import Derived.Test.YtkiaafpggjojiaaDoorKsIter2
namespace Go.Proofs.YtkiaafpggjojiaaDoor
open Go.RowKit Go.Shelf Go.Lib Go.Sort

attribute [local go_sem] Oper.semAt_some

set_option maxHeartbeats 400000 in
theorem valuesC_any (v : Option Addr) (n cap : Nat) (w : World) :
    Calls Tryd.prog 75 #[.slice v n cap] w fun x w' => x = .returned (.func (.func 104) #[] #[.pointer (some ⟨w.heap.size, 0, none⟩)]) ∧ w' = w.alloc (.cells #[.slice v n cap] 32) := by
  go_enter Tryd.func75, Tryd.ntmps75
  go_wp2
  go_ret
  exact ⟨rfl, rfl⟩

/-- What the iterator reads between two rounds: the cases; the loop's own row lies in a younger block. -/
structure ItV (n₀ X b off : Nat) (d : Array CaseD) (W : World) : Prop where
  row : RowC W b off d
  size : n₀ ≤ W.heap.size
  Xlt : X < n₀
  blt : b < n₀
  Xb : X ≠ b
  pts : ∀ j, Pts W X j → n₀ ≤ j ∧ j < W.heap.size
section
variable {n₀ X b off : Nat} {d : Array CaseD} {W W' : World}
theorem ItV.kp (h : ItV n₀ X b off d W) (k : KpX X W W') : ItV n₀ X b off d W' := by
  have pb : ¬ Pts W X b := fun hp => by have := (h.pts b hp).1; have := h.blt; omega
  refine ⟨k.row h.Xb.symm pb h.row, Nat.le_trans h.size k.size, h.Xlt, h.blt, h.Xb, fun j hj => ?_⟩
  refine ⟨?_, k.lt (fun i hi => (h.pts i hi).2) j hj⟩
  rcases k.pts j hj with h1 | h1
  · exact (h.pts j h1).1
  · exact Nat.le_trans h.size h1
theorem ItV.below (h : ItV n₀ X b off d W) (k : RowKit.Below W.heap.size W W') : ItV n₀ X b off d W' := by
  have hs := h.size
  have hx := h.Xlt
  exact h.kp (KpX.of_below (by omega) k)
end

set_option maxRecDepth 100000 in
set_option maxHeartbeats 2000000 in
theorem valuesC_walk (n n₀ X B b off cap l : Nat) (d : Array CaseD) (hn : 1 ≤ n) (h8 : d.size ≤ 8) (hok : ∀ j, j < d.size → okB d[j]! = true) (J Jx : List SegD → World → Prop) (N : Nat) (hJ : AbidesFrom N J)
    (hY : ∀ pre x W, J pre W → pre.length < 17 → YieldAt Fence.wide (n - 1) Tryd.prog l (encs x) W fun e W' =>
      (e = .returned (.bool true) ∧ J (pre ++ [x]) W' ∧ KpX X W W') ∨ (e = .returned (.bool false) ∧ Jx (pre ++ [x]) W'))
    (W : World) (c0 : W.cell? ⟨B, 0, none⟩ = some (.slice (some ⟨b, off, none⟩) d.size cap)) (hI : ItV n₀ X b off d W) (h0 : J [] W) :
    CallsIn Fence.wide n Tryd.prog 104 #[.func (.yield l) #[] #[], .pointer (some ⟨B, 0, none⟩)] W fun e W' => (∃ v, e = .returned v) ∧
      ((∃ ys, vals ys = d.toList ∧ J ys W') ∨ (∃ pre, True ∧ Jx pre W')) := by
  have HI := Lib.hid hI
  have HJ0 := Lib.hid h0
  have HJ := Lib.hid hJ
  have HY := Lib.hid hY
  have HOK := Lib.hid hok
  have h8i : (d.size : Int) ≤ 8 := by omega
  clear hI h0 hJ hY hok
  refine callsIn_of_wp Tryd.func104 rfl trivial ?_ rfl
  simp only [Tryd.ntmps104, List.size_toArray, List.length_cons, List.length_nil, Nat.reduceAdd, Nat.reduceSub, Array.replicate_succ, Array.replicate_zero, List.push_toArray, List.append_toArray, List.nil_append, List.cons_append]
  gi_wp2
  clear c0
  gi_loopw [7] (fun i wr => ∃ (k : Nat) (pre : List SegD), i = .int .i64 k ∧ k ≤ d.size ∧ Hid (vals pre = d.toList.take k) ∧ Hid (J pre wr) ∧ Hid (ItV n₀ X b off d wr)) (fun i _ => d.size - (intOf i).toNat)
  case atStart => exact ⟨0, [], rfl, Nat.zero_le _, rfl, HJ0.out, HI.out⟩
  case round =>
    obtain ⟨k, pre, rfl, hk, HV, HJk, HIk⟩ := hrel
    by_cases hlt : k < d.size
    · have hx := HIk.out.row
      have x0 := hx.low k hlt
      have x1 := hx.high k hlt
      have x2 := hx.target k hlt
      have x3 := hx.weight k hlt
      have hcase := HOK.out k hlt
      clear hx
      obtain ⟨x, hxe⟩ : ∃ x, x = d[k]! := ⟨_, rfl⟩
      rw [← hxe] at x0 x1 x2 x3 hcase
      have HTK := Lib.hid (show d.toList.take (k + 1) = d.toList.take k ++ [x] by rw [List.take_succ_eq_append_getElem (by simpa using hlt), hxe, getElem!_pos d k hlt, Array.getElem_toList])
      clear hxe
      have hpl : pre.length < 17 := by
        have h2 : (vals pre).length = pre.length := by simp [vals]
        rw [HV.out, List.length_take] at h2
        omega
      obtain ⟨wb, hwb⟩ : ∃ wb, wb = wr.alloc (.cells #[.int .i64 x.low, .int .i64 x.high, .string x.target, .int .i64 x.weight] 81) := ⟨_, rfl⟩
      have hbb : RowKit.Below wr.heap.size wr wb := by rw [hwb]; exact (Below.refl _ _).alloc (Nat.le_refl _) _
      have HIb := Lib.hid (HIk.out.below hbb)
      obtain ⟨fn, tmps, assign, body, hy, hR⟩ := HY.out pre ⟨x, hcase⟩ wb (abides_below HJ.out HJk.out hbb) hpl
      dsimp only [encs, aggC] at hy
      rw [hwb] at hy
      have HWB := Lib.hid hwb
      have HR := Lib.hid hR
      have hki : (k : Int) < (d.size : Int) := by omega
      clear hR hwb hbb
      gi_wp2_with fail
      rw [← HWB.out]
      refine HR.out.mono ?_
      rintro e W3 (⟨rfl, hJ3, hk3⟩ | ⟨rfl, hJx3⟩)
      · have HJ3 := Lib.hid hJ3
        have HI3 := Lib.hid (HIb.out.kp hk3)
        clear hy hJ3 hk3 HR
        gi_wp2
        go_roundw
        case rel => exact ⟨k + 1, _, by go_num, by omega, (show vals _ = _ by rw [vals_snoc, HV.out, HTK.out]), HJ3.out, HI3.out⟩
        case measure => simp [intOf]; omega
      · gi_wp2
        refine bodyPost_ret (results_none rfl _ _ _) rfl ?_
        exact ⟨⟨_, rfl⟩, .inr ⟨_, trivial, hJx3⟩⟩
    · have hke : d.toList.take k = d.toList := List.take_of_length_le (by simp; omega)
      have HKE := Lib.hid (HV.out.trans hke)
      have hkn : ¬ (k : Int) < (d.size : Int) := by omega
      clear hke
      gi_wp2_with fail
      go_end0
      exact ⟨⟨_, rfl⟩, .inl ⟨_, HKE.out, HJk.out⟩⟩

/-- What Values hands back: all cases, in order. -/
theorem valuesC_stops (n X b off cap B : Nat) (d : Array CaseD) (w : World) (hn : 1 ≤ n) (h8 : d.size ≤ 8) (hok : ∀ j, j < d.size → okB d[j]! = true) (c0 : w.cell? ⟨B, 0, none⟩ = some (.slice (some ⟨b, off, none⟩) d.size cap))
    (hR : RowC w b off d) (hX : X < w.heap.size) (hB : B < w.heap.size) (hXb : X ≠ b) (hp : ∀ j, ¬ Pts w X j) :
    SeqStopsK Fence.wide n Tryd.prog 104 #[.pointer (some ⟨B, 0, none⟩)] (fun x : SegD => #[Value.agg #[.int .i64 x.1.low, .int .i64 x.1.high, .string x.1.target, .int .i64 x.1.weight]]) (KpX X) (fun ys => vals ys = d.toList) (fun _ => True) 17 w := fun l J Jx W hW hJ _ hY h0 => by
  have hx : W.heap[X]? = w.heap[X]? := hW.block X hX
  exact valuesC_walk n w.heap.size X B b off cap l d hn h8 hok J Jx _ hJ hY W ((hW.cell (p := ⟨B, 0, none⟩) hB).trans c0) ⟨hR.below hW, hW.size, hX, hR.old, hXb, fun j hj => absurd ((Pts.of_heap hx).1 hj) (hp j)⟩ h0
end Go.Proofs.YtkiaafpggjojiaaDoor
