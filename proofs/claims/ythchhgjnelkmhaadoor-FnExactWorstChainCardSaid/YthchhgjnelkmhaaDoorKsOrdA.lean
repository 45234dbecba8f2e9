/- Orders of the cases of a switch: what an order is; the model's l3Order. -/
import Derived.Test.YthchhgjnelkmhaaDoorKsLeaf
import Derived.Sort.LotA
import Derived.Sort.Row
import Derived.Sort.Grow
import Derived.IntWalk
import Derived.Laws.MakeOwn
import Derived.Shelf.SlicesE.Clone
namespace Go.Proofs.YthchhgjnelkmhaaDoor
open Go.RowKit Go.Shelf Go.Lib Go.Sort

/-- A row of integers in memory. -/
structure RowN (w : World) (b off : Nat) (o : Array Int) : Prop where
  old : b < w.heap.size
  cell : ∀ j, j < o.size → w.cell? ⟨b, off + j, none⟩ = some (.int .i64 o[j]!)
theorem RowN.below {w w' : World} {b off : Nat} {o : Array Int} (h : RowN w b off o) (hb : RowKit.Below w.heap.size w w') : RowN w' b off o :=
  ⟨Nat.lt_of_lt_of_le h.old hb.size, fun j hj => (hb.cell (p := ⟨b, off + j, none⟩) h.old).trans (h.cell j hj)⟩

def OrdTo (n : Nat) (o : Array Int) (k : Nat) : Prop := ∀ j, j < k → (0 ≤ o[j]! ∧ o[j]! < n) ∧ ∀ i, i < j → o[i]! ≠ o[j]!
def OrdOK (n : Nat) (o : Array Int) : Prop := o.size = n ∧ OrdTo n o o.size
open Classical in
noncomputable def ordB (n : Nat) (o : Array Int) : Bool := decide (OrdOK n o)
theorem ordB_iff (n : Nat) (o : Array Int) : ordB n o = true ↔ OrdOK n o := @decide_eq_true_iff _ (Classical.propDecidable _)
theorem ordB_not (n : Nat) (o : Array Int) : ordB n o = false ↔ ¬ OrdOK n o := @decide_eq_false_iff_not _ (Classical.propDecidable _)
theorem OrdTo.succ {n : Nat} {o : Array Int} {k : Nat} (h : OrdTo n o k) (h1 : 0 ≤ o[k]! ∧ o[k]! < n) (h2 : ∀ i, i < k → o[i]! ≠ o[k]!) : OrdTo n o (k + 1) := fun j hj => by
  rcases Nat.lt_or_ge j k with h3 | h3
  · exact h j h3
  · obtain rfl : j = k := by omega
    exact ⟨h1, h2⟩

theorem holds_setG {α : Type} [Inhabited α] (enc : α → Value) {w : World} {g : Nat} {d : Array α} (h : Holds enc w g 0 d) (i : Nat) (x : α) (hi : i < d.size) : Holds enc (w.setCell ⟨g, i, none⟩ (enc x)) g 0 (d.setIfInBounds i x) := by
  have e := putRow_set enc w g 0 d i x hi
  rw [putRow_self enc w g 0 d h, Nat.zero_add] at e
  rw [e]
  exact holds_putRow enc w g 0 d _ h (by simp)

theorem run_makeBool (n : Nat) (hn : n ≤ 1048576) (W : World) :
    (Instr.makeSlice 81 (.int .i64 (n : Int)) (.int .i64 (n : Int))).run Tryd.prog W = .ok (.slice (some ⟨W.heap.size, 0, none⟩) n n) (W.alloc (.cells (madeCells #[.bool false] n) 4)) := by
  obtain ⟨i0, hi, hz0, hz1, hz2⟩ := info_parts (show (Tryd.prog.info? 4).map (fun i => (i.zero, i.size, i.bytes)) = some (some (.bool false), 1, 1) by kernel_rfl)
  have h := run_make (P := Tryd.prog) W 81 4 i0 _ Tryd.underlying81 hi hz0 .i64 .i64 (n : Int) (n : Int) (by omega) (by omega) (by rw [hz2]; omega) (by omega)
  rw [hz1] at h
  simp only [Int.toNat_natCast, Nat.mul_one] at h
  exact h
theorem run_makeInt (n : Nat) (hn : n ≤ 1048576) (W : World) :
    (Instr.makeSlice 25 (.int .i64 (n : Int)) (.int .i64 (n : Int))).run Tryd.prog W = .ok (.slice (some ⟨W.heap.size, 0, none⟩) n n) (W.alloc (.cells (madeCells #[.int .i64 0] n) 3)) := by
  obtain ⟨i0, hi, hz0, hz1, hz2⟩ := info_parts (show (Tryd.prog.info? 3).map (fun i => (i.zero, i.size, i.bytes)) = some (some (.int .i64 0), 1, 8) by kernel_rfl)
  have h := run_make (P := Tryd.prog) W 25 3 i0 _ Tryd.underlying25 hi hz0 .i64 .i64 (n : Int) (n : Int) (by omega) (by omega) (by rw [hz2]; omega) (by omega)
  rw [hz1] at h
  simp only [Int.toNat_natCast, Nat.mul_one] at h
  exact h
theorem made_holdsG {α : Type} [Inhabited α] {u : Value} (enc : α → Value) (z : α) (hz : enc z = u) (n : Nat) (T : TypeId) (W : World) (g : Nat) (hg : g = W.heap.size) : Holds enc (W.alloc (.cells (madeCells #[u] n) T)) g 0 (Array.replicate n z) := by
  subst hg hz
  intro t ht
  have ht' : t < n := by simpa using ht
  constructor
  · simp [madeCells, ht', Nat.mod_one]
  · simp

set_option maxRecDepth 100000 in
set_option maxHeartbeats 1000000 in
theorem l3Order_any (n b off cap : Nat) (o : Array Int) (w : World) (hn : n ≤ 8) (hR : RowN w b off o) (ho : o.size ≤ 1048576) :
    Calls Tryd.prog 37 #[.int .i64 n, .slice (some ⟨b, off, none⟩) o.size cap] w fun x w' => x = .returned (.bool (ordB n o)) ∧ RowKit.Below w.heap.size w w' := by
  have HR := Lib.hid hR
  have hn' : (n : Int) ≤ 8 := by omega
  have ho' : (o.size : Int) ≤ 1048576 := by omega
  clear hR
  have hmk := run_makeBool n (by omega)
  go_enter Tryd.func37, Tryd.ntmps37
  go_wp2
  have hH0 := made_holdsG Value.bool false rfl n 4 w w.heap.size rfl
  obtain ⟨wa, hwa⟩ : ∃ wa, wa = w.alloc (.cells (madeCells #[.bool false] n) 4) := ⟨_, rfl⟩
  rw [← hwa] at hH0
  have hz : w.heap.size < wa.heap.size := by rw [hwa]; simp
  have hba : RowKit.Below w.heap.size w wa := by rw [hwa]; exact (Below.refl _ _).alloc (Nat.le_refl _) _
  rw [← hwa]
  have HH0 := Lib.hid hH0
  have HB := Lib.hid hba
  clear hwa hba hH0 hmk
  obtain ⟨g, hg⟩ : ∃ g, g = w.heap.size := ⟨_, rfl⟩
  rw [← hg] at HH0 hz ⊢
  have HG := Lib.hid hg
  clear hg
  go_loopw [12] (fun i wr => ∃ (k : Nat) (A : Array Bool), i = .int .i64 k ∧ k ≤ o.size ∧ Hid (A.size = n) ∧ Hid (Holds Value.bool wr g 0 A) ∧ Hid (∀ t, t < n → (A[t]! = true ↔ ∃ j, j < k ∧ o[j]! = (t : Int))) ∧ Hid (OrdTo n o k) ∧ Hid (RowKit.Below w.heap.size w wr) ∧ wa.heap.size ≤ wr.heap.size) (fun i _ => o.size - (Lib.intOf i).toNat)
  case atStart => exact ⟨0, _, rfl, Nat.zero_le _, by simp [Hid], HH0.out, (show Hid _ from fun t ht => by simp [ht]), (fun j hj => absurd hj (Nat.not_lt_zero _)), HB.out, Nat.le_refl _⟩
  case round =>
    obtain ⟨k, A, rfl, hk, HAZ, HH, HM, HT, HW, hw2⟩ := hrel
    by_cases hlt : k < o.size
    · have x0 := (HR.out.below HW.out).cell k hlt
      obtain ⟨x, hxe⟩ : ∃ x, x = o[k]! := ⟨_, rfl⟩
      rw [← hxe] at x0
      have XE := Lib.hid hxe
      clear hxe
      by_cases hin : 0 ≤ x ∧ x < n
      · have hcall : ∀ W, Calls Tryd.prog 42 #[.int .i64 x, .int .i64 0, .int .i64 ((n : Int) - 1)] W fun e w' => e = .returned (.bool true) ∧ W = w' := fun W => (show inB x 0 ((n : Int) - 1) = true by simp [inB]; omega) ▸ l1In_any x 0 ((n : Int) - 1) W
        have HCL := Lib.hid hcall
        clear hcall
        obtain ⟨t, rfl⟩ : ∃ t : Nat, x = t := ⟨x.toNat, by omega⟩
        have ht : t < n := by omega
        have htA : t < A.size := by rw [HAZ.out]; exact ht
        have y0 := (HH.out t htA).1
        have y1 := (HH.out t htA).2
        simp only [Nat.zero_add] at y0 y1
        have HTA := Lib.hid htA
        clear htA hin
        cases hq : A[t]!
        all_goals
          rw [hq] at y0
          have HQ := Lib.hid hq
          clear hq
          go_wp2_with (go_at_call 42; refine (HCL.out _).mono ?_; rintro y w2 ⟨rfl, rfl⟩)
        · go_roundw
          case rel =>
            refine ⟨k + 1, A.setIfInBounds t true, by go_num, by omega, (show _ = _ by simpa using HAZ.out), holds_setG Value.bool HH.out t true HTA.out, (show Hid _ from fun t' ht' => ?_), HT.out.succ (by rw [← XE.out]; omega) ?_, HW.out.setCell (p := ⟨g, t, none⟩) (Nat.le_of_eq HG.out.symm) _, by simpa [World.setCell] using hw2⟩
            · by_cases e : t' = t
              · subst e
                rw [getElem!_set_same _ _ _ HTA.out]
                simp only [true_iff]
                exact ⟨k, by omega, XE.out.symm⟩
              · rw [getElem!_set_other _ _ _ _ e, HM.out t' ht']
                constructor
                · rintro ⟨j, hj, h⟩
                  exact ⟨j, by omega, h⟩
                · rintro ⟨j, hj, h⟩
                  refine ⟨j, ?_, h⟩
                  rcases Nat.lt_or_ge j k with h3 | h3
                  · exact h3
                  · obtain rfl : j = k := by omega
                    rw [← XE.out] at h
                    omega
            · intro j hj h
              have := (HM.out t ht).2 ⟨j, hj, h.trans XE.out.symm⟩
              rw [HQ.out] at this
              cases this
          case measure => simp [Lib.intOf]; omega
        · go_ret
          refine ⟨retB ((ordB_not n o).2 fun h => ?_).symm, HW.out⟩
          obtain ⟨j, hj, h1⟩ := (HM.out t ht).1 HQ.out
          exact (h.2 k (by rw [h.1] at hlt ⊢; omega)).2 j hj (h1.trans XE.out)
      · have hcall : ∀ W, Calls Tryd.prog 42 #[.int .i64 x, .int .i64 0, .int .i64 ((n : Int) - 1)] W fun e w' => e = .returned (.bool false) ∧ W = w' := fun W => (show inB x 0 ((n : Int) - 1) = false by simp [inB]; omega) ▸ l1In_any x 0 ((n : Int) - 1) W
        have HCL := Lib.hid hcall
        have HIN := Lib.hid hin
        clear hcall hin
        go_wp2_with (go_at_call 42; refine (HCL.out _).mono ?_; rintro y w2 ⟨rfl, rfl⟩)
        go_ret
        refine ⟨retB ((ordB_not n o).2 fun h => HIN.out ?_).symm, HW.out⟩
        rw [XE.out]
        exact (h.2 k hlt).1
    · have hke : k = o.size := by omega
      have HKE := Lib.hid hke
      by_cases hsz : o.size = n
      · have hq : ((o.size : Int) == (n : Int)) = true := by simp; omega
        have HSZ := Lib.hid hsz
        clear hke hsz
        go_wp2
        go_ret
        exact ⟨retB ((ordB_iff n o).2 ⟨HSZ.out, HKE.out ▸ HT.out⟩).symm, HW.out⟩
      · have hq : ((o.size : Int) == (n : Int)) = false := by simp; omega
        have HSZ := Lib.hid hsz
        clear hke hsz
        go_wp2
        go_ret
        exact ⟨retB ((ordB_not n o).2 fun h => HSZ.out h.1).symm, HW.out⟩
end Go.Proofs.YthchhgjnelkmhaaDoor
