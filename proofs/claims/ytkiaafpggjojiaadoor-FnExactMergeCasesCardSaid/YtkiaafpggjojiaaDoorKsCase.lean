
/- CaseOf: the program's and the model's; the index of the case of a key. -/
import Derived.Test.YtkiaafpggjojiaaDoorKsSum
namespace Go.Proofs.YtkiaafpggjojiaaDoor
open Go.RowKit Go.Shelf Go.Lib Go.Sort

/-- The index of the first case that has a key, or -1. -/
def atN (d : Array CaseD) (key : Int) : Int := Lib.idxBy (fun _ y => hasB y key) (d.toList.take d.size) default
theorem toList_get (d : Array CaseD) (j : Nat) : d.toList[j]! = d[j]! := by
  by_cases h : j < d.size <;> simp [h]
theorem atN_hit {d : Array CaseD} {key : Int} {k : Nat} (hk : k < d.size) (h : hasB d[k]! key = true) (hb : ∀ j, j < k → hasB d[j]! key = false) : atN d key = k := by
  have := Lib.idxBy_hit (fun (_ y : CaseD) => hasB y key) d.toList d.size k default hk (by simp) (by rw [toList_get]; exact h) (fun j hj => by rw [toList_get]; exact hb j hj)
  exact this
theorem atN_miss {d : Array CaseD} {key : Int} (hb : ∀ j, j < d.size → hasB d[j]! key = false) : atN d key = -1 := by
  have := Lib.idxBy_miss (fun (_ y : CaseD) => hasB y key) d.toList d.size default (fun j hj => by rw [toList_get]; exact hb j hj)
  exact this
theorem atN_cases (d : Array CaseD) (key : Int) : (∃ k : Nat, k < d.size ∧ atN d key = k ∧ hasB d[k]! key = true ∧ ∀ j, j < k → hasB d[j]! key = false) ∨ (atN d key = -1 ∧ ∀ j, j < d.size → hasB d[j]! key = false) := by
  by_cases h : ∃ k, k < d.size ∧ hasB d[k]! key = true
  · have hd : ∀ n, (∃ k, k < n ∧ k < d.size ∧ hasB d[k]! key = true) → ∃ k, k < d.size ∧ hasB d[k]! key = true ∧ ∀ j, j < k → hasB d[j]! key = false := by
      intro n
      induction n with
      | zero => rintro ⟨k, hk, _⟩; omega
      | succ n ih =>
        rintro ⟨k, hk, h1, h2⟩
        by_cases hex : ∃ j, j < k ∧ hasB d[j]! key = true
        · obtain ⟨j, hj, h3⟩ := hex
          exact ih ⟨j, by omega, by omega, h3⟩
        · refine ⟨k, h1, h2, fun j hj => ?_⟩
          cases hq : hasB d[j]! key with
          | false => rfl
          | true => exact absurd ⟨j, hj, hq⟩ hex
    obtain ⟨k, h1, h2⟩ := h
    obtain ⟨q, h3, h4, h5⟩ := hd (k + 1) ⟨k, by omega, h1, h2⟩
    exact .inl ⟨q, h3, atN_hit h3 h4 h5, h4, h5⟩
  · have hb : ∀ j, j < d.size → hasB d[j]! key = false := fun j hj => by
      cases hq : hasB d[j]! key with
      | false => rfl
      | true => exact absurd ⟨j, hj, hq⟩ h
    exact .inr ⟨atN_miss hb, hb⟩
theorem atN_out {d : Array CaseD} {rest key : Int} (h : SwOK d rest) (hk : keyB key = false) : atN d key = -1 :=
  atN_miss fun j hj => by
    have h1 := caseB_low (h.case j hj)
    have h2 := caseB_high (h.case j hj)
    simp [keyB] at hk
    simp [hasB]
    omega
noncomputable def caseN (d : Array CaseD) (rest key : Int) : Int := if swB d rest = true then atN d key else -1

/-! the model -/
set_option maxRecDepth 100000 in
set_option maxHeartbeats 1000000 in
theorem l1At_any (b off cap : Nat) (d : Array CaseD) (rest key : Int) (w : World) (hR : RowC w b off d) (hn : d.size ≤ 8) :
    Calls Tryd.prog 105 #[.agg #[.slice (some ⟨b, off, none⟩) d.size cap, .int .i64 rest], .int .i64 key] w fun x w' => x = .returned (.int .i64 (atN d key)) ∧ RowKit.Below w.heap.size w w' := by
  have HR := Lib.hid hR
  have h8 : (d.size : Int) ≤ 8 := by omega
  clear hR
  go_enter Tryd.func105, Tryd.ntmps105
  go_wp2
  obtain ⟨wa, hwa⟩ : ∃ wa, wa = w.alloc (.cells #[.slice (some ⟨b, off, none⟩) d.size cap, .int .i64 rest] 34) := ⟨_, rfl⟩
  have hba : RowKit.Below w.heap.size w wa := by rw [hwa]; exact (Below.refl _ _).alloc (Nat.le_refl _) _
  have hza := hba.size
  rw [← hwa]
  have HA := Lib.hid hba
  clear hwa hba
  go_loopw [10] (fun i wr => ∃ k : Nat, i = .int .i64 k ∧ k ≤ d.size ∧ Hid (∀ j, j < k → hasB d[j]! key = false) ∧ Hid (RowKit.Below w.heap.size w wr) ∧ w.heap.size ≤ wr.heap.size) (fun i _ => d.size - (intOf i).toNat)
  case atStart => exact ⟨0, rfl, Nat.zero_le _, fun j hj => absurd hj (Nat.not_lt_zero _), HA.out, hza⟩
  case round =>
    obtain ⟨k, rfl, hk, HE, HW, hw2⟩ := hrel
    by_cases hlt : k < d.size
    · have hx := HR.out.below HW.out
      have x0 := hx.low k hlt
      have x1 := hx.high k hlt
      have x2 := hx.target k hlt
      have x3 := hx.weight k hlt
      clear hx
      obtain ⟨x, hxe⟩ : ∃ x, x = d[k]! := ⟨_, rfl⟩
      rw [← hxe] at x0 x1 x2 x3
      have XE := Lib.hid hxe
      clear hxe
      have hcall : ∀ W, Calls Tryd.prog 88 #[.int .i64 key, .int .i64 x.low, .int .i64 x.high] W fun e w' => e = .returned (.bool (hasB x key)) ∧ W = w' := fun W => l1In_any key x.low x.high W
      cases hq : hasB x key
      all_goals
        simp only [hq] at hcall
        have HCL := Lib.hid hcall
        have HQ := Lib.hid hq
        clear hcall hq
        go_wp2_with (go_at_call 88; refine (HCL.out _).mono ?_; rintro y w2 ⟨rfl, rfl⟩)
      · go_roundw
        case rel =>
          refine ⟨k + 1, by go_num, by omega, (show Hid _ from fun j hj => ?_), HW.out.alloc hw2 _, by simp; omega⟩
          by_cases e : j = k
          · subst e
            rw [← XE.out]
            exact HQ.out
          · exact HE.out j (by omega)
        case measure => simp [intOf]; omega
      · go_ret
        exact ⟨retI (atN_hit hlt (by rw [← XE.out]; exact HQ.out) HE.out).symm, HW.out.alloc hw2 _⟩
    · go_wp2
      go_ret
      exact ⟨retI (atN_miss fun j hj => HE.out j (by omega)).symm, HW.out⟩

set_option maxHeartbeats 400000 in
theorem l1Key_any (n : Int) (w : World) : Calls Tryd.prog 49 #[.int .i64 n] w fun e w' => e = .returned (.bool (keyB n)) ∧ w = w' := by
  have hcall : ∀ W, Calls Tryd.prog 88 #[.int .i64 n, .int .i64 0, .int .i64 31] W fun e w' => e = .returned (.bool (keyB n)) ∧ W = w' := fun W => l1In_any n 0 31 W
  have HCL := Lib.hid hcall
  clear hcall
  go_enter Tryd.func49, Tryd.ntmps49
  go_wp2_with (go_at_call 88; refine (HCL.out _).mono ?_; rintro y w2 ⟨rfl, rfl⟩)
  go_ret
  exact ⟨rfl, rfl⟩

end Go.Proofs.YtkiaafpggjojiaaDoor
