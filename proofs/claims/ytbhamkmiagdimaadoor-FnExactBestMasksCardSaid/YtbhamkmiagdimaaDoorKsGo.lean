
/- CaseOf: the program's and the model's; the index of the case of a key. · TargetOf: the program's and the model's. -/
import Derived.Test.YtbhamkmiagdimaaDoorKsSums
namespace Go.Proofs.YtbhamkmiagdimaaDoor
open Go.RowKit Go.Shelf Go.Lib Go.Sort

/-- The index of the first case that has a key, or -1. -/
def atN (d : Array CaseD) (key : Int) : Int := Lib.idxBy (fun _ y => hasB y key) (d.toList.take d.size) default
theorem toList_get (d : Array CaseD) (j : Nat) : d.toList[j]! = d[j]! := by
  by_cases h : j < d.size <;> simp [h]
theorem atN_hit {d : Array CaseD} {key : Int} {k : Nat} (hk : k < d.size) (h : hasB d[k]! key = true) (hb : ∀ j, j < k → hasB d[j]! key = false) : atN d key = k := by
  have := Lib.idxBy_hit (fun (_ y : CaseD) => hasB y key) d.toList d.size k default hk (by simp) (by rw [toList_get]; exact h) (fun j hj => by rw [toList_get]; exact hb j hj)
  exact this
theorem atN_miss {d : Array CaseD} {key : Int} (hb : ∀ j, j < d.size → hasB d[j]! key = false) : atN d key = -1 := by
  have := Lib.idxBy_miss (fun (_ y : CaseD) => hasB y key) d.toList d.size default (fun j hj => by rw [toList_get]; exact hb j hj)
  exact this
theorem atN_cases (d : Array CaseD) (key : Int) : (∃ k : Nat, k < d.size ∧ atN d key = k ∧ hasB d[k]! key = true ∧ ∀ j, j < k → hasB d[j]! key = false) ∨ (atN d key = -1 ∧ ∀ j, j < d.size → hasB d[j]! key = false) := by
  by_cases h : ∃ k, k < d.size ∧ hasB d[k]! key = true
  · have hd : ∀ n, (∃ k, k < n ∧ k < d.size ∧ hasB d[k]! key = true) → ∃ k, k < d.size ∧ hasB d[k]! key = true ∧ ∀ j, j < k → hasB d[j]! key = false := by
      intro n
      induction n with
      | zero => rintro ⟨k, hk, _⟩; omega
      | succ n ih =>
        rintro ⟨k, hk, h1, h2⟩
        by_cases hex : ∃ j, j < k ∧ hasB d[j]! key = true
        · obtain ⟨j, hj, h3⟩ := hex
          exact ih ⟨j, by omega, by omega, h3⟩
        · refine ⟨k, h1, h2, fun j hj => ?_⟩
          cases hq : hasB d[j]! key with
          | false => rfl
          | true => exact absurd ⟨j, hj, hq⟩ hex
    obtain ⟨k, h1, h2⟩ := h
    obtain ⟨q, h3, h4, h5⟩ := hd (k + 1) ⟨k, by omega, h1, h2⟩
    exact .inl ⟨q, h3, atN_hit h3 h4 h5, h4, h5⟩
  · have hb : ∀ j, j < d.size → hasB d[j]! key = false := fun j hj => by
      cases hq : hasB d[j]! key with
      | false => rfl
      | true => exact absurd ⟨j, hj, hq⟩ h
    exact .inr ⟨atN_miss hb, hb⟩
theorem atN_out {d : Array CaseD} {rest key : Int} (h : SwOK d rest) (hk : keyB key = false) : atN d key = -1 :=
  atN_miss fun j hj => by
    have h1 := caseB_low (h.case j hj)
    have h2 := caseB_high (h.case j hj)
    simp [keyB] at hk
    simp [hasB]
    omega
noncomputable def caseN (d : Array CaseD) (rest key : Int) : Int := if swB d rest = true then atN d key else -1

/-! the model -/
set_option maxRecDepth 100000 in
set_option maxHeartbeats 1000000 in
theorem l1At_any (b off cap : Nat) (d : Array CaseD) (rest key : Int) (w : World) (hR : RowC w b off d) (hn : d.size ≤ 8) :
    Calls Tryd.prog 111 #[.agg #[.slice (some ⟨b, off, none⟩) d.size cap, .int .i64 rest], .int .i64 key] w fun x w' => x = .returned (.int .i64 (atN d key)) ∧ RowKit.Below w.heap.size w w' := by
  have HR := Lib.hid hR
  have h8 : (d.size : Int) ≤ 8 := by omega
  clear hR
  go_enter Tryd.func111, Tryd.ntmps111
  go_wp2
  obtain ⟨wa, hwa⟩ : ∃ wa, wa = w.alloc (.cells #[.slice (some ⟨b, off, none⟩) d.size cap, .int .i64 rest] 32) := ⟨_, rfl⟩
  have hba : RowKit.Below w.heap.size w wa := by rw [hwa]; exact (Below.refl _ _).alloc (Nat.le_refl _) _
  have hza := hba.size
  rw [← hwa]
  have HA := Lib.hid hba
  clear hwa hba
  go_loopw [10] (fun i wr => ∃ k : Nat, i = .int .i64 k ∧ k ≤ d.size ∧ Hid (∀ j, j < k → hasB d[j]! key = false) ∧ Hid (RowKit.Below w.heap.size w wr) ∧ w.heap.size ≤ wr.heap.size) (fun i _ => d.size - (intOf i).toNat)
  case atStart => exact ⟨0, rfl, Nat.zero_le _, fun j hj => absurd hj (Nat.not_lt_zero _), HA.out, hza⟩
  case round =>
    obtain ⟨k, rfl, hk, HE, HW, hw2⟩ := hrel
    by_cases hlt : k < d.size
    · have hx := HR.out.below HW.out
      have x0 := hx.low k hlt
      have x1 := hx.high k hlt
      have x2 := hx.target k hlt
      have x3 := hx.weight k hlt
      clear hx
      obtain ⟨x, hxe⟩ : ∃ x, x = d[k]! := ⟨_, rfl⟩
      rw [← hxe] at x0 x1 x2 x3
      have XE := Lib.hid hxe
      clear hxe
      have hcall : ∀ W, Calls Tryd.prog 75 #[.int .i64 key, .int .i64 x.low, .int .i64 x.high] W fun e w' => e = .returned (.bool (hasB x key)) ∧ W = w' := fun W => l1In_any key x.low x.high W
      cases hq : hasB x key
      all_goals
        simp only [hq] at hcall
        have HCL := Lib.hid hcall
        have HQ := Lib.hid hq
        clear hcall hq
        go_wp2_with (go_at_call 75; refine (HCL.out _).mono ?_; rintro y w2 ⟨rfl, rfl⟩)
      · go_roundw
        case rel =>
          refine ⟨k + 1, by go_num, by omega, (show Hid _ from fun j hj => ?_), HW.out.alloc hw2 _, by simp; omega⟩
          by_cases e : j = k
          · subst e
            rw [← XE.out]
            exact HQ.out
          · exact HE.out j (by omega)
        case measure => simp [intOf]; omega
      · go_ret
        exact ⟨retI (atN_hit hlt (by rw [← XE.out]; exact HQ.out) HE.out).symm, HW.out.alloc hw2 _⟩
    · go_wp2
      go_ret
      exact ⟨retI (atN_miss fun j hj => HE.out j (by omega)).symm, HW.out⟩

set_option maxHeartbeats 400000 in
theorem l1Key_any (n : Int) (w : World) : Calls Tryd.prog 55 #[.int .i64 n] w fun e w' => e = .returned (.bool (keyB n)) ∧ w = w' := by
  have hcall : ∀ W, Calls Tryd.prog 75 #[.int .i64 n, .int .i64 0, .int .i64 31] W fun e w' => e = .returned (.bool (keyB n)) ∧ W = w' := fun W => l1In_any n 0 31 W
  have HCL := Lib.hid hcall
  clear hcall
  go_enter Tryd.func55, Tryd.ntmps55
  go_wp2_with (go_at_call 75; refine (HCL.out _).mono ?_; rintro y w2 ⟨rfl, rfl⟩)
  go_ret
  exact ⟨rfl, rfl⟩

end Go.Proofs.YtbhamkmiagdimaaDoor

namespace Go.Proofs.YtbhamkmiagdimaaDoor
open Go.RowKit Go.Shelf Go.Lib Go.Sort

def zS : ByteArray := ⟨#[122]⟩
/-- The target of a key of a valid switch. -/
def goesN (d : Array CaseD) (key : Int) : ByteArray := if 0 ≤ atN d key then d[(atN d key).toNat]!.target else zS
noncomputable def okN (d : Array CaseD) (rest key : Int) : Bool := swB d rest && keyB key
noncomputable def targetN (d : Array CaseD) (rest key : Int) : ByteArray := if okN d rest key = true then goesN d key else ⟨#[]⟩
theorem goesN_hit {d : Array CaseD} {key : Int} {k : Nat} (h : atN d key = k) : goesN d key = d[k]!.target := by
  unfold goesN
  rw [h, if_pos (by omega), Int.toNat_natCast]
theorem goesN_miss {d : Array CaseD} {key : Int} (h : atN d key = -1) : goesN d key = zS := by
  unfold goesN
  rw [h, if_neg (by omega)]
theorem ret2 {a c : ByteArray} {b e : Bool} (h : a = c) (h2 : b = e) : Ending.returned (.tuple #[.string a, .bool b]) = .returned (.tuple #[.string c, .bool e]) := by rw [h, h2]
theorem retS {a c : ByteArray} (h : a = c) : Ending.returned (.string a) = .returned (.string c) := by rw [h]

set_option maxRecDepth 100000 in
set_option maxHeartbeats 400000 in
theorem text_any (w : World) : Calls Tryd.prog 59 #[.int .u8 122] w fun x w' => x = .returned (.string zS) ∧ RowKit.Below w.heap.size w w' := by
  have hconv : Sem.run Tryd.prog (convert 112 9 (.slice (some ⟨w.heap.size, 0, none⟩) 1 1)) (w.alloc (.cells #[.int .u8 122] 5)) = .ok (.string zS) (w.alloc (.cells #[.int .u8 122] 5)) := by
    rw [run_convert_bytes_string _ _ _ _ _ _ _ Tryd.underlying112 Tryd.underlying5 Tryd.underlying9, run_bytesToString _ _ _ _ [122] (by go_simp)]
    rfl
  go_enter Tryd.func59, Tryd.ntmps59
  go_wp2
  go_ret
  exact ⟨rfl, (Below.refl _ _).alloc (Nat.le_refl _) _⟩

set_option maxRecDepth 100000 in
set_option maxHeartbeats 1000000 in
theorem l1Goes_any (b off cap : Nat) (d : Array CaseD) (rest key : Int) (w : World) (hR : RowC w b off d) (hn : d.size ≤ 8) :
    Calls Tryd.prog 87 #[.agg #[.slice (some ⟨b, off, none⟩) d.size cap, .int .i64 rest], .int .i64 key] w fun x w' => x = .returned (.string (goesN d key)) ∧ RowKit.Below w.heap.size w w' := by
  have ha := fun W (hW : RowKit.Below w.heap.size w W) => l1At_any b off cap d rest key W (hR.below hW) hn
  have HAT := Lib.hid ha
  have HR := Lib.hid hR
  have h8 : (d.size : Int) ≤ 8 := by omega
  clear ha hR
  obtain ⟨wa, hwa⟩ : ∃ wa, wa = w.alloc (.cells #[.slice (some ⟨b, off, none⟩) d.size cap, .int .i64 rest] 32) := ⟨_, rfl⟩
  have c0 : wa.cell? ⟨w.heap.size, 0, none⟩ = some (.slice (some ⟨b, off, none⟩) d.size cap) := by rw [hwa]; simp
  have c1 : wa.cell? ⟨w.heap.size, 1, none⟩ = some (.int .i64 rest) := by rw [hwa]; simp
  have hz : w.heap.size < wa.heap.size := by rw [hwa]; simp
  have hba : RowKit.Below w.heap.size w wa := by rw [hwa]; exact (Below.refl _ _).alloc (Nat.le_refl _) _
  have HA := Lib.hid hba
  have C0 := Lib.hid c0
  have C1 := Lib.hid c1
  have HWA := Lib.hid hwa
  clear hba c0 c1 hwa
  go_enter Tryd.func87, Tryd.ntmps87
  go_wp2_with fail
  rw [← HWA.out]
  refine (HAT.out _ HA.out).mono ?_
  rintro x w1 ⟨rfl, hb⟩
  have HB := Lib.hid hb
  have hz1 := hb.size
  have HWB := Lib.hid (HA.out.trans (HB.out.mono (by omega)))
  have a0 := (hb.cell (p := ⟨w.heap.size, 0, none⟩) hz).trans C0.out
  clear hb
  rcases atN_cases d key with ⟨k, hk, hat, _, _⟩ | ⟨hat, _⟩
  · have x2 := (HR.out.below HWB.out).target k hk
    have HG := Lib.hid (goesN_hit hat)
    obtain ⟨t, ht⟩ : ∃ t, t = d[k]!.target := ⟨_, rfl⟩
    rw [← ht] at x2
    have HT := Lib.hid ht
    rw [hat]
    clear hat ht
    go_wp2
    go_ret
    exact ⟨retS (by rw [HG.out, HT.out]), HWB.out⟩
  · have HG := Lib.hid (goesN_miss hat)
    rw [hat]
    clear hat
    go_wp2
    go_ret
    exact ⟨retS HG.out.symm, HWB.out⟩

end Go.Proofs.YtbhamkmiagdimaaDoor
