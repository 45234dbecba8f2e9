
/- CaseOf: the program's and the model's; the index of the case of a key. · TargetOf: the program's and the model's. -/
import Derived.Test.YtjpcpiffffobcaaGreatDoorKsSums
namespace Go.Proofs.YtjpcpiffffobcaaGreatDoor
open Go.RowKit Go.Shelf Go.Lib Go.Sort

/-- The index of the first case that has a key, or -1. -/
def atN (d : Array CaseD) (key : Int) : Int := Lib.idxBy (fun _ y => hasB y key) (d.toList.take d.size) default
theorem toList_get (d : Array CaseD) (j : Nat) : d.toList[j]! = d[j]! := by
  by_cases h : j < d.size <;> simp [h]
theorem atN_hit {d : Array CaseD} {key : Int} {k : Nat} (hk : k < d.size) (h : hasB d[k]! key = true) (hb : ∀ j, j < k → hasB d[j]! key = false) : atN d key = k := by
  have := Lib.idxBy_hit (fun (_ y : CaseD) => hasB y key) d.toList d.size k default hk (by simp) (by rw [toList_get]; exact h) (fun j hj => by rw [toList_get]; exact hb j hj)
  exact this
theorem atN_miss {d : Array CaseD} {key : Int} (hb : ∀ j, j < d.size → hasB d[j]! key = false) : atN d key = -1 := by
  have := Lib.idxBy_miss (fun (_ y : CaseD) => hasB y key) d.toList d.size default (fun j hj => by rw [toList_get]; exact hb j hj)
  exact this
theorem atN_cases (d : Array CaseD) (key : Int) : (∃ k : Nat, k < d.size ∧ atN d key = k ∧ hasB d[k]! key = true ∧ ∀ j, j < k → hasB d[j]! key = false) ∨ (atN d key = -1 ∧ ∀ j, j < d.size → hasB d[j]! key = false) := by
  by_cases h : ∃ k, k < d.size ∧ hasB d[k]! key = true
  · have hd : ∀ n, (∃ k, k < n ∧ k < d.size ∧ hasB d[k]! key = true) → ∃ k, k < d.size ∧ hasB d[k]! key = true ∧ ∀ j, j < k → hasB d[j]! key = false := by
      intro n
      induction n with
      | zero => rintro ⟨k, hk, _⟩; omega
      | succ n ih =>
        rintro ⟨k, hk, h1, h2⟩
        by_cases hex : ∃ j, j < k ∧ hasB d[j]! key = true
        · obtain ⟨j, hj, h3⟩ := hex
          exact ih ⟨j, by omega, by omega, h3⟩
        · refine ⟨k, h1, h2, fun j hj => ?_⟩
          cases hq : hasB d[j]! key with
          | false => rfl
          | true => exact absurd ⟨j, hj, hq⟩ hex
    obtain ⟨k, h1, h2⟩ := h
    obtain ⟨q, h3, h4, h5⟩ := hd (k + 1) ⟨k, by omega, h1, h2⟩
    exact .inl ⟨q, h3, atN_hit h3 h4 h5, h4, h5⟩
  · have hb : ∀ j, j < d.size → hasB d[j]! key = false := fun j hj => by
      cases hq : hasB d[j]! key with
      | false => rfl
      | true => exact absurd ⟨j, hj, hq⟩ h
    exact .inr ⟨atN_miss hb, hb⟩
theorem atN_out {d : Array CaseD} {rest key : Int} (h : SwOK d rest) (hk : keyB key = false) : atN d key = -1 :=
  atN_miss fun j hj => by
    have h1 := caseB_low (h.case j hj)
    have h2 := caseB_high (h.case j hj)
    simp [keyB] at hk
    simp [hasB]
    omega
noncomputable def caseN (d : Array CaseD) (rest key : Int) : Int := if swB d rest = true then atN d key else -1

set_option maxHeartbeats 400000 in
theorem hasFn_any (c : CaseD) (key : Int) (B : Nat) (w : World) (hB : w.cell? ⟨B, 0, none⟩ = some (.int .i64 key)) (hlt : B < w.heap.size) :
    Calls Tryz.prog 68 #[aggC c, .pointer (some ⟨B, 0, none⟩)] w fun x w' => x = .returned (.bool (hasB c key)) ∧ RowKit.Below w.heap.size w w' := by
  have hcall := Lib.hid (fun W => has_any c key W)
  generalize hasB c key = r at hcall ⊢
  unfold aggC at *
  go_enter Tryz.func68, Tryz.ntmps68
  go_wp2_with (go_at_call 44; refine (hcall.out _).mono ?_; rintro x w' ⟨rfl, hb⟩; have HB := Lib.hid hb; clear hb)
  go_ret
  exact ⟨rfl, ((Below.refl _ _).alloc (Nat.le_refl _) _).trans (HB.out.mono (by simp))⟩

theorem indexHas (key : Int) (B b off cap : Nat) (d : Array CaseD) (w : World) (hR : RowC w b off d) (hn : d.size ≤ 8) (hB : w.cell? ⟨B, 0, none⟩ = some (.int .i64 key)) (hlt : B < w.heap.size) :
    Calls Tryz.prog 67 #[.slice (some ⟨b, off, none⟩) d.size cap, .func (.func 68) #[] #[.pointer (some ⟨B, 0, none⟩)]] w fun x w' => x = .returned (.int .i64 (atN d key)) ∧ RowKit.Below w.heap.size w w' := by
  have eg : ∀ args w, (callFunc 68 args).run Tryz.prog w = .ok (.enter 68 args) w := enters_of Tryz.func68 (by kernel_rfl) rfl
  refine AnyQ.slices_IndexFunc Tryz.laysIndex 4 Tryz.isAgg67 Tryz.sizeOf67 encC (fun _ => rfl) (fun y => hasB y key) 68 #[.pointer (some ⟨B, 0, none⟩)] eg b off d.size cap d.toList w
    (fun W x hb => ?_) (by simp) (by omega) hR.old (fun j hj i v hv => ?_)
  · exact (hasFn_any x key B W ((hb.cell (p := ⟨B, 0, none⟩) hlt).trans hB) (Nat.lt_of_lt_of_le hlt hb.size)).mono fun _ _ ⟨h1, h2⟩ => ⟨h1, hb.trans (h2.mono hb.size)⟩
  · have hj' : j < d.size := by simpa using hj
    rw [toList_get] at hv
    match i, hv with
    | 0, hv => simp only [encC, List.getElem?_cons_zero, Option.some.injEq] at hv; subst hv; exact hR.low j hj'
    | 1, hv => simp [encC] at hv; subst hv; exact hR.high j hj'
    | 2, hv => simp [encC] at hv; subst hv; exact hR.target j hj'
    | 3, hv => simp [encC] at hv; subst hv; exact hR.weight j hj'
    | i + 4, hv => simp [encC] at hv

set_option maxRecDepth 100000 in
set_option maxHeartbeats 1000000 in
theorem implCase_any (b off cap : Nat) (d : Array CaseD) (rest key : Int) (w : World) (hR : RowC w b off d) (hE : ErrAt w) (hcap : d.size ≤ cap) (hmax : cap ≤ maxLen) :
    Calls Tryz.prog 31 #[.agg #[.slice (some ⟨b, off, none⟩) d.size cap, .int .i64 rest], .int .i64 key] w fun x w' => x = .returned (.int .i64 (caseN d rest key)) ∧ RowKit.Below w.heap.size w w' := by
  have hv := fun W (hW : RowKit.Below w.heap.size w W) => switchValid_any b off cap d rest W (hR.below hW) (hE.below hW) hcap hmax
  have hi := fun W (hW : RowKit.Below w.heap.size w W) (hn : d.size ≤ 8) hB hlt => indexHas key (w.heap.size + 1) b off cap d W (hR.below hW) hn hB hlt
  have HI := Lib.hid hi
  clear hi hR hE
  obtain ⟨wa, hwa⟩ : ∃ wa, wa = (w.alloc (.cells #[.slice (some ⟨b, off, none⟩) d.size cap, .int .i64 rest] 32)).alloc (.cells #[.int .i64 key] 3) := ⟨_, rfl⟩
  have c0 : wa.cell? ⟨w.heap.size, 0, none⟩ = some (.slice (some ⟨b, off, none⟩) d.size cap) := by rw [hwa]; simp [go_sem]
  have c1 : wa.cell? ⟨w.heap.size, 1, none⟩ = some (.int .i64 rest) := by rw [hwa]; simp [go_sem]
  have c2 : wa.cell? ⟨w.heap.size + 1, 0, none⟩ = some (.int .i64 key) := by rw [hwa]; simp [go_sem]
  have hz : w.heap.size + 1 < wa.heap.size := by rw [hwa]; simp
  have hba : RowKit.Below w.heap.size w wa := by rw [hwa]; exact ((Below.refl _ _).alloc (Nat.le_refl _) _).alloc (by simp) _
  have HA := Lib.hid hba
  have C0 := Lib.hid c0
  have C1 := Lib.hid c1
  have C2 := Lib.hid c2
  have HWA := Lib.hid hwa
  clear hba c0 c1 c2 hwa
  cases hs : swB d rest
  all_goals
    simp only [hs] at hv
    have HV := Lib.hid hv
    have HS := Lib.hid hs
    clear hv hs
    go_enter Tryz.func31, Tryz.ntmps31
    go_wp2_with fail
    rw [← HWA.out]
    refine (HV.out _ HA.out).mono ?_
    rintro x w1 ⟨rfl, hb⟩
    have HB := Lib.hid hb
    have hz1 := hb.size
    have a0 := (hb.cell (p := ⟨w.heap.size, 0, none⟩) (by omega : w.heap.size < wa.heap.size)).trans C0.out
    have a1 := (hb.cell (p := ⟨w.heap.size, 1, none⟩) (by omega : w.heap.size < wa.heap.size)).trans C1.out
    have A2 := Lib.hid ((hb.cell (p := ⟨w.heap.size + 1, 0, none⟩) hz).trans C2.out)
    clear hb
    go_wp2_with fail
  · go_ret
    exact ⟨retI (by rw [caseN, if_neg (by rw [HS.out]; exact Bool.false_ne_true)]), HA.out.trans (HB.out.mono (by omega))⟩
  · have HWB := Lib.hid (HA.out.trans (HB.out.mono (by omega)))
    refine (HI.out _ HWB.out ((swB_iff _ _).1 HS.out).size A2.out (by omega)).mono ?_
    rintro x w2 ⟨rfl, hb2⟩
    have HB2 := Lib.hid (HWB.out.trans (hb2.mono (by omega)))
    clear hb2
    go_wp2
    go_ret
    exact ⟨retI (by rw [caseN, if_pos HS.out]), HB2.out⟩

/-! the model -/
set_option maxRecDepth 100000 in
set_option maxHeartbeats 1000000 in
theorem l1At_any (b off cap : Nat) (d : Array CaseD) (rest key : Int) (w : World) (hR : RowC w b off d) (hn : d.size ≤ 8) :
    Calls Tryz.prog 70 #[.agg #[.slice (some ⟨b, off, none⟩) d.size cap, .int .i64 rest], .int .i64 key] w fun x w' => x = .returned (.int .i64 (atN d key)) ∧ RowKit.Below w.heap.size w w' := by
  have HR := Lib.hid hR
  have h8 : (d.size : Int) ≤ 8 := by omega
  clear hR
  go_enter Tryz.func70, Tryz.ntmps70
  go_wp2
  obtain ⟨wa, hwa⟩ : ∃ wa, wa = w.alloc (.cells #[.slice (some ⟨b, off, none⟩) d.size cap, .int .i64 rest] 32) := ⟨_, rfl⟩
  have hba : RowKit.Below w.heap.size w wa := by rw [hwa]; exact (Below.refl _ _).alloc (Nat.le_refl _) _
  have hza := hba.size
  rw [← hwa]
  have HA := Lib.hid hba
  clear hwa hba
  go_loopw [10] (fun i wr => ∃ k : Nat, i = .int .i64 k ∧ k ≤ d.size ∧ Hid (∀ j, j < k → hasB d[j]! key = false) ∧ Hid (RowKit.Below w.heap.size w wr) ∧ w.heap.size ≤ wr.heap.size) (fun i _ => d.size - (intOf i).toNat)
  case atStart => exact ⟨0, rfl, Nat.zero_le _, fun j hj => absurd hj (Nat.not_lt_zero _), HA.out, hza⟩
  case round =>
    obtain ⟨k, rfl, hk, HE, HW, hw2⟩ := hrel
    by_cases hlt : k < d.size
    · have hx := HR.out.below HW.out
      have x0 := hx.low k hlt
      have x1 := hx.high k hlt
      have x2 := hx.target k hlt
      have x3 := hx.weight k hlt
      clear hx
      obtain ⟨x, hxe⟩ : ∃ x, x = d[k]! := ⟨_, rfl⟩
      rw [← hxe] at x0 x1 x2 x3
      have XE := Lib.hid hxe
      clear hxe
      have hcall : ∀ W, Calls Tryz.prog 35 #[.int .i64 key, .int .i64 x.low, .int .i64 x.high] W fun e w' => e = .returned (.bool (hasB x key)) ∧ W = w' := fun W => l1In_any key x.low x.high W
      cases hq : hasB x key
      all_goals
        simp only [hq] at hcall
        have HCL := Lib.hid hcall
        have HQ := Lib.hid hq
        clear hcall hq
        go_wp2_with (go_at_call 35; refine (HCL.out _).mono ?_; rintro y w2 ⟨rfl, rfl⟩)
      · go_roundw
        case rel =>
          refine ⟨k + 1, by go_num, by omega, (show Hid _ from fun j hj => ?_), HW.out.alloc hw2 _, by simp; omega⟩
          by_cases e : j = k
          · subst e
            rw [← XE.out]
            exact HQ.out
          · exact HE.out j (by omega)
        case measure => simp [intOf]; omega
      · go_ret
        exact ⟨retI (atN_hit hlt (by rw [← XE.out]; exact HQ.out) HE.out).symm, HW.out.alloc hw2 _⟩
    · go_wp2
      go_ret
      exact ⟨retI (atN_miss fun j hj => HE.out j (by omega)).symm, HW.out⟩

set_option maxHeartbeats 400000 in
theorem l1Key_any (n : Int) (w : World) : Calls Tryz.prog 34 #[.int .i64 n] w fun e w' => e = .returned (.bool (keyB n)) ∧ w = w' := by
  have hcall : ∀ W, Calls Tryz.prog 35 #[.int .i64 n, .int .i64 0, .int .i64 31] W fun e w' => e = .returned (.bool (keyB n)) ∧ W = w' := fun W => l1In_any n 0 31 W
  have HCL := Lib.hid hcall
  clear hcall
  go_enter Tryz.func34, Tryz.ntmps34
  go_wp2_with (go_at_call 35; refine (HCL.out _).mono ?_; rintro y w2 ⟨rfl, rfl⟩)
  go_ret
  exact ⟨rfl, rfl⟩

end Go.Proofs.YtjpcpiffffobcaaGreatDoor

namespace Go.Proofs.YtjpcpiffffobcaaGreatDoor
open Go.RowKit Go.Shelf Go.Lib Go.Sort

def zS : ByteArray := ⟨#[122]⟩
/-- The target of a key of a valid switch. -/
def goesN (d : Array CaseD) (key : Int) : ByteArray := if 0 ≤ atN d key then d[(atN d key).toNat]!.target else zS
noncomputable def okN (d : Array CaseD) (rest key : Int) : Bool := swB d rest && keyB key
noncomputable def targetN (d : Array CaseD) (rest key : Int) : ByteArray := if okN d rest key = true then goesN d key else ⟨#[]⟩
theorem goesN_hit {d : Array CaseD} {key : Int} {k : Nat} (h : atN d key = k) : goesN d key = d[k]!.target := by
  unfold goesN
  rw [h, if_pos (by omega), Int.toNat_natCast]
theorem goesN_miss {d : Array CaseD} {key : Int} (h : atN d key = -1) : goesN d key = zS := by
  unfold goesN
  rw [h, if_neg (by omega)]
theorem ret2 {a c : ByteArray} {b e : Bool} (h : a = c) (h2 : b = e) : Ending.returned (.tuple #[.string a, .bool b]) = .returned (.tuple #[.string c, .bool e]) := by rw [h, h2]
theorem retS {a c : ByteArray} (h : a = c) : Ending.returned (.string a) = .returned (.string c) := by rw [h]

set_option maxRecDepth 100000 in
set_option maxHeartbeats 400000 in
theorem text_any (w : World) : Calls Tryz.prog 66 #[.int .u8 122] w fun x w' => x = .returned (.string zS) ∧ RowKit.Below w.heap.size w w' := by
  have hconv : Sem.run Tryz.prog (convert 39 9 (.slice (some ⟨w.heap.size, 0, none⟩) 1 1)) (w.alloc (.cells #[.int .u8 122] 5)) = .ok (.string zS) (w.alloc (.cells #[.int .u8 122] 5)) := by
    rw [run_convert_bytes_string _ _ _ _ _ _ _ Tryz.underlying39 Tryz.underlying5 Tryz.underlying9, run_bytesToString _ _ _ _ [122] (by go_simp)]
    rfl
  go_enter Tryz.func66, Tryz.ntmps66
  go_wp2
  go_ret
  exact ⟨rfl, (Below.refl _ _).alloc (Nat.le_refl _) _⟩

set_option maxRecDepth 100000 in
set_option maxHeartbeats 1000000 in
theorem l1Goes_any (b off cap : Nat) (d : Array CaseD) (rest key : Int) (w : World) (hR : RowC w b off d) (hn : d.size ≤ 8) :
    Calls Tryz.prog 36 #[.agg #[.slice (some ⟨b, off, none⟩) d.size cap, .int .i64 rest], .int .i64 key] w fun x w' => x = .returned (.string (goesN d key)) ∧ RowKit.Below w.heap.size w w' := by
  have ha := fun W (hW : RowKit.Below w.heap.size w W) => l1At_any b off cap d rest key W (hR.below hW) hn
  have HAT := Lib.hid ha
  have HR := Lib.hid hR
  have h8 : (d.size : Int) ≤ 8 := by omega
  clear ha hR
  obtain ⟨wa, hwa⟩ : ∃ wa, wa = w.alloc (.cells #[.slice (some ⟨b, off, none⟩) d.size cap, .int .i64 rest] 32) := ⟨_, rfl⟩
  have c0 : wa.cell? ⟨w.heap.size, 0, none⟩ = some (.slice (some ⟨b, off, none⟩) d.size cap) := by rw [hwa]; simp
  have c1 : wa.cell? ⟨w.heap.size, 1, none⟩ = some (.int .i64 rest) := by rw [hwa]; simp
  have hz : w.heap.size < wa.heap.size := by rw [hwa]; simp
  have hba : RowKit.Below w.heap.size w wa := by rw [hwa]; exact (Below.refl _ _).alloc (Nat.le_refl _) _
  have HA := Lib.hid hba
  have C0 := Lib.hid c0
  have C1 := Lib.hid c1
  have HWA := Lib.hid hwa
  clear hba c0 c1 hwa
  go_enter Tryz.func36, Tryz.ntmps36
  go_wp2_with fail
  rw [← HWA.out]
  refine (HAT.out _ HA.out).mono ?_
  rintro x w1 ⟨rfl, hb⟩
  have HB := Lib.hid hb
  have hz1 := hb.size
  have HWB := Lib.hid (HA.out.trans (HB.out.mono (by omega)))
  have a0 := (hb.cell (p := ⟨w.heap.size, 0, none⟩) hz).trans C0.out
  clear hb
  rcases atN_cases d key with ⟨k, hk, hat, _, _⟩ | ⟨hat, _⟩
  · have x2 := (HR.out.below HWB.out).target k hk
    have HG := Lib.hid (goesN_hit hat)
    obtain ⟨t, ht⟩ : ∃ t, t = d[k]!.target := ⟨_, rfl⟩
    rw [← ht] at x2
    have HT := Lib.hid ht
    rw [hat]
    clear hat ht
    go_wp2
    go_ret
    exact ⟨retS (by rw [HG.out, HT.out]), HWB.out⟩
  · have HG := Lib.hid (goesN_miss hat)
    rw [hat]
    clear hat
    go_wp2
    go_ret
    exact ⟨retS HG.out.symm, HWB.out⟩

set_option maxRecDepth 100000 in
set_option maxHeartbeats 1000000 in
theorem implTarget_any (b off cap : Nat) (d : Array CaseD) (rest key : Int) (w : World) (hR : RowC w b off d) (hE : ErrAt w) (hcap : d.size ≤ cap) (hmax : cap ≤ maxLen) :
    Calls Tryz.prog 30 #[.agg #[.slice (some ⟨b, off, none⟩) d.size cap, .int .i64 rest], .int .i64 key] w fun x w' => x = .returned (.tuple #[.string (targetN d rest key), .bool (okN d rest key)]) ∧ RowKit.Below w.heap.size w w' := by
  have hv := fun W (hW : RowKit.Below w.heap.size w W) => switchValid_any b off cap d rest W (hR.below hW) (hE.below hW) hcap hmax
  have hc := fun W (hW : RowKit.Below w.heap.size w W) => implCase_any b off cap d rest key W (hR.below hW) (hE.below hW) hcap hmax
  have hk := fun W => isKey_any key W
  have HCA := Lib.hid hc
  have HR := Lib.hid hR
  clear hc hR hE
  obtain ⟨wa, hwa⟩ : ∃ wa, wa = w.alloc (.cells #[.slice (some ⟨b, off, none⟩) d.size cap, .int .i64 rest] 32) := ⟨_, rfl⟩
  have c0 : wa.cell? ⟨w.heap.size, 0, none⟩ = some (.slice (some ⟨b, off, none⟩) d.size cap) := by rw [hwa]; simp
  have c1 : wa.cell? ⟨w.heap.size, 1, none⟩ = some (.int .i64 rest) := by rw [hwa]; simp
  have hz : w.heap.size < wa.heap.size := by rw [hwa]; simp
  have hba : RowKit.Below w.heap.size w wa := by rw [hwa]; exact (Below.refl _ _).alloc (Nat.le_refl _) _
  have HA := Lib.hid hba
  have C0 := Lib.hid c0
  have C1 := Lib.hid c1
  have HWA := Lib.hid hwa
  clear hba c0 c1 hwa
  cases hs : swB d rest <;> cases hkb : keyB key
  all_goals
    simp only [hs] at hv
    simp only [hkb] at hk
    have HV := Lib.hid hv
    have HS := Lib.hid hs
    have HK := Lib.hid hk
    have HKB := Lib.hid hkb
    clear hv hs hk hkb
    go_enter Tryz.func30, Tryz.ntmps30
    go_wp2_with fail
    rw [← HWA.out]
    refine (HV.out _ HA.out).mono ?_
    rintro x w1 ⟨rfl, hb⟩
    have HB := Lib.hid hb
    have hz1 := hb.size
    have a0 := (hb.cell (p := ⟨w.heap.size, 0, none⟩) hz).trans C0.out
    have a1 := (hb.cell (p := ⟨w.heap.size, 1, none⟩) hz).trans C1.out
    have HWB := Lib.hid (HA.out.trans (HB.out.mono (by omega)))
    clear hb
    go_wp2_with (go_at_call 39; refine (HK.out _).mono ?_; rintro y w2 ⟨rfl, rfl⟩)
  · go_ret2
    exact ⟨ret2 (by simp [targetN, okN, HS.out]) (by simp [okN, HS.out]), HWB.out⟩
  · go_ret2
    exact ⟨ret2 (by simp [targetN, okN, HS.out]) (by simp [okN, HS.out]), HWB.out⟩
  · go_ret2
    exact ⟨ret2 (by simp [targetN, okN, HKB.out]) (by simp [okN, HKB.out]), HWB.out⟩
  · clear a0 a1
    have h8 : (d.size : Int) ≤ 8 := by have := ((swB_iff _ _).1 HS.out).size; omega
    refine (HCA.out _ HWB.out).mono ?_
    rintro x w2 ⟨rfl, hb2⟩
    have HB2 := Lib.hid (HWB.out.trans (hb2.mono (by omega)))
    have hz2 := hb2.size
    have a0 := ((hb2.cell (p := ⟨w.heap.size, 0, none⟩) (by omega : w.heap.size < w1.heap.size)).trans ((HB.out.cell (p := ⟨w.heap.size, 0, none⟩) hz))).trans C0.out
    have hcn : caseN d rest key = atN d key := by rw [caseN, if_pos HS.out]
    clear hb2
    rcases atN_cases d key with ⟨k, hkk, hat, _, _⟩ | ⟨hat, _⟩
    · have x2 := (HR.out.below HB2.out).target k hkk
      have HG := Lib.hid (goesN_hit hat)
      obtain ⟨t, ht⟩ : ∃ t, t = d[k]!.target := ⟨_, rfl⟩
      rw [← ht] at x2
      have HT := Lib.hid ht
      rw [hcn, hat]
      clear hat ht hcn
      go_wp2
      go_ret2
      exact ⟨ret2 (by simp only [targetN, okN, HS.out, HKB.out, Bool.and_self, if_true]; rw [HG.out, HT.out]) (by simp [okN, HS.out, HKB.out]), HB2.out⟩
    · have HG := Lib.hid (goesN_miss hat)
      rw [hcn, hat]
      clear hat hcn
      go_wp2_with (go_at_call 66; refine (text_any _).mono ?_; rintro y w3 ⟨rfl, hb3⟩; have HB3 := Lib.hid (HB2.out.trans (hb3.mono (by omega))); clear hb3)
      go_ret2
      exact ⟨ret2 (by simp only [targetN, okN, HS.out, HKB.out, Bool.and_self, if_true]; rw [HG.out]) (by simp [okN, HS.out, HKB.out]), HB3.out⟩
end Go.Proofs.YtjpcpiffffobcaaGreatDoor
