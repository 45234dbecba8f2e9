
/- MasksFit: the model's and the program's. -/
import Derived.Test.YtbhamkmiagdimaaGreatDoorKsHex
import Derived.Test.YtbhamkmiagdimaaGreatDoorKsRowN
namespace Go.Proofs.YtbhamkmiagdimaaGreatDoor
open Go.RowKit Go.Shelf Go.Lib Go.Sort

/-- What is taken behind k words. -/
def takN (o : Array Int) : Nat → Nat
  | 0 => 0
  | k + 1 => takN o k ||| o[k]!.toNat
def fitTo (o : Array Int) : Nat → Bool
  | 0 => true
  | k + 1 => fitTo o k && (isW o[k]! && (takN o k &&& o[k]!.toNat == 0))
def fitB (o : Array Int) : Bool := fitTo o o.size
theorem fitTo_le {o : Array Int} {m k : Nat} (hk : m ≤ k) (h : fitTo o k = true) : fitTo o m = true := by
  induction k with
  | zero =>
    obtain rfl : m = 0 := by omega
    exact h
  | succ k ih =>
    by_cases e : m = k + 1
    · subst e; exact h
    · rw [fitTo, Bool.and_eq_true] at h
      exact ih (by omega) h.1
theorem fit_miss {o : Array Int} {k : Nat} (hk : k < o.size) (h : fitTo o (k + 1) = false) : fitB o = false := by
  cases hb : fitB o with
  | false => rfl
  | true => rw [fitTo_le (m := k + 1) (by omega) hb] at h; cases h
theorem isW_range {n : Int} (h : isW n = true) : 0 ≤ n ∧ n ≤ 4294967295 := by simpa [isW] using h
theorem takN_lt {o : Array Int} : ∀ k, fitTo o k = true → takN o k < 4294967296
  | 0, _ => by simp [takN]
  | k + 1, h => by
    rw [fitTo, Bool.and_eq_true, Bool.and_eq_true] at h
    have h1 := takN_lt k h.1
    have h2 := isW_range h.2.1
    rw [takN]
    have : (4294967296 : Nat) = 2 ^ 32 := rfl
    rw [this] at h1 ⊢
    exact Nat.or_lt_two_pow h1 (by omega)
theorem retIF {a b : Bool} (h : a = b) : Ending.returned (.bool a) = .returned (.bool b) := by rw [h]

set_option maxRecDepth 100000 in
set_option maxHeartbeats 1000000 in
theorem specFit_any (b off cap : Nat) (o : Array Int) (w : World) (hR : RowN w b off o) (hn : o.size ≤ 1048576) :
    Calls Tryz.prog 28 #[.slice (some ⟨b, off, none⟩) o.size cap] w fun x w' => x = .returned (.bool (fitB o)) ∧ w = w' := by
  have HR := Lib.hid hR
  have hni : (o.size : Int) ≤ 1048576 := by omega
  clear hR
  go_enter Tryz.func28, Tryz.ntmps28
  go_wp2_with fail
  go_loopw [3, 8] (fun v i wr => ∃ k : Nat, i = .int .i64 k ∧ k ≤ o.size ∧ v = .int .i64 (takN o k) ∧ Hid (fitTo o k = true) ∧ wr = w) (fun _ i _ => o.size - (intOf i).toNat)
  case atStart => exact ⟨0, rfl, Nat.zero_le _, rfl, rfl, rfl⟩
  case round =>
    obtain ⟨k, rfl, hk, rfl, HF, rfl⟩ := hrel
    by_cases hlt : k < o.size
    · have x0 := HR.out.cell k hlt
      have hki : (k : Int) < (o.size : Int) := by omega
      have HMS := Lib.hid (fit_miss (o := o) hlt)
      have HST := Lib.hid (show fitTo o (k + 1) = (fitTo o k && (isW o[k]! && (takN o k &&& o[k]!.toNat == 0))) from rfl)
      have HTK := Lib.hid (show takN o (k + 1) = takN o k ||| o[k]!.toNat from rfl)
      have ht := takN_lt k HF.out
      have hl := fun W => l7Word_any o[k]! W
      obtain ⟨n, hne⟩ : ∃ n, n = o[k]! := ⟨_, rfl⟩
      rw [← hne] at x0 HST HTK hl
      clear hne
      obtain ⟨a, ha⟩ : ∃ a, a = takN o k := ⟨_, rfl⟩
      rw [← ha] at HST HTK ht ⊢
      clear ha
      cases hw : isW n
      · rw [hw] at hl HST
        have HL := Lib.hid hl
        clear hl hw
        go_wp2_with (go_at_call 69; refine (HL.out _).mono ?_; rintro y w2 ⟨rfl, rfl⟩)
        go_ret
        exact ⟨retIF (HMS.out (by rw [HST.out, Bool.false_and, Bool.and_false])).symm, rfl⟩
      · have hr := isW_range hw
        obtain ⟨m, rfl⟩ : ∃ m : Nat, n = m := ⟨n.toNat, by omega⟩
        rw [hw] at hl HST
        rw [Int.toNat_natCast] at HST HTK
        have hm : m < 4294967296 := by omega
        have hand := and_i64 ht hm
        have hor := or_i64 ht hm
        have HL := Lib.hid hl
        clear hl hw hr
        by_cases hz : a &&& m = 0
        · rw [hz] at hand
          have HZ := Lib.hid hz
          clear hz
          go_wp2_with (go_at_call 69; refine (HL.out _).mono ?_; rintro y w2 ⟨rfl, rfl⟩)
          go_roundw
          case rel => exact ⟨k + 1, by go_num, by omega, by rw [HTK.out], (show _ = _ by rw [HST.out, HF.out, HZ.out]; rfl), trivial⟩
          case measure => simp [intOf]; omega
        · have HZ := Lib.hid hz
          have hz2 : ¬ ((a &&& m : Nat) : Int) = 0 := by omega
          rw [← hand] at hz2
          clear hz hand
          go_wp2_with (go_at_call 69; refine (HL.out _).mono ?_; rintro y w2 ⟨rfl, rfl⟩)
          go_ret
          exact ⟨retIF (HMS.out (by rw [HST.out]; simp [HZ.out])).symm, rfl⟩
    · have hke : k = o.size := by omega
      subst hke
      go_wp2_with fail
      go_ret
      exact ⟨retIF HF.out.symm, rfl⟩

set_option maxRecDepth 100000 in
set_option maxHeartbeats 1000000 in
theorem implFit_any (b off cap : Nat) (o : Array Int) (w : World) (hR : RowN w b off o) (hn : o.size ≤ 1048576) :
    Calls Tryz.prog 12 #[.slice (some ⟨b, off, none⟩) o.size cap] w fun x w' => x = .returned (.bool (fitB o)) ∧ w = w' := by
  have HR := Lib.hid hR
  have hni : (o.size : Int) ≤ 1048576 := by omega
  clear hR
  go_enter Tryz.func12, Tryz.ntmps12
  go_wp2_with fail
  go_loopw [3, 10] (fun v i wr => ∃ k : Nat, i = .int .i64 k ∧ k ≤ o.size ∧ v = .int .u32 (takN o k) ∧ Hid (fitTo o k = true) ∧ wr = w) (fun _ i _ => o.size - (intOf i).toNat)
  case atStart => exact ⟨0, rfl, Nat.zero_le _, rfl, rfl, rfl⟩
  case round =>
    obtain ⟨k, rfl, hk, rfl, HF, rfl⟩ := hrel
    by_cases hlt : k < o.size
    · have x0 := HR.out.cell k hlt
      have hki : (k : Int) < (o.size : Int) := by omega
      have HMS := Lib.hid (fit_miss (o := o) hlt)
      have HST := Lib.hid (show fitTo o (k + 1) = (fitTo o k && (isW o[k]! && (takN o k &&& o[k]!.toNat == 0))) from rfl)
      have HTK := Lib.hid (show takN o (k + 1) = takN o k ||| o[k]!.toNat from rfl)
      have ht := takN_lt k HF.out
      have hl := fun W => readWord_any o[k]! W
      obtain ⟨n, hne⟩ : ∃ n, n = o[k]! := ⟨_, rfl⟩
      rw [← hne] at x0 HST HTK hl
      clear hne
      obtain ⟨a, ha⟩ : ∃ a, a = takN o k := ⟨_, rfl⟩
      rw [← ha] at HST HTK ht ⊢
      clear ha
      cases hw : isW n
      · rw [hw] at hl HST
        have HL := Lib.hid hl
        clear hl hw
        go_wp2_with (go_at_call 51; refine (HL.out _).mono ?_; rintro y w2 ⟨rfl, rfl⟩)
        go_ret
        exact ⟨retIF (HMS.out (by rw [HST.out, Bool.false_and, Bool.and_false])).symm, rfl⟩
      · have hr := isW_range hw
        have hz : wrdZ n = n := by rw [wrdZ, if_pos hw]
        rw [hz] at hl
        obtain ⟨m, rfl⟩ : ∃ m : Nat, n = m := ⟨n.toNat, by omega⟩
        rw [hw] at hl HST
        rw [Int.toNat_natCast] at HST HTK
        have hm : m < 4294967296 := by omega
        have hand := and_u32 hm ht
        rw [Nat.and_comm] at hand
        have hor := or_u32 ht hm
        have HL := Lib.hid hl
        clear hl hw hr hz
        by_cases hz : a &&& m = 0
        · rw [hz] at hand
          have HZ := Lib.hid hz
          clear hz
          go_wp2_with (go_at_call 51; refine (HL.out _).mono ?_; rintro y w2 ⟨rfl, rfl⟩)
          go_roundw
          case rel => exact ⟨k + 1, by go_num, by omega, by rw [HTK.out], (show _ = _ by rw [HST.out, HF.out, HZ.out]; rfl), trivial⟩
          case measure => simp [intOf]; omega
        · have HZ := Lib.hid hz
          have hz2 : ¬ ((a &&& m : Nat) : Int) = 0 := by omega
          rw [← hand] at hz2
          clear hz hand
          go_wp2_with (go_at_call 51; refine (HL.out _).mono ?_; rintro y w2 ⟨rfl, rfl⟩)
          go_ret
          exact ⟨retIF (HMS.out (by rw [HST.out]; simp [HZ.out])).symm, rfl⟩
    · have hke : k = o.size := by omega
      subst hke
      go_wp2_with fail
      go_ret
      exact ⟨retIF HF.out.symm, rfl⟩
end Go.Proofs.YtbhamkmiagdimaaGreatDoor
