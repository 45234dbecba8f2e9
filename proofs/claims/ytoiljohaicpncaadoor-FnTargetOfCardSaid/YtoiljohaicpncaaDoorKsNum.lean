
/- Reading of numbers by the model: l13Num. -/
import Derived.Test.YtoiljohaicpncaaDoorKsLeaf
import Derived.LoopTactic
namespace Go.Proofs.YtoiljohaicpncaaDoor
open Go.RowKit Go.Lib

def byteN (s : ByteArray) (i : Nat) : Nat := (s.data[i]!).toNat
def dgB (s : ByteArray) (j : Nat) : Bool := decide (48 ≤ byteN s j) && decide (byteN s j ≤ 57)
def numTo (s : ByteArray) : Nat → Nat
  | 0 => 0
  | i + 1 => numTo s i * 10 + (byteN s i - 48)

theorem retNB {a c : Int} {b e : Bool} (h : a = c) (h2 : b = e) : Ending.returned (.tuple #[.int .i64 a, .bool b]) = .returned (.tuple #[.int .i64 c, .bool e]) := by rw [h, h2]

/-- Digits alone, none too many, no zero ahead: exact. -/
def plainB (s : ByteArray) : Prop := 0 < s.size ∧ s.size ≤ 17 ∧ (∀ j (h : j < s.size), 48 ≤ s[j].toNat ∧ s[j].toNat ≤ 57) ∧ (∀ h : 0 < s.size, s[0].toNat = 48 → s.size = 1)
theorem numTo_lt (s : ByteArray) (i : Nat) (h : ∀ j, j < i → byteN s j ≤ 57) : numTo s i < 10 ^ i := by
  induction i with
  | zero => simp [numTo]
  | succ i ih =>
    have h1 := ih fun j hj => h j (by omega)
    have h2 := h i (by omega)
    rw [numTo, Nat.pow_succ]
    omega
theorem byteN_eq {s : ByteArray} {i : Nat} (h : i < s.size) : s[i].toNat = byteN s i := by
  have h' : i < s.data.size := h
  rw [byteN, getElem!_pos s.data i h']
  rfl

set_option maxRecDepth 100000 in
set_option maxHeartbeats 2000000 in
theorem num_plain (s : ByteArray) (hs : plainB s) (w : World) :
    Calls Tryd.prog 185 #[.string s] w fun x w' => x = .returned (.tuple #[.int .i64 (numTo s s.size : Nat), .bool true]) ∧ w' = w := by
  obtain ⟨h0, h17, hd, hz⟩ := hs
  have hd0 := hd 0 h0
  have hne : ¬ (s[0].toNat : Int) = 45 := by omega
  have hz0 := hz h0
  have HD := Lib.hid hd
  clear hd hz
  have hcase : (¬ (s[0].toNat : Int) = 48) ∨ ((s[0].toNat : Int) = 48 ∧ (s.size : Int) ≤ 1) := by
    rcases Decidable.em (s[0].toNat = 48) with h | h
    · right; have := hz0 h; omega
    · left; omega
  clear hz0
  have h17i : (s.size : Int) ≤ 17 := by omega
  have hse : ¬ s = ByteArray.empty := by intro e; rw [e] at h0; simp at h0
  have hb1 : ((s.size : Int) == 0) = false := by simp; omega
  have hb2 : decide (17 < (s.size : Int)) = false := decide_eq_false (by omega)
  rcases hcase with hc | ⟨hc, hc1⟩
  all_goals
    go_enter Tryd.func185, Tryd.ntmps185
    go_wp2_with fail
    go_loopw [5, 6] (fun v i wr => ∃ k : Nat, i = .int .i64 k ∧ k ≤ s.size ∧ v = .int .i64 (numTo s k : Nat) ∧ wr = w) (fun _ i _ => s.size - (intOf i).toNat)
    case atStart => exact ⟨0, rfl, Nat.zero_le _, rfl, rfl⟩
    case round =>
      obtain ⟨k, rfl, hk, rfl, rfl⟩ := hrel
      by_cases hlt : k < s.size
      · have hdk := HD.out k hlt
        have hn1 : numTo s (k + 1) = numTo s k * 10 + (s[k].toNat - 48) := by rw [numTo, byteN_eq hlt]
        have hlim : numTo s k < 10 ^ 16 := Nat.lt_of_lt_of_le (numTo_lt s k fun j hj => by have := HD.out j (by omega); rw [byteN_eq (by omega)] at this; exact this.2) (Nat.pow_le_pow_right (by omega) (by omega))
        obtain ⟨nk, hnk⟩ : ∃ nk, nk = numTo s k := ⟨_, rfl⟩
        rw [← hnk] at hn1 hlim ⊢
        have HN1 := Lib.hid hn1
        clear hn1 hnk
        have hu : IntKind.u8.wrap ((s[k].toNat : Int) - 48) = (s[k].toNat : Int) - 48 := by rw [IntKind.wrap]; simp [IntKind.signed, IntKind.bits]; omega
        have hm1 : IntKind.i64.wrap ((nk : Int) * 10) = (nk : Int) * 10 := by rw [IntKind.wrap]; simp [IntKind.signed, IntKind.bits]; omega
        have hm2 : IntKind.i64.wrap ((nk : Int) * 10 + ((s[k].toNat : Int) - 48)) = (nk : Int) * 10 + ((s[k].toNat : Int) - 48) := by rw [IntKind.wrap]; simp [IntKind.signed, IntKind.bits]; omega
        go_wp2_with fail
        go_roundw
        case rel => exact ⟨k + 1, by go_num, by omega, by rw [HN1.out]; go_num, trivial⟩
        case measure => simp [intOf]; omega
      · have hke : k = s.size := by omega
        subst hke
        go_wp2_with fail
        go_ret2
        exact ⟨retNB rfl rfl, rfl⟩

end Go.Proofs.YtoiljohaicpncaaDoor
