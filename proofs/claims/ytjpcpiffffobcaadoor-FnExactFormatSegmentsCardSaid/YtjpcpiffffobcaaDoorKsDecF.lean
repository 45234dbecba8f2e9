
/- Decimal numerals of every int: strconv.Itoa and the model's l13Dec. -/
import Derived.Test.YtjpcpiffffobcaaDoorKsDec
import Derived.Test.YtjpcpiffffobcaaDoorKsLay8
import Derived.Lib.AppendIntMem
import Derived.IntWalk
import Derived.LoopN
namespace Go.Proofs.YtjpcpiffffobcaaDoor
open Go.RowKit

def itoaF (n : Int) : ByteArray := ⟨(Lib.itoa n).toArray⟩
abbrev TabA (w : World) : Prop := Lib.TabIs Tryd.prog w "internal/strconv.uint64pow10" .u64 Lib.pow10Tab
theorem tabA_below {w w' : World} (h : TabA w) (hb : Below w.heap.size w w') : TabA w' := by
  unfold TabA Lib.TabIs World.var? at h ⊢
  cases hg : Tryd.prog.globalNamed "internal/strconv.uint64pow10" with
  | none => simp [hg] at h
  | some g =>
    simp only [hg, Option.bind_some] at h ⊢
    have hlt : g < w.heap.size := by
      rcases Nat.lt_or_ge g w.heap.size with h' | h'
      · exact h'
      · simp [Array.getElem?_eq_none h'] at h
    rw [hb.block g hlt]
    exact h
theorem decDigits_more {u : Nat} (h : 10 ≤ u) : Lib.decDigits u = Lib.decDigits (u / 10) ++ [UInt8.ofNat (48 + u % 10)] := by
  rw [Lib.decDigits, dif_neg (by omega)]
theorem decDigits_len : ∀ (k u : Nat), u < 10 ^ (k + 1) → (Lib.decDigits u).length ≤ k + 1
  | 0, u, h => by rw [Lib.decDigits_one (by simpa using h)]; simp
  | k + 1, u, h => by
    by_cases hu : u < 10
    · rw [Lib.decDigits_one hu]; simp
    · rw [decDigits_more (by omega), List.length_append]
      have := decDigits_len k (u / 10) (by rw [Nat.pow_succ] at h; omega)
      simp
      omega
def dgF : Nat → Nat → List UInt8
  | 0, u => [UInt8.ofNat (48 + u)]
  | f + 1, u => if u < 10 then [UInt8.ofNat (48 + u)] else dgF f (u / 10) ++ [UInt8.ofNat (48 + u % 10)]
theorem dgF_eq : ∀ (f u : Nat), u < 10 ^ (f + 1) → Lib.decDigits u = dgF f u
  | 0, u, h => by rw [Lib.decDigits_one (by simpa using h)]; rfl
  | f + 1, u, h => by
    by_cases hu : u < 10
    · rw [Lib.decDigits_one hu, dgF, if_pos hu]
    · rw [decDigits_more (by omega), dgF, if_neg hu, dgF_eq f (u / 10) (by rw [Nat.pow_succ] at h; omega)]
theorem decDigits_19 {u : Nat} (h : u ≤ 9223372036854775808) : (Lib.decDigits u).length ≤ 19 := decDigits_len 18 u (by omega)
theorem itoaF_nat (N : Nat) : itoaF (N : Int) = ⟨(Lib.decDigits N).toArray⟩ := by
  rw [itoaF, Lib.itoa, if_neg (by omega), Int.toNat_natCast]
theorem itoaF_neg {n : Int} (h : n < 0) : itoaF n = (⟨#[45]⟩ : ByteArray) ++ ⟨(Lib.decDigits n.natAbs).toArray⟩ := by
  rw [itoaF, Lib.itoa, if_pos h]
  apply ByteArray.ext
  simp [ByteArray.data_append]
theorem itoaF_size {n : Int} (h0 : -9223372036854775808 ≤ n) (h1 : n ≤ 9223372036854775807) : (itoaF n).size ≤ 20 := by
  by_cases h : n < 0
  · have := decDigits_19 (u := n.natAbs) (by omega)
    rw [itoaF, Lib.itoa, if_pos h]
    simp [ByteArray.size]
    omega
  · have := decDigits_19 (u := n.toNat) (by omega)
    rw [itoaF, Lib.itoa, if_neg h]
    simp [ByteArray.size]
    omega
theorem itoaF_any (n : Int) (h0 : -9223372036854775808 ≤ n) (h1 : n ≤ 9223372036854775807) (w : World) (hT : TabA w) :
    Calls Tryd.prog 63 #[.int .i64 n] w fun e w' => e = .returned (.string (itoaF n)) ∧ Below w.heap.size w w' :=
  (Any.strconv_Itoa Tryd.laysItoa n h0 h1 w hT).mono fun _ _ ⟨a, k, os, b⟩ => ⟨a, b ▸ Lib.below_grow w.heap.size w (Nat.le_refl _) k os⟩

set_option maxRecDepth 100000 in
set_option maxHeartbeats 1000000 in
theorem decP_any (N : Nat) (hN : N ≤ 9223372036854775807) (w : World) : Calls Tryd.prog 61 #[.int .i64 (N : Int)] w fun e w' => e = .returned (.string (itoaF (N : Int))) ∧ Below w.heap.size w w' := by
  have HN := Lib.hid (itoaF_nat N)
  have HL := Lib.hid (decDigits_19 (u := N) (by omega))
  have hNi : (N : Int) ≤ 9223372036854775807 := by omega
  have hN0 : (0 : Int) ≤ (N : Int) := by omega
  go_enter Tryd.func61, Tryd.ntmps61
  go_wp2
  go_loopw [0, 3] (fun n o wr => ∃ (m : Nat) (l : ByteArray), n = .int .i64 (m : Int) ∧ o = .string l ∧ m ≤ N ∧ Hid (Lib.decDigits m ++ l.data.toList = Lib.decDigits N) ∧ l.size ≤ 19 ∧ Hid (Below w.heap.size w wr)) (fun n _ _ => (intOf n).toNat)
  case atStart => exact ⟨N, ⟨#[]⟩, rfl, rfl, Nat.le_refl _, Lib.hid (by simp), by decide, Below.refl _ _⟩
  case round =>
    obtain ⟨m, l, rfl, rfl, hm, HE, hl, HW⟩ := hrel
    have hmi : (m : Int) ≤ 9223372036854775807 := by omega
    have hm0 : (0 : Int) ≤ (m : Int) := by omega
    have hzw := HW.out.size
    by_cases h9 : m ≤ 9
    · have h9i : (m : Int) ≤ 9 := by omega
      have hw8 : IntKind.u8.wrap (48 + (m : Int)) = 48 + (m : Int) := by rw [IntKind.wrap]; simp [IntKind.signed, IntKind.bits]; omega
      have hcv := fun W => byte_string (48 + (m : Int)) W
      obtain ⟨S, hS⟩ : ∃ S, S = (⟨#[UInt8.ofNat (48 + (m : Int)).toNat]⟩ : ByteArray) := ⟨_, rfl⟩
      rw [← hS] at hcv
      have hSz : S.size = 1 := by rw [hS]; rfl
      have HF := Lib.hid (show S ++ l = itoaF (N : Int) by
        rw [HN.out, ← HE.out, Lib.decDigits_one (by omega), hS, show (48 + (m : Int)).toNat = 48 + m by omega]
        apply ByteArray.ext
        simp [ByteArray.data_append])
      clear hS
      go_wp2
      go_ret
      exact ⟨retStr HF.out, HW.out.alloc hzw _⟩
    · have h9i : (9 : Int) < (m : Int) := by omega
      have hr : ((m : Int)).tmod 10 = (m : Int) % 10 := Int.tmod_eq_emod_of_nonneg hm0
      have hq : ((m : Int)).tdiv 10 = (m : Int) / 10 := Int.tdiv_eq_ediv_of_nonneg hm0
      have hr0 : 0 ≤ (m : Int) % 10 := by omega
      have hr9 : (m : Int) % 10 ≤ 9 := by omega
      have hw8 : IntKind.u8.wrap (48 + (m : Int) % 10) = 48 + (m : Int) % 10 := by rw [IntKind.wrap]; simp [IntKind.signed, IntKind.bits]; omega
      have hcv := fun W => byte_string (48 + (m : Int) % 10) W
      obtain ⟨S, hS⟩ : ∃ S, S = (⟨#[UInt8.ofNat (48 + (m : Int) % 10).toNat]⟩ : ByteArray) := ⟨_, rfl⟩
      rw [← hS] at hcv
      have hSz : S.size = 1 := by rw [hS]; rfl
      have hmore := decDigits_more (u := m) (by omega)
      have HE2 := Lib.hid (show Lib.decDigits (m / 10) ++ (S ++ l).data.toList = Lib.decDigits N by
        rw [← HE.out, hmore, hS, show (48 + (m : Int) % 10).toNat = 48 + m % 10 by omega]
        simp [ByteArray.data_append])
      have hlen := congrArg List.length HE2.out
      have hpos : 1 ≤ (Lib.decDigits (m / 10)).length := by rw [Lib.decDigits_length]; exact Lib.nDigits_pos _
      have HS := Lib.hid (show (S ++ l).size ≤ 19 by
        rw [List.length_append] at hlen
        have := HL.out
        have e : ((S ++ l).data.toList).length = (S ++ l).size := by rw [Array.length_toList]; rfl
        omega)
      clear hmore hlen hpos hS
      go_wp2
      go_roundw
      case rel => exact ⟨m / 10, _, (by simp), rfl, by omega, HE2.out, HS.out, HW.out.alloc hzw _⟩
      case measure => simp [intOf]; omega

set_option maxRecDepth 100000 in
set_option maxHeartbeats 1000000 in
theorem decF_any (n : Int) (h0 : -9223372036854775808 ≤ n) (h1 : n ≤ 9223372036854775807) (w : World) : Calls Tryd.prog 61 #[.int .i64 n] w fun e w' => e = .returned (.string (itoaF n)) ∧ Below w.heap.size w w' := by
  by_cases hp : 0 ≤ n
  · obtain ⟨N, rfl⟩ := Int.eq_ofNat_of_zero_le hp
    exact decP_any N (by omega) w
  · by_cases hm : n = -9223372036854775808
    · subst hm
      have HX := Lib.hid (show itoaF (-9223372036854775808) = ⟨#[45, 57, 50, 50, 51, 51, 55, 50, 48, 51, 54, 56, 53, 52, 55, 55, 53, 56, 48, 56]⟩ by
        rw [itoaF_neg (by decide), dgF_eq 18 _ (by decide)]
        decide +kernel)
      go_enter Tryd.func61, Tryd.ntmps61
      go_wp2
      go_ret
      exact ⟨retStr HX.out.symm, Below.refl _ _⟩
    · obtain ⟨N, hN⟩ := Int.eq_ofNat_of_zero_le (show 0 ≤ -n by omega)
      have HR := Lib.hid (fun W => decP_any N (by omega) W)
      have hsz := itoaF_size (n := (N : Int)) (by omega) (by omega)
      have HX := Lib.hid (show (⟨#[45]⟩ : ByteArray) ++ itoaF (N : Int) = itoaF n by
        rw [itoaF_neg (n := n) (by omega), itoaF_nat, show n.natAbs = N by omega])
      obtain ⟨s, hs⟩ : ∃ s, s = itoaF (N : Int) := ⟨_, rfl⟩
      rw [← hs] at HR hsz HX
      rw [← hN] at HR
      have hn1 : ¬ n < -9223372036854775807 := by omega
      have hn0 : n < 0 := by omega
      have hwr : IntKind.i64.wrap (-n) = -n := IntWalk.i64_in _ (by omega)
      clear hs hN hp hm
      go_enter Tryd.func61, Tryd.ntmps61
      go_wp2_with fail
      refine (HR.out _).mono ?_
      rintro e w1 ⟨rfl, hb⟩
      have HB := Lib.hid hb
      clear hb
      go_wp2
      go_ret
      exact ⟨retStr HX.out, HB.out⟩
end Go.Proofs.YtjpcpiffffobcaaDoor
