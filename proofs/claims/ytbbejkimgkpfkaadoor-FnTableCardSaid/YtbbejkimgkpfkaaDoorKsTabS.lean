
/- Tables and densities of the model: l6Range, l6Table, TableFor, l6Dense, Density; isRange of the program. -/
import Derived.Test.YtbbejkimgkpfkaaDoorKsTabP
import Derived.IntWalk
namespace Go.Proofs.YtbbejkimgkpfkaaDoor
open Go.RowKit Go.Shelf Go.Lib Go.Sort

set_option maxHeartbeats 400000 in
theorem isRange_any (lo hi : Int) (w : World) : Calls Tryd.prog 72 #[.int .i64 lo, .int .i64 hi] w fun e w' => e = .returned (.bool (rangeB lo hi)) ∧ w = w' := by
  have hk1 := fun W => isKey_any lo W
  have hk2 := fun W => isKey_any hi W
  cases h1 : keyB lo <;> cases h2 : keyB hi <;> by_cases h3 : lo ≤ hi
  all_goals
    simp only [h1] at hk1
    simp only [h2] at hk2
    have HK1 := Lib.hid hk1
    have HK2 := Lib.hid hk2
    have HB := Lib.hid (show rangeB lo hi = (keyB lo && keyB hi && decide (lo ≤ hi)) from rfl)
    rw [h1, h2] at HB
    clear hk1 hk2 h1 h2
    go_enter Tryd.func72, Tryd.ntmps72
    go_wp2_with (first
      | (go_at_call 79; ((with_reducible refine (HK1.out _).mono ?_); rintro y w2 ⟨rfl, rfl⟩))
      | (go_at_call 79; ((with_reducible refine (HK2.out _).mono ?_); rintro y w2 ⟨rfl, rfl⟩)))
    go_ret
    exact ⟨retB (by rw [HB.out]; simp [h3]), rfl⟩

set_option maxHeartbeats 400000 in
theorem l6Range_any (lo hi : Int) (w : World) : Calls Tryd.prog 74 #[.int .i64 lo, .int .i64 hi] w fun e w' => e = .returned (.bool (rangeB lo hi)) ∧ w = w' := by
  have hk1 := fun W => l1Key_any lo W
  have hk2 := fun W => l1Key_any hi W
  cases h1 : keyB lo <;> cases h2 : keyB hi <;> by_cases h3 : lo ≤ hi
  all_goals
    simp only [h1] at hk1
    simp only [h2] at hk2
    have HK1 := Lib.hid hk1
    have HK2 := Lib.hid hk2
    have HB := Lib.hid (show rangeB lo hi = (keyB lo && keyB hi && decide (lo ≤ hi)) from rfl)
    rw [h1, h2] at HB
    clear hk1 hk2 h1 h2
    go_enter Tryd.func74, Tryd.ntmps74
    go_wp2_with (first
      | (go_at_call 83; ((with_reducible refine (HK1.out _).mono ?_); rintro y w2 ⟨rfl, rfl⟩))
      | (go_at_call 83; ((with_reducible refine (HK2.out _).mono ?_); rintro y w2 ⟨rfl, rfl⟩)))
    go_ret
    exact ⟨retB (by rw [HB.out]; simp [h3]), rfl⟩

set_option maxRecDepth 100000 in
set_option maxHeartbeats 1000000 in
theorem l6Table_any (b off cap : Nat) (d : Array CaseD) (rest hi : Int) (lo n : Nat) (w : World) (hR : RowC w b off d) (hok : SwOK d rest) (hn : hi + 1 = lo + n) (hmx : hi ≤ 31) :
    Calls Tryd.prog 75 #[.agg #[.slice (some ⟨b, off, none⟩) d.size cap, .int .i64 rest], .int .i64 lo, .int .i64 hi] w fun x w' => x = .returned (.string (tabS d lo n)) ∧ RowKit.Below w.heap.size w w' := by
  have hgo := Lib.hid (fun (k : Nat) W (hW : RowKit.Below w.heap.size w W) => l1Goes_any b off cap d rest (k : Int) W (hR.below hW) hok.size)
  have HT := Lib.hid (fun k => tabS_succ hok lo k)
  have HZ := Lib.hid (fun k => tabS_size d lo k)
  obtain ⟨wa, hwa⟩ : ∃ wa, wa = w.alloc (.cells #[.slice (some ⟨b, off, none⟩) d.size cap, .int .i64 rest] 25) := ⟨_, rfl⟩
  have c0 : wa.cell? ⟨w.heap.size, 0, none⟩ = some (.slice (some ⟨b, off, none⟩) d.size cap) := by rw [hwa]; simp
  have c1 : wa.cell? ⟨w.heap.size, 1, none⟩ = some (.int .i64 rest) := by rw [hwa]; simp
  have hz : w.heap.size < wa.heap.size := by rw [hwa]; simp
  have hba : RowKit.Below w.heap.size w wa := by rw [hwa]; exact (Below.refl _ _).alloc (Nat.le_refl _) _
  have HA := Lib.hid hba
  have C0 := Lib.hid c0
  have C1 := Lib.hid c1
  have HWA := Lib.hid hwa
  have HN := Lib.hid hn
  have h32 : n ≤ 32 := by omega
  clear hba c0 c1 hwa hR hok hn
  go_enter Tryd.func75, Tryd.ntmps75
  go_wp2_with fail
  rw [← HWA.out]
  go_loopw [7, 8] (fun s i wr => ∃ k : Nat, i = .int .i64 ((lo + k : Nat) : Int) ∧ s = .string (tabS d lo k) ∧ k ≤ n ∧ Hid (RowKit.Below wa.heap.size wa wr)) (fun _ i _ => (lo + n) - (intOf i).toNat)
  case atStart => exact ⟨0, rfl, rfl, Nat.zero_le _, Lib.hid (Below.refl _ _)⟩
  case round =>
    obtain ⟨k, rfl, rfl, hk, HW⟩ := hrel
    have a0 := (HW.out.cell (p := ⟨w.heap.size, 0, none⟩) hz).trans C0.out
    have a1 := (HW.out.cell (p := ⟨w.heap.size, 1, none⟩) hz).trans C1.out
    have hzk := HZ.out k
    have HTK := Lib.hid (HT.out k)
    obtain ⟨s, hs⟩ : ∃ s, s = tabS d lo k := ⟨_, rfl⟩
    obtain ⟨i, hi2⟩ : ∃ i : Nat, i = lo + k := ⟨_, rfl⟩
    rw [← hs] at hzk HTK ⊢
    rw [← hi2] at HTK ⊢
    have HSE := Lib.hid hs
    have HI2 := Lib.hid hi2
    have hs32 : s.size ≤ 32 := by omega
    clear hs hzk hi2
    by_cases hlt : (i : Int) ≤ hi
    · have hkn : k < n := by have := HI2.out; have := HN.out; omega
      have hg1 : (goesN d (i : Int)).size ≤ 32 := by
        have := HTK.out
        have h1 := HZ.out (k + 1)
        rw [this, ByteArray.size_append] at h1
        omega
      have HG := Lib.hid (hgo.out i _ (HA.out.trans (HW.out.mono HA.out.size)))
      obtain ⟨t, ht⟩ : ∃ t, t = goesN d (i : Int) := ⟨_, rfl⟩
      rw [← ht] at HG HTK hg1
      clear ht
      have hwz := HW.out.size
      go_wp2_with (go_at_call 121; refine HG.out.mono ?_; rintro y w2 ⟨rfl, hb2⟩; have HB2 := Lib.hid (HW.out.trans (hb2.mono HW.out.size)); clear hb2)
      go_roundw
      case rel => exact ⟨k + 1, by rw [HI2.out]; go_num, by rw [HTK.out], by omega, HB2⟩
      case measure => have := HI2.out; simp [intOf]; omega
    · have hkn : k = n := by have := HI2.out; have := HN.out; omega
      go_wp2_with fail
      go_ret
      exact ⟨retS (by rw [HSE.out, hkn]), HA.out.trans (HW.out.mono HA.out.size)⟩

set_option maxRecDepth 100000 in
set_option maxHeartbeats 1000000 in
theorem l6Dense_any (b off cap : Nat) (d : Array CaseD) (rest hi : Int) (lo n : Nat) (w : World) (hR : RowC w b off d) (h8 : d.size ≤ 8) (hn : hi + 1 = lo + n) (hmx : hi ≤ 31) (hp : 0 < n) :
    Calls Tryd.prog 84 #[.agg #[.slice (some ⟨b, off, none⟩) d.size cap, .int .i64 rest], .int .i64 lo, .int .i64 hi] w fun x w' => x = .returned (.int .i64 (densZ d lo n)) ∧ RowKit.Below w.heap.size w w' := by
  have hgo := Lib.hid (fun (k : Nat) W (hW : RowKit.Below w.heap.size w W) => l1At_any b off cap d rest (k : Int) W (hR.below hW) h8)
  have HC := Lib.hid (fun k => cntK_le (fun i => covB d (lo + i)) k)
  have HS := Lib.hid (fun k => show cntK (fun i => covB d (lo + i)) (k + 1) = cntK (fun i => covB d (lo + i)) k + (if covB d (lo + k) = true then 1 else 0) from rfl)
  obtain ⟨wa, hwa⟩ : ∃ wa, wa = w.alloc (.cells #[.slice (some ⟨b, off, none⟩) d.size cap, .int .i64 rest] 25) := ⟨_, rfl⟩
  have c0 : wa.cell? ⟨w.heap.size, 0, none⟩ = some (.slice (some ⟨b, off, none⟩) d.size cap) := by rw [hwa]; simp
  have c1 : wa.cell? ⟨w.heap.size, 1, none⟩ = some (.int .i64 rest) := by rw [hwa]; simp
  have hz : w.heap.size < wa.heap.size := by rw [hwa]; simp
  have hba : RowKit.Below w.heap.size w wa := by rw [hwa]; exact (Below.refl _ _).alloc (Nat.le_refl _) _
  have HA := Lib.hid hba
  have C0 := Lib.hid c0
  have C1 := Lib.hid c1
  have HWA := Lib.hid hwa
  have HN := Lib.hid hn
  have h32 : n ≤ 32 := by omega
  clear hba c0 c1 hwa hR hn
  go_enter Tryd.func84, Tryd.ntmps84
  go_wp2_with fail
  rw [← HWA.out]
  go_loopw [7, 8] (fun s i wr => ∃ k : Nat, i = .int .i64 ((lo + k : Nat) : Int) ∧ s = .int .i64 (cntK (fun i => covB d (lo + i)) k) ∧ k ≤ n ∧ Hid (RowKit.Below wa.heap.size wa wr)) (fun _ i _ => (lo + n) - (intOf i).toNat)
  case atStart => exact ⟨0, rfl, rfl, Nat.zero_le _, Lib.hid (Below.refl _ _)⟩
  case round =>
    obtain ⟨k, rfl, rfl, hk, HW⟩ := hrel
    have a0 := (HW.out.cell (p := ⟨w.heap.size, 0, none⟩) hz).trans C0.out
    have a1 := (HW.out.cell (p := ⟨w.heap.size, 1, none⟩) hz).trans C1.out
    have hck := HC.out k
    have HSK := Lib.hid (HS.out k)
    obtain ⟨s, hs⟩ : ∃ s, s = cntK (fun i => covB d (lo + i)) k := ⟨_, rfl⟩
    obtain ⟨i, hi2⟩ : ∃ i : Nat, i = lo + k := ⟨_, rfl⟩
    rw [← hs] at hck HSK ⊢
    rw [← hi2] at HSK ⊢
    have HSE := Lib.hid hs
    have HI2 := Lib.hid hi2
    have hc1 : 0 ≤ s := hck.1
    have hc2 : s ≤ 32 := by have := hck.2; omega
    clear hs hck hi2
    by_cases hlt : (i : Int) ≤ hi
    · have hkn : k < n := by have := HI2.out; have := HN.out; omega
      have HG := Lib.hid (hgo.out i _ (HA.out.trans (HW.out.mono HA.out.size)))
      have HCV := Lib.hid (show covB d i = decide (0 ≤ atN d (i : Int)) from rfl)
      obtain ⟨t, ht⟩ : ∃ t, t = atN d (i : Int) := ⟨_, rfl⟩
      rw [← ht] at HG HCV
      clear ht
      have hwz := HW.out.size
      have hi31 : (i : Int) ≤ 31 := by omega
      by_cases h0 : 0 ≤ t
      all_goals
        go_wp2_with (go_at_call 125; refine HG.out.mono ?_; rintro y w2 ⟨rfl, hb2⟩; have HB2 := Lib.hid (HW.out.trans (hb2.mono HW.out.size)); clear hb2)
        go_roundw
        case rel => exact ⟨k + 1, by rw [HI2.out]; go_num, by rw [HSK.out, HCV.out]; first | rw [if_pos (by simp; omega)] | (rw [if_neg (by simp; omega)]; simp), by omega, HB2⟩
        case measure => have := HI2.out; simp [intOf]; omega
    · have hkn : k = n := by have := HI2.out; have := HN.out; omega
      have HNN := Lib.hid (show hi - (lo : Int) + 1 = (n : Int) by have := HN.out; omega)
      have hlo : (lo : Int) ≤ 32 := by have := HN.out; omega
      have hdz : hi - (lo : Int) + 1 ≠ 0 := by have := HN.out; omega
      have hdp : 0 < hi - (lo : Int) + 1 := by have := HN.out; omega
      have hh0 : 0 ≤ hi + 1 := by have := HN.out; omega
      go_wp2_with fail
      go_ret
      refine ⟨?_, HA.out.trans (HW.out.mono HA.out.size)⟩
      refine retI ?_
      rw [HNN.out, HSE.out, hkn]
      rfl
end Go.Proofs.YtbbejkimgkpfkaaDoor
