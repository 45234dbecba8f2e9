
/- Tables and densities of the model: l6Range, l6Table, TableFor, l6Dense, Density; isRange of the program. -/
import Derived.Test.YtmhloojnekjfhaaDoorKsRowK
import Derived.IntWalk
namespace Go.Proofs.YtmhloojnekjfhaaDoor
open Go.RowKit Go.Shelf Go.Lib Go.Sort

set_option maxRecDepth 100000 in
set_option maxHeartbeats 1000000 in
theorem l6Table_any (b off cap : Nat) (d : Array CaseD) (rest hi : Int) (lo n : Nat) (w : World) (hR : RowC w b off d) (hok : SwOK d rest) (hn : hi + 1 = lo + n) (hmx : hi ≤ 31) :
    Calls Tryd.prog 71 #[.agg #[.slice (some ⟨b, off, none⟩) d.size cap, .int .i64 rest], .int .i64 lo, .int .i64 hi] w fun x w' => x = .returned (.string (tabS d lo n)) ∧ RowKit.Below w.heap.size w w' := by
  have hgo := Lib.hid (fun (k : Nat) W (hW : RowKit.Below w.heap.size w W) => l1Goes_any b off cap d rest (k : Int) W (hR.below hW) hok.size)
  have HT := Lib.hid (fun k => tabS_succ hok lo k)
  have HZ := Lib.hid (fun k => tabS_size d lo k)
  obtain ⟨wa, hwa⟩ : ∃ wa, wa = w.alloc (.cells #[.slice (some ⟨b, off, none⟩) d.size cap, .int .i64 rest] 25) := ⟨_, rfl⟩
  have c0 : wa.cell? ⟨w.heap.size, 0, none⟩ = some (.slice (some ⟨b, off, none⟩) d.size cap) := by rw [hwa]; simp
  have c1 : wa.cell? ⟨w.heap.size, 1, none⟩ = some (.int .i64 rest) := by rw [hwa]; simp
  have hz : w.heap.size < wa.heap.size := by rw [hwa]; simp
  have hba : RowKit.Below w.heap.size w wa := by rw [hwa]; exact (Below.refl _ _).alloc (Nat.le_refl _) _
  have HA := Lib.hid hba
  have C0 := Lib.hid c0
  have C1 := Lib.hid c1
  have HWA := Lib.hid hwa
  have HN := Lib.hid hn
  have h32 : n ≤ 32 := by omega
  clear hba c0 c1 hwa hR hok hn
  go_enter Tryd.func71, Tryd.ntmps71
  go_wp2_with fail
  rw [← HWA.out]
  go_loopw [7, 8] (fun s i wr => ∃ k : Nat, i = .int .i64 ((lo + k : Nat) : Int) ∧ s = .string (tabS d lo k) ∧ k ≤ n ∧ Hid (RowKit.Below wa.heap.size wa wr)) (fun _ i _ => (lo + n) - (intOf i).toNat)
  case atStart => exact ⟨0, rfl, rfl, Nat.zero_le _, Lib.hid (Below.refl _ _)⟩
  case round =>
    obtain ⟨k, rfl, rfl, hk, HW⟩ := hrel
    have a0 := (HW.out.cell (p := ⟨w.heap.size, 0, none⟩) hz).trans C0.out
    have a1 := (HW.out.cell (p := ⟨w.heap.size, 1, none⟩) hz).trans C1.out
    have hzk := HZ.out k
    have HTK := Lib.hid (HT.out k)
    obtain ⟨s, hs⟩ : ∃ s, s = tabS d lo k := ⟨_, rfl⟩
    obtain ⟨i, hi2⟩ : ∃ i : Nat, i = lo + k := ⟨_, rfl⟩
    rw [← hs] at hzk HTK ⊢
    rw [← hi2] at HTK ⊢
    have HSE := Lib.hid hs
    have HI2 := Lib.hid hi2
    have hs32 : s.size ≤ 32 := by omega
    clear hs hzk hi2
    by_cases hlt : (i : Int) ≤ hi
    · have hkn : k < n := by have := HI2.out; have := HN.out; omega
      have hg1 : (goesN d (i : Int)).size ≤ 32 := by
        have := HTK.out
        have h1 := HZ.out (k + 1)
        rw [this, ByteArray.size_append] at h1
        omega
      have HG := Lib.hid (hgo.out i _ (HA.out.trans (HW.out.mono HA.out.size)))
      obtain ⟨t, ht⟩ : ∃ t, t = goesN d (i : Int) := ⟨_, rfl⟩
      rw [← ht] at HG HTK hg1
      clear ht
      have hwz := HW.out.size
      go_wp2_with (go_at_call 93; refine HG.out.mono ?_; rintro y w2 ⟨rfl, hb2⟩; have HB2 := Lib.hid (HW.out.trans (hb2.mono HW.out.size)); clear hb2)
      go_roundw
      case rel => exact ⟨k + 1, by rw [HI2.out]; go_num, by rw [HTK.out], by omega, HB2⟩
      case measure => have := HI2.out; simp [intOf]; omega
    · have hkn : k = n := by have := HI2.out; have := HN.out; omega
      go_wp2_with fail
      go_ret
      exact ⟨retS (by rw [HSE.out, hkn]), HA.out.trans (HW.out.mono HA.out.size)⟩

end Go.Proofs.YtmhloojnekjfhaaDoor
