
/- BestPage of the model. -/
import Derived.Test.YtmhloojnekjfhaaDoorKsPagM
import Derived.Test.YtmhloojnekjfhaaDoorKsQuiet
namespace Go.Proofs.YtmhloojnekjfhaaDoor
open Go.RowKit Go.Shelf Go.Lib Go.Sort

/-- The first of the least of the first sizes. -/
def bestPTo (d : Array CaseD) : Nat → Nat
  | 0 => 1
  | k + 1 => if entZ d ((2 ^ (k + 1) : Nat) : Int) < entZ d (bestPTo d k : Int) then 2 ^ (k + 1) else bestPTo d k
noncomputable def bestPN (d : Array CaseD) (rest : Int) : Int := if swB d rest = true then (bestPTo d 5 : Int) else -1
theorem pow_size : ∀ k, k ≤ 5 → sizeB ((2 ^ k : Nat) : Int) = true := by decide
theorem bestPTo_size (d : Array CaseD) : ∀ k, k ≤ 5 → sizeB (bestPTo d k : Int) = true
  | 0, _ => rfl
  | k + 1, h => by
    rw [bestPTo]
    split
    · exact pow_size (k + 1) h
    · exact bestPTo_size d k (by omega)
theorem entZ_le (d : Array CaseD) {size : Int} (h : sizeB size = true) : 0 ≤ entZ d size ∧ entZ d size ≤ 64 := by
  obtain ⟨sz, n, rfl, h1, h2, h3, h4⟩ := size_nat h
  have hl := pagesTo_length d sz n
  have hmul : (pagesTo d sz n).length * sz ≤ n * sz := Nat.mul_le_mul_right _ hl
  rw [Nat.mul_comm n sz, h1] at hmul
  have hn32 : n ≤ 32 := Nat.le_of_dvd (by decide) ⟨sz, by rw [Nat.mul_comm]; exact h1.symm⟩
  rw [entZ, pagL, idxL, Int.toNat_natCast, h2, indexTo_length]
  have e : ((pagesTo d sz n).length : Int) * (sz : Int) = (((pagesTo d sz n).length * sz : Nat) : Int) := by simp
  rw [e]
  omega

set_option maxRecDepth 100000 in
set_option maxHeartbeats 2000000 in
theorem specBPage_any (b off cap : Nat) (d : Array CaseD) (rest : Int) (w : World) (hR : RowC w b off d) (hcap : d.size ≤ cap) (hmax : cap ≤ maxLen) :
    Calls Tryd.prog 18 #[.agg #[.slice (some ⟨b, off, none⟩) d.size cap, .int .i64 rest]] w fun x w' => x = .returned (.int .i64 (bestPN d rest)) ∧ RowKit.Below w.heap.size w w' := by
  have hv := fun W (hW : RowKit.Below w.heap.size w W) => specValid_any b off cap d rest W (hR.below hW) hcap hmax
  have HT := Lib.hid (fun (hok : SwOK d rest) (size : Int) (h : sizeB size = true) W (hW : RowKit.Below w.heap.size w W) => l6Entries_any b off cap d rest size W (hR.below hW) hok h)
  obtain ⟨wa, hwa⟩ : ∃ wa, wa = w.alloc (.cells #[.slice (some ⟨b, off, none⟩) d.size cap, .int .i64 rest] 25) := ⟨_, rfl⟩
  have c0 : wa.cell? ⟨w.heap.size, 0, none⟩ = some (.slice (some ⟨b, off, none⟩) d.size cap) := by rw [hwa]; simp
  have c1 : wa.cell? ⟨w.heap.size, 1, none⟩ = some (.int .i64 rest) := by rw [hwa]; simp
  have hz : w.heap.size < wa.heap.size := by rw [hwa]; simp
  have hba : RowKit.Below w.heap.size w wa := by rw [hwa]; exact (Below.refl _ _).alloc (Nat.le_refl _) _
  have HA := Lib.hid hba
  have C0 := Lib.hid c0
  have C1 := Lib.hid c1
  have HWA := Lib.hid hwa
  clear hba c0 c1 hwa hR
  cases hs : swB d rest
  all_goals
    simp only [hs] at hv
    have HV := Lib.hid hv
    have HS := Lib.hid hs
    clear hv hs
    go_enter Tryd.func18, Tryd.ntmps18
    go_wp2_with fail
    rw [← HWA.out]
    refine (HV.out _ HA.out).mono ?_
    rintro x w1 ⟨rfl, hb⟩
    have HB := Lib.hid hb
    have hz1 := hb.size
    clear hb
    go_wp2_with fail
  · go_ret
    exact ⟨retI (by rw [bestPN, HS.out]; rfl), HA.out.trans (HB.out.mono (Nat.le_of_lt hz))⟩
  · have HTT := Lib.hid (HT.out ((swB_iff _ _).1 HS.out))
    have HBN := Lib.hid (show bestPN d rest = (bestPTo d 5 : Int) by rw [bestPN, if_pos HS.out])
    clear HT
    go_loopw [3, 4] (fun bs sz wr => ∃ k : Nat, bs = .int .i64 ((bestPTo d k : Nat) : Int) ∧ sz = .int .i64 ((2 ^ (k + 1) : Nat) : Int) ∧ k ≤ 5 ∧ Hid (RowKit.Below wa.heap.size wa wr)) (fun _ i _ => 64 - (RowKit.intOf i).toNat)
    case atStart => exact ⟨0, rfl, rfl, Nat.zero_le _, HB⟩
    case round =>
      obtain ⟨k, rfl, rfl, hk, HW⟩ := hrel
      have a0 := (HW.out.cell (p := ⟨w.heap.size, 0, none⟩) hz).trans C0.out
      have a1 := (HW.out.cell (p := ⟨w.heap.size, 1, none⟩) hz).trans C1.out
      have HWW := Lib.hid (HA.out.trans (HW.out.mono (Nat.le_of_lt hz)))
      have hzr := HW.out.size
      by_cases hlt : k < 5
      · have HN1 := Lib.hid (show bestPTo d (k + 1) = if entZ d ((2 ^ (k + 1) : Nat) : Int) < entZ d (bestPTo d k : Int) then 2 ^ (k + 1) else bestPTo d k from rfl)
        have HPW := Lib.hid (show ((2 ^ (k + 1 + 1) : Nat) : Int) = ((2 ^ (k + 1) : Nat) : Int) * 2 by rw [Nat.pow_succ]; simp)
        have s1 := pow_size (k + 1) (by omega)
        have s2 := bestPTo_size d k hk
        have hcall1 := fun W (hW : RowKit.Below wr.heap.size wr W) => HTT.out _ s1 W (HWW.out.trans (hW.mono HWW.out.size))
        have hcall2 := fun W (hW : RowKit.Below wr.heap.size wr W) => HTT.out _ s2 W (HWW.out.trans (hW.mono HWW.out.size))
        have e1 := entZ_le d s1
        have e2 := entZ_le d s2
        have hq1 : 1 ≤ (2 ^ (k + 1) : Nat) ∧ (2 ^ (k + 1) : Nat) ≤ 32 := by have := (sizeB_iff _).1 s1; omega
        have hq2 : (bestPTo d k : Int) ≤ 32 := by have := (sizeB_iff _).1 s2; omega
        obtain ⟨p, hp⟩ : ∃ p : Nat, p = 2 ^ (k + 1) := ⟨_, rfl⟩
        obtain ⟨q, hq⟩ : ∃ q : Nat, q = bestPTo d k := ⟨_, rfl⟩
        rw [← hp] at hcall1 HN1 HPW e1 hq1 ⊢
        rw [← hq] at hcall2 HN1 e2 hq2 ⊢
        obtain ⟨z1, hz1'⟩ : ∃ z, z = entZ d (p : Int) := ⟨_, rfl⟩
        obtain ⟨z2, hz2'⟩ : ∃ z, z = entZ d (q : Int) := ⟨_, rfl⟩
        rw [← hz1'] at hcall1 HN1 e1
        rw [← hz2'] at hcall2 HN1 e2
        have HC1 := Lib.hid hcall1
        have HC2 := Lib.hid hcall2
        have hp32 : (p : Int) ≤ 32 := by omega
        have hbl : w.heap.size < wr.heap.size := by omega
        have r0 := fun p : BW wr => p.cell (a := ⟨w.heap.size, 0, none⟩) hbl a0
        have r1 := fun p : BW wr => p.cell (a := ⟨w.heap.size, 1, none⟩) hbl a1
        clear hp hq hz1' hz2' hcall1 hcall2 s1 s2
        go_wp2_with fail
        clear a0 a1
        refine wp_region_bw (by kernel_rfl) (by kernel_rfl) ?_
        repeat (go_big_quiet_step (first
          | (go_at_call 55; with_reducible refine bw_of (HC1.out _ (BW.h _)))
          | (go_at_call 55; with_reducible refine bw_of (HC2.out _ (BW.h _)))))
        refine wpQuiet_nil ?_
        rintro _ ⟨t, rfl⟩
        have HB3 := Lib.hid (HW.out.trans (t.h.mono hzr))
        clear r0 r1
        by_cases hcmp : z1 < z2
        · rw [if_pos hcmp] at HN1
          go_wp2_with fail
          go_roundw
          case rel => exact ⟨k + 1, by rw [HN1.out], by rw [HPW.out], by omega, HB3⟩
          case measure => simp [RowKit.intOf]; omega
        · rw [if_neg hcmp] at HN1
          go_wp2_with fail
          go_roundw
          case rel => exact ⟨k + 1, by rw [HN1.out], by rw [HPW.out], by omega, HB3⟩
          case measure => simp [RowKit.intOf]; omega
      · obtain rfl : k = 5 := by omega
        have hki : ¬ ((2 ^ (5 + 1) : Nat) : Int) ≤ 32 := by decide
        obtain ⟨p, hp⟩ : ∃ p : Nat, p = 2 ^ (5 + 1) := ⟨_, rfl⟩
        rw [← hp] at hki ⊢
        clear hp
        go_wp2_with fail
        go_ret
        exact ⟨retI HBN.out.symm, HWW.out⟩
end Go.Proofs.YtmhloojnekjfhaaDoor
