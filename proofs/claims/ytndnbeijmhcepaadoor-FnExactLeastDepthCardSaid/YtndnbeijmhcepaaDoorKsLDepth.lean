
/- LeastDepth, of the program and of the model: the bits of how many segments there are less one. -/
import Derived.Test.YtndnbeijmhcepaaDoorKsCollect
import Derived.Test.YtndnbeijmhcepaaDoorKsSegSpec
import Derived.Test.YtndnbeijmhcepaaDoorKsTreeU
import Derived.Test.YtndnbeijmhcepaaDoorKsLay7
namespace Go.Proofs.YtndnbeijmhcepaaDoor
open Go.RowKit Go.Shelf Go.Lib Go.Sort

noncomputable def ldepthI (d : Array CaseD) (rest : Int) : Int := if swB d rest = true then (Lib.bitLen ((segs d rest).length - 1) : Int) else -1
theorem bitLen_small : ∀ n : Fin 18, ∀ k : Fin 6, 1 ≤ n.val → ((2 ^ k.val < n.val ↔ k.val < Lib.bitLen (n.val - 1)) ∧ Lib.bitLen (n.val - 1) ≤ 5) := by decide +kernel

set_option maxRecDepth 100000 in
set_option maxHeartbeats 1000000 in
theorem implLDepth_any (b off cap : Nat) (d : Array CaseD) (rest : Int) (w : World) (hR : RowC w b off d) (hE : ErrAt w) (hcap : d.size ≤ cap) (hmax : cap ≤ maxLen) :
    Calls Tryd.prog 25 #[.agg #[.slice (some ⟨b, off, none⟩) d.size cap, .int .i64 rest]] w fun x w' => x = .returned (.int .i64 (ldepthI d rest)) ∧ RowKit.Below w.heap.size w w' := by
  obtain ⟨wa, hwa⟩ : ∃ wa, wa = w.alloc (.cells #[.slice (some ⟨b, off, none⟩) d.size cap, .int .i64 rest] 35) := ⟨_, rfl⟩
  have c0 : wa.cell? ⟨w.heap.size, 0, none⟩ = some (.slice (some ⟨b, off, none⟩) d.size cap) := by rw [hwa]; simp
  have c1 : wa.cell? ⟨w.heap.size, 1, none⟩ = some (.int .i64 rest) := by rw [hwa]; simp
  have hz : w.heap.size < wa.heap.size := by rw [hwa]; simp
  have hba : RowKit.Below w.heap.size w wa := by rw [hwa]; exact (Below.refl _ _).alloc (Nat.le_refl _) _
  have HS := Lib.hid (implSegs_any b off cap d rest wa (hR.below hba) (hE.below hba) hcap hmax)
  have HA := Lib.hid hba
  have HWA := Lib.hid hwa
  clear hwa hba hR hE
  cases hs : swB d rest
  all_goals
    have HSW := Lib.hid hs
    clear hs
    go_enter Tryd.func25, Tryd.ntmps25
    go_wp2_with fail
    rw [← HWA.out]
    refine HS.out.mono ?_
    rintro x w1 ⟨v, rfl, ho, hb1⟩
  · have HB1 := Lib.hid (HA.out.trans (hb1.mono (by omega)))
    rw [HSW.out]
    clear hb1 ho
    go_wp2
    go_ret
    exact ⟨by rw [ldepthI, if_neg (by rw [HSW.out]; exact Bool.false_ne_true)]; rfl, HB1.out⟩
  · have hok := (swB_iff _ _).1 HSW.out
    rw [segsN_on HSW.out] at ho
    have hpos := segs_pos hok
    have h17 := segs_length hok
    obtain ⟨g, cp, rfl, _, _, _⟩ := segs_row ho hpos
    have HB1 := Lib.hid (HA.out.trans (hb1.mono (by omega)))
    rw [HSW.out]
    have HL := Lib.hid (show ldepthI d rest = (Lib.bitLen ((segs d rest).length - 1) : Int) by rw [ldepthI, if_pos HSW.out])
    obtain ⟨n, hn⟩ : ∃ n, n = (segs d rest).length := ⟨_, rfl⟩
    rw [← hn] at HL hpos h17 ⊢
    have hn1 : (1 : Int) ≤ (n : Int) := by omega
    have hn2 : (n : Int) ≤ 17 := by omega
    have HLB := Lib.hid (fun W => Any.bits_Len Tryd.laysLen ((n : Int) - 1) W (by omega) (by omega))
    have htn : ((n : Int) - 1).toNat = n - 1 := by omega
    rw [htn] at HLB
    clear hb1 ho hok hn hpos h17 htn
    go_wp2_with fail
    refine (HLB.out _).mono ?_
    rintro e w2 ⟨rfl, rfl⟩
    go_wp2
    go_ret
    exact ⟨by rw [HL.out]; rfl, HB1.out⟩

set_option maxRecDepth 100000 in
set_option maxHeartbeats 1000000 in
theorem specLDepth_any (b off cap : Nat) (d : Array CaseD) (rest : Int) (w : World) (hR : RowC w b off d) (hcap : d.size ≤ cap) (hmax : cap ≤ maxLen) :
    Calls Tryd.prog 24 #[.agg #[.slice (some ⟨b, off, none⟩) d.size cap, .int .i64 rest]] w fun x w' => x = .returned (.int .i64 (ldepthI d rest)) ∧ RowKit.Below w.heap.size w w' := by
  have hv := fun W (hW : RowKit.Below w.heap.size w W) => specValid_any b off cap d rest W (hR.below hW) hcap hmax
  have HK := Lib.hid (fun W (hW : RowKit.Below w.heap.size w W) (ho : SwOK d rest) => l2Segments_any b off cap d rest W (hR.below hW) ho)
  obtain ⟨wa, hwa⟩ : ∃ wa, wa = w.alloc (.cells #[.slice (some ⟨b, off, none⟩) d.size cap, .int .i64 rest] 35) := ⟨_, rfl⟩
  have c0 : wa.cell? ⟨w.heap.size, 0, none⟩ = some (.slice (some ⟨b, off, none⟩) d.size cap) := by rw [hwa]; simp
  have c1 : wa.cell? ⟨w.heap.size, 1, none⟩ = some (.int .i64 rest) := by rw [hwa]; simp
  have hz : w.heap.size < wa.heap.size := by rw [hwa]; simp
  have hba : RowKit.Below w.heap.size w wa := by rw [hwa]; exact (Below.refl _ _).alloc (Nat.le_refl _) _
  have HA := Lib.hid hba
  have C0 := Lib.hid c0
  have C1 := Lib.hid c1
  have HWA := Lib.hid hwa
  clear hba c0 c1 hwa hR
  cases hs : swB d rest
  all_goals
    simp only [hs] at hv
    have HV := Lib.hid hv
    have HS := Lib.hid hs
    clear hv hs
    go_enter Tryd.func24, Tryd.ntmps24
    go_wp2_with fail
    rw [← HWA.out]
    refine (HV.out _ HA.out).mono ?_
    rintro x w1 ⟨rfl, hb⟩
    have HB := Lib.hid hb
    have hz1 := hb.size
    clear hb
    go_wp2_with fail
  · go_ret
    exact ⟨by rw [ldepthI, if_neg (by rw [HS.out]; exact Bool.false_ne_true)]; rfl, HA.out.trans (HB.out.mono (by omega))⟩
  · have hok := (swB_iff _ _).1 HS.out
    have hpos := segs_pos hok
    have h17 := segs_length hok
    have HOK := Lib.hid hok
    have HL := Lib.hid (show ldepthI d rest = (Lib.bitLen ((segs d rest).length - 1) : Int) by rw [ldepthI, if_pos HS.out])
    obtain ⟨n, hn⟩ : ∃ n, n = (segs d rest).length := ⟨_, rfl⟩
    rw [← hn] at HL hpos h17
    have HN := Lib.hid hn
    have hsm := fun k (hk : k ≤ 5) => bitLen_small ⟨n, by omega⟩ ⟨k, by omega⟩ hpos
    have hbl := (hsm 0 (by omega)).2
    obtain ⟨m, hm⟩ : ∃ m, m = Lib.bitLen (n - 1) := ⟨_, rfl⟩
    simp only [← hm] at HL hsm hbl
    have HSM := Lib.hid hsm
    clear hok hn hm hsm
    go_loopw [3] (fun i wr => ∃ k : Nat, i = .int .i64 k ∧ k ≤ m ∧ Hid (RowKit.Below wa.heap.size wa wr)) (fun i _ => m - (intOf i).toNat)
    case atStart => exact ⟨0, rfl, Nat.zero_le _, HB.out⟩
    case round =>
      obtain ⟨k, rfl, hk, HW⟩ := hrel
      have a0 := (HW.out.cell (p := ⟨w.heap.size, 0, none⟩) hz).trans C0.out
      have a1 := (HW.out.cell (p := ⟨w.heap.size, 1, none⟩) hz).trans C1.out
      have hk5 : (k : Int) ≤ 5 := by omega
      have hiff := (HSM.out k (by omega)).1
      have hp32 : 2 ^ k ≤ 2 ^ 5 := Nat.pow_le_pow_right (by decide) (by omega)
      have hpow : (2 : Int) ^ k = ((2 ^ k : Nat) : Int) := by simp
      obtain ⟨p, hp⟩ : ∃ p, p = 2 ^ k := ⟨_, rfl⟩
      rw [← hp] at hpow hp32 hiff
      have hwr : wrap64 ((2 : Int) ^ k) = (p : Int) := by rw [hpow]; unfold wrap64; omega
      have HWR := Lib.hid hwr
      clear hpow hp hwr
      have HW2 := Lib.hid (HA.out.trans (HW.out.mono (by omega : w.heap.size ≤ wa.heap.size)))
      have HKK := Lib.hid (HK.out wr HW2.out HOK.out)
      go_wp2_with fail
      refine HKK.out.mono ?_
      rintro e w2 ⟨v, rfl, ho, hne, hb2⟩
      obtain ⟨g, cp, rfl, _, _, _⟩ := owns_form ho hne
      have HW3 := Lib.hid (HW.out.trans (hb2.mono HW.out.size))
      rw [← HN.out, HWR.out]
      clear ho hne hb2 a0 a1
      by_cases hlt : k < m
      · have hpi : (p : Int) < (n : Int) := by have := hiff.2 hlt; omega
        clear hiff
        go_wp2_with fail
        go_roundw
        case rel => exact ⟨k + 1, by go_num, by omega, HW3.out⟩
        case measure => simp [intOf]; omega
      · have hpi : ¬ (p : Int) < (n : Int) := by
          intro h
          exact hlt (hiff.1 (by omega))
        have hkm : k = m := by omega
        have HLM := Lib.hid (show ldepthI d rest = (k : Int) by rw [HL.out, hkm])
        clear hiff hkm
        go_wp2_with fail
        go_ret
        exact ⟨by rw [HLM.out]; rfl, HA.out.trans (HW3.out.mono (by omega))⟩
end Go.Proofs.YtndnbeijmhcepaaDoor
