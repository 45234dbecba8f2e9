
/- TargetsOf of the program. -/
import Derived.Test.YtbhamkmiagdimaaDoorKsTargets
namespace Go.Proofs.YtbhamkmiagdimaaDoor
open Go.RowKit Go.Shelf Go.Lib Go.Sort

theorem caseB_target' {c : CaseD} (h : caseB c = true) : c.target.size = 1 := by simp [caseB, oneB] at h; exact h.1.1.1.1.1
theorem retTg {a c : ByteArray} {b e : Bool} (h : a = c) (h2 : b = e) : Ending.returned (.tuple #[.string a, .bool b]) = .returned (.tuple #[.string c, .bool e]) := by rw [h, h2]
theorem byteRow_eq (d : Array CaseD) : byteRow d d.size = (bytesZ d false).map encB := by simp [byteRow, bytesZ]
theorem byteRow_z (d : Array CaseD) : byteRow d d.size ++ [.int .u8 122] = (bytesZ d true).map encB := by simp [byteRow, bytesZ]

/-- The tail of TargetsOf: sort, compact, text: over a row of the call's own. -/
theorem tail_pack {d : Array CaseD} {rest : Int} {z : Bool} (hok : SwOK d rest) : (bytesZ d z).toArray.size ≤ 12 ∧ compactUpTo (insertionSort ltZ (bytesZ d z).toArray 0 (bytesZ d z).toArray.size) (bytesZ d z).toArray.size = lettersZ d z ∧ (insertionSort ltZ (bytesZ d z).toArray 0 (bytesZ d z).toArray.size).size = (bytesZ d z).toArray.size := by
  have h := sort_compact (bytesZ d z).toArray (lettersZ d z) (lettersZ_asc d z) (lettersZ_mem hok z)
  refine ⟨?_, h.1, h.2⟩
  have := hok.size
  cases z <;> simp [bytesZ] <;> omega

def sortedZ (d : Array CaseD) (z : Bool) : Array Int := insertionSort ltZ (bytesZ d z).toArray 0 (bytesZ d z).toArray.size
theorem sortZ_any {d : Array CaseD} {rest : Int} {z : Bool} (hok : SwOK d rest) (g cap n : Nat) (hn : n = (bytesZ d z).length) (w : World) (hH : Holds encB w g 0 (bytesZ d z).toArray) :
    Calls Tryd.prog 89 #[.slice (some ⟨g, 0, none⟩) n cap] w fun e w' => e = .returned (.tuple #[]) ∧ Holds encB w' g 0 (sortedZ d z) ∧ w.grownBy w' (some g) := by
  have e : n = (bytesZ d z).toArray.size := by simpa using hn
  rw [e]
  exact sortB_any g cap _ w hH (tail_pack hok).1
theorem compactZ_any {d : Array CaseD} {rest : Int} {z : Bool} (hok : SwOK d rest) (g cap n : Nat) (hn : n = (bytesZ d z).length) (hcap : n ≤ cap) (w : World) (hH : Holds encB w g 0 (sortedZ d z)) :
    Calls Tryd.prog 114 #[.slice (some ⟨g, 0, none⟩) n cap] w fun e w' => e = .returned (.slice (some ⟨g, 0, none⟩) (lettersZ d z).length cap) ∧ (∀ j v, ((lettersZ d z).map encB)[j]? = some v → w'.cell? ⟨g, j, none⟩ = some v) ∧ w.grownBy w' (some g) := by
  obtain ⟨h1, h2, h3⟩ := tail_pack (z := z) hok
  have e0 : (sortedZ d z).size = (bytesZ d z).toArray.size := h3
  have e : n = (sortedZ d z).size := by rw [e0]; simpa using hn
  have h := compactB_any g cap (sortedZ d z) w hH (by rw [e0]; exact h1) (by omega)
  rw [← e] at h
  have e2 : compactUpTo (sortedZ d z) n = lettersZ d z := by rw [e, e0]; exact h2
  rw [e2] at h
  exact h

set_option maxRecDepth 100000 in
set_option maxHeartbeats 2000000 in
theorem implTargets_any (b off cap : Nat) (d : Array CaseD) (rest : Int) (w : World) (hR : RowC w b off d) (hE : ErrAt w) (hcap : d.size ≤ cap) (hmax : cap ≤ maxLen) :
    Calls Tryd.prog 90 #[.agg #[.slice (some ⟨b, off, none⟩) d.size cap, .int .i64 rest]] w fun x w' => x = .returned (.tuple #[.string (targetsN d rest), .bool (swB d rest)]) ∧ RowKit.Below w.heap.size w w' := by
  have hv := fun W (hW : RowKit.Below w.heap.size w W) => switchValid_any b off cap d rest W (hR.below hW) (hE.below hW) hcap hmax
  have hk := fun W (hW : RowKit.Below w.heap.size w W) => implKeys_any b off cap d rest W (hR.below hW) (hE.below hW) hcap hmax
  have HKY := Lib.hid hk
  have HR := Lib.hid hR
  obtain ⟨wa, hwa⟩ : ∃ wa, wa = w.alloc (.cells #[.slice (some ⟨b, off, none⟩) d.size cap, .int .i64 rest] 32) := ⟨_, rfl⟩
  have c0 : wa.cell? ⟨w.heap.size, 0, none⟩ = some (.slice (some ⟨b, off, none⟩) d.size cap) := by rw [hwa]; simp
  have c1 : wa.cell? ⟨w.heap.size, 1, none⟩ = some (.int .i64 rest) := by rw [hwa]; simp
  have hz : w.heap.size < wa.heap.size := by rw [hwa]; simp
  have hba : RowKit.Below w.heap.size w wa := by rw [hwa]; exact (Below.refl _ _).alloc (Nat.le_refl _) _
  have HA := Lib.hid hba
  have C0 := Lib.hid c0
  have C1 := Lib.hid c1
  have HWA := Lib.hid hwa
  clear hba c0 c1 hwa hR hE hk
  cases hs : swB d rest
  all_goals
    simp only [hs] at hv
    have HV := Lib.hid hv
    have HS := Lib.hid hs
    clear hv hs
    go_enter Tryd.func90, Tryd.ntmps90
    go_wp2_with fail
    rw [← HWA.out]
    refine (HV.out _ HA.out).mono ?_
    rintro x w1 ⟨rfl, hb⟩
    have HB := Lib.hid hb
    have hz1 := hb.size
    have a0 := (hb.cell (p := ⟨w.heap.size, 0, none⟩) hz).trans C0.out
    have a1 := (hb.cell (p := ⟨w.heap.size, 1, none⟩) hz).trans C1.out
    clear hb
    go_wp2_with fail
  · go_ret2
    exact ⟨retTg (by rw [targetsN, if_neg (by rw [HS.out]; exact Bool.false_ne_true)]) rfl, HA.out.trans (HB.out.mono (by omega))⟩
  · have HO := Lib.hid ((swB_iff _ _).1 HS.out)
    have h8 : (d.size : Int) ≤ 8 := by have := HO.out.size; omega
    have h8n : d.size ≤ 8 := HO.out.size
    obtain ⟨i0, hi, hi0, hi1, hi2⟩ := info_parts info5
    clear a0 a1
    go_loopw [4, 13] (fun v i wr => ∃ k : Nat, i = .int .i64 k ∧ k ≤ d.size ∧ Hid (wr.ownsRow wa.heap.size 5 1 v k (byteRow d k)) ∧ Hid (RowKit.Below wa.heap.size wa wr) ∧ wa.heap.size ≤ wr.heap.size) (fun _ i _ => d.size - (intOf i).toNat)
    case atStart => exact ⟨0, rfl, Nat.zero_le _, ⟨rfl, .inl ⟨rfl, rfl⟩⟩, HB.out, hz1⟩
    case round =>
      obtain ⟨k, rfl, hk, HOwn, HW, hw2⟩ := hrel
      have HWW := Lib.hid (HA.out.trans (HW.out.mono (by omega)))
      by_cases hlt : k < d.size
      · have hx := HR.out.below HWW.out
        have x0 := hx.low k hlt
        have x1 := hx.high k hlt
        have x2 := hx.target k hlt
        have x3 := hx.weight k hlt
        have hts := caseB_target' (HO.out.case k hlt)
        clear hx
        obtain ⟨x, hxe⟩ : ∃ x, x = d[k]! := ⟨_, rfl⟩
        rw [← hxe] at x0 x1 x2 x3 hts
        have HKW := Lib.hid (show Lib.strCells x.target = [.int .u8 (tgJ d k)] by rw [strCells_one hts, tgJ, ← hxe])
        have HTS := Lib.hid hts
        have hts2 : x.target.size ≤ 1 := by omega
        clear hxe hts
        go_wp2_with (at_builtin; refine wpList_append_own_string _ rfl _ _ 112 9 rfl wa.heap.size 5 i0 Tryd.underlying112 Tryd.underlying9 hi hi0 hi1 hi2 _ _ _ rfl (HOwn.out.alloc _) x.target rfl ?c3 ?c4 ?c5 ?_)
        case c3 => unfold maxLen; omega
        case c4 => omega
        case c5 => simp; omega
        intro v' w3 hown3 hgrow _
        rw [HKW.out, byteRow_succ, HTS.out] at hown3
        have HO3 := Lib.hid hown3
        have hb4 : RowKit.Below wa.heap.size wa w3 := (HW.out.alloc hw2 _).grown hgrow (by simp; omega) (fun q hq => (HOwn.out.lt q hq).1)
        have HW4 := Lib.hid hb4
        have hz4 := hb4.size
        clear hown3 hgrow hb4
        go_wp2
        go_roundw
        case rel => exact ⟨k + 1, by go_num, by omega, HO3.out, HW4.out, hz4⟩
        case measure => simp [intOf]; omega
      · have hke : k = d.size := by omega
        subst hke
        have b0 := (HW.out.cell (p := ⟨w.heap.size, 0, none⟩) hz).trans C0.out
        have b1 := (HW.out.cell (p := ⟨w.heap.size, 1, none⟩) hz).trans C1.out
        have HKC := Lib.hid (HKY.out _ HWW.out)
        go_wp2_with fail
        refine HKC.out.mono ?_
        rintro x w4 ⟨rfl, hb4⟩
        have HOw4 := Lib.hid (owns_below HOwn.out hb4)
        have HW4 := Lib.hid (HW.out.trans (hb4.mono hw2))
        have hz4 := HW4.out.size
        clear hb4 b0 b1
        by_cases hkz : keysN d rest < 32
        · have HDZ := Lib.hid (show decide (keysN d rest < 32) = true by simp [hkz])
          obtain ⟨kn, hkn⟩ : ∃ kn, kn = keysN d rest := ⟨_, rfl⟩
          rw [← hkn] at hkz ⊢
          clear hkn
          go_wp2_with (at_builtin; refine wpList_append_own _ rfl _ _ 112 rfl wa.heap.size 5 i0 (.int .u8 0) 1 1 Tryd.underlying112 hi hi0 hi1 hi2 rfl (by decide) _ _ _ rfl (HOw4.out.alloc _) ⟨w4.heap.size, 0, none⟩ 1 1 [.int .u8 122] rfl rfl ?c1 ?c2 ?c3 ?c4 ?c5 ?_)
          case c1 => intro j u hj; match j, hj with | 0, hj => simp at hj; subst hj; simp [Addr.add]
          case c2 => intro u hu; simp at hu; subst hu; rfl
          case c3 => unfold maxLen; omega
          case c4 => omega
          case c5 => simp; omega
          intro v' w5 hown5 hgrow _
          have hnn : d.size + 1 = (bytesZ d true).length := by simp [bytesZ]
          rw [byteRow_z, hnn] at hown5
          have HWB := Lib.hid ((HW4.out.alloc hz4 _).grown hgrow (by simp; omega) (fun q hq => (HOw4.out.lt q hq).1))
          have hwz := HWB.out.size
          obtain ⟨g, cap', rfl, hg, hgs, hcap', hH⟩ := holds_bytes hown5 (by simp [bytesZ])
          have HH := Lib.hid hH
          rw [← hnn] at hcap' ⊢
          clear hown5 hgrow hH
          have HSO := Lib.hid (sortZ_any HO.out g cap' (d.size + 1) (z := true) hnn w5 HH.out)
          have HCO := Lib.hid (fun W hW => compactZ_any HO.out g cap' (d.size + 1) (z := true) hnn hcap' W hW)
          have HTG := Lib.hid (show targetsN d rest = strOf (lettersZ d true) by rw [targetsN, if_pos HS.out, HDZ.out])
          obtain ⟨nn, hnn2⟩ : ∃ nn, nn = (d.size + 1) := ⟨_, rfl⟩
          rw [← hnn2] at HSO HCO hcap' ⊢
          clear hnn hnn2
          go_wp2_with fail
          refine HSO.out.mono ?_
          rintro x w6 ⟨rfl, hs6, hg6⟩
          have HS6 := Lib.hid hs6
          have HW6 := Lib.hid (HWB.out.grown hg6 hwz (fun q hq => by injection hq with hq; omega))
          have hz6 := HW6.out.size
          clear hs6 hg6
          go_wp2_with fail
          refine (HCO.out _ HS6.out).mono ?_
          rintro x w7 ⟨rfl, hc7, hg7⟩
          have hcv := bytes_string (cap := cap') (lettersZ d true) hc7
          have HW7 := Lib.hid (HW6.out.grown hg7 (by omega) (fun q hq => by injection hq with hq; omega))
          obtain ⟨st, hst⟩ : ∃ st, st = strOf (lettersZ d true) := ⟨_, rfl⟩
          rw [← hst] at hcv HTG
          obtain ⟨ln, hln⟩ : ∃ ln, ln = (lettersZ d true).length := ⟨_, rfl⟩
          rw [← hln] at hcv ⊢
          clear hc7 hg7 hst hln
          go_wp2
          go_ret2
          exact ⟨retTg HTG.out.symm rfl, HA.out.trans (HW7.out.mono (by omega))⟩
        · have HDZ := Lib.hid (show decide (keysN d rest < 32) = false by simp [hkz])
          have hd1 : 0 < d.size := by
            rcases Nat.eq_zero_or_pos d.size with h0 | h0
            · exfalso
              apply hkz
              rw [keysN, if_pos HS.out, h0]
              simp [sumTo]
            · exact h0
          obtain ⟨kn, hkn⟩ : ∃ kn, kn = keysN d rest := ⟨_, rfl⟩
          rw [← hkn] at hkz ⊢
          clear hkn
          have hown5 := HOw4.out
          have hnn : d.size = (bytesZ d false).length := by simp [bytesZ]
          rw [byteRow_eq, hnn] at hown5
          have HWB := HW4
          have hwz := HWB.out.size
          obtain ⟨g, cap', hvv, hg, hgs, hcap', hH⟩ := holds_bytes hown5 (by intro h; have h2 := congrArg List.length h; rw [← hnn, List.length_nil] at h2; omega)
          have HH := Lib.hid hH
          rw [← hnn] at hcap' hvv
          subst hvv
          clear hown5 hH
          have HSO := Lib.hid (sortZ_any HO.out g cap' d.size (z := false) hnn w4 HH.out)
          have HCO := Lib.hid (fun W hW => compactZ_any HO.out g cap' d.size (z := false) hnn hcap' W hW)
          have HTG := Lib.hid (show targetsN d rest = strOf (lettersZ d false) by rw [targetsN, if_pos HS.out, HDZ.out])
          obtain ⟨nn, hnn2⟩ : ∃ nn, nn = d.size := ⟨_, rfl⟩
          rw [← hnn2] at HSO HCO hcap' ⊢
          clear hnn hnn2
          go_wp2_with fail
          refine HSO.out.mono ?_
          rintro x w6 ⟨rfl, hs6, hg6⟩
          have HS6 := Lib.hid hs6
          have HW6 := Lib.hid (HWB.out.grown hg6 hwz (fun q hq => by injection hq with hq; omega))
          have hz6 := HW6.out.size
          clear hs6 hg6
          go_wp2_with fail
          refine (HCO.out _ HS6.out).mono ?_
          rintro x w7 ⟨rfl, hc7, hg7⟩
          have hcv := bytes_string (cap := cap') (lettersZ d false) hc7
          have HW7 := Lib.hid (HW6.out.grown hg7 (by omega) (fun q hq => by injection hq with hq; omega))
          obtain ⟨st, hst⟩ : ∃ st, st = strOf (lettersZ d false) := ⟨_, rfl⟩
          rw [← hst] at hcv HTG
          obtain ⟨ln, hln⟩ : ∃ ln, ln = (lettersZ d false).length := ⟨_, rfl⟩
          rw [← hln] at hcv ⊢
          clear hc7 hg7 hst hln
          go_wp2
          go_ret2
          exact ⟨retTg HTG.out.symm rfl, HA.out.trans (HW7.out.mono (by omega))⟩
end Go.Proofs.YtbhamkmiagdimaaDoor
