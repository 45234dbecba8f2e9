
/- BestMasks of the model. -/
import Derived.Test.YtbhamkmiagdimaaDoorKsWordT
import Derived.Test.YtbhamkmiagdimaaDoorKsWordB
import Derived.IntWalk
namespace Go.Proofs.YtbhamkmiagdimaaDoor
open Go.RowKit Go.Shelf Go.Lib Go.Sort

theorem drop_empty (t x : ByteArray) : t.extract 0 0 ++ x = x := by
  apply ByteArray.ext
  simp [ByteArray.data_extract]
theorem retTgW {a c : ByteArray} {b e : Bool} (h : a = c) (h2 : b = e) : Ending.returned (.tuple #[.string a, .bool b]) = .returned (.tuple #[.string c, .bool e]) := by rw [h, h2]
/-- A target stands ahead of another if it weighs more. -/
def hvy (d : Array CaseD) (rest : Int) (x y : Int) : Bool := decide (wgtT d rest y < wgtT d rest x)
def letA (d : Array CaseD) : Array Int := (lettersTo d 8).toArray
theorem letA_size (d : Array CaseD) : (letA d).size = (lettersTo d 8).length := by simp [letA]
theorem letA_range (d : Array CaseD) : ∀ j, j < (letA d).size → 97 ≤ (letA d)[j]! ∧ (letA d)[j]! ≤ 104 := fun j hj => by
  have hj' : j < (lettersTo d 8).length := by rw [letA_size] at hj; exact hj
  have e : (letA d)[j]! = (lettersTo d 8)[j] := by rw [getElem!_pos _ j hj]; simp [letA]
  rw [e]
  exact lettersTo_range d _ (List.getElem_mem hj')
theorem letA_str (d : Array CaseD) : strOf (letA d).toList = strOf (lettersTo d 8) := by simp [letA]
def bestM (d : Array CaseD) (rest : Int) : ByteArray := strOf (insertionSort (hvy d rest) (letA d) 0 (letA d).size).toList
noncomputable def bestMN (d : Array CaseD) (rest : Int) : ByteArray := if swB d rest = true then bestM d rest else ⟨#[]⟩
theorem bestM_out (d : Array CaseD) (rest : Int) : bestM d rest = strOf (outL (hvy d rest) (letA d) (letA d).size) := by
  rw [bestM, ins_sort, outL, List.take_of_length_le]
  rw [Array.length_toList, insTo_size]
  exact Nat.le_refl _
theorem letA_at (d : Array CaseD) {i : Nat} (hi : i < (letA d).size) : (strOf (lettersTo d 8)).extract i (i + 1) = strOf [(letA d)[i]!] := by
  have h : i < (lettersTo d 8).length := by rw [letA_size] at hi; exact hi
  rw [strOf_at _ h]
  congr 2
  rw [getElem!_pos _ i hi]
  simp [letA]
theorem hvy_range {d : Array CaseD} {rest : Int} {i j : Nat} (hj : j < (letA d).size) : 97 ≤ (insTo (hvy d rest) (letA d) i)[j]! ∧ (insTo (hvy d rest) (letA d) i)[j]! ≤ 104 ∨ (letA d).size < i := by
  by_cases h : i ≤ (letA d).size
  · exact .inl (insTo_all _ _ (fun x => 97 ≤ x ∧ x ≤ 104) (letA_range d) i h j hj)
  · exact .inr (by omega)
theorem out_at {d : Array CaseD} {rest : Int} {i k : Nat} (hi : i ≤ (letA d).size) (hk : 0 < k) (hki : k ≤ i) : (strOf (outL (hvy d rest) (letA d) i)).extract (k - 1) k = strOf [(insTo (hvy d rest) (letA d) i)[k - 1]!] := by
  have hl := outL_length (hvy d rest) (letA d) hi
  have h := strOf_at (outL (hvy d rest) (letA d) i) (i := k - 1) (by rw [hl]; omega)
  rw [show k - 1 + 1 = k by omega] at h
  rw [h, outL_get _ _ hi (by omega)]

set_option maxRecDepth 100000 in
set_option maxHeartbeats 2000000 in
theorem specBestM_any (b off cap : Nat) (d : Array CaseD) (rest : Int) (w : World) (hR : RowC w b off d) (hcap : d.size ≤ cap) (hmax : cap ≤ maxLen) :
    Calls Tryd.prog 30 #[.agg #[.slice (some ⟨b, off, none⟩) d.size cap, .int .i64 rest]] w fun x w' => x = .returned (.tuple #[.string (bestMN d rest), .bool (swB d rest)]) ∧ RowKit.Below w.heap.size w w' := by
  have hv := fun W (hW : RowKit.Below w.heap.size w W) => specValid_any b off cap d rest W (hR.below hW) hcap hmax
  have HM := Lib.hid (fun ho (t : ByteArray) ht W (hW : RowKit.Below w.heap.size w W) => l7Weight_any b off cap d rest t W (hR.below hW) ho ht)
  have HOWN := Lib.hid (fun ho W (hW : RowKit.Below w.heap.size w W) => l7Own_any b off cap d rest W (hR.below hW) ho)
  obtain ⟨wa, hwa⟩ : ∃ wa, wa = w.alloc (.cells #[.slice (some ⟨b, off, none⟩) d.size cap, .int .i64 rest] 32) := ⟨_, rfl⟩
  have c0 : wa.cell? ⟨w.heap.size, 0, none⟩ = some (.slice (some ⟨b, off, none⟩) d.size cap) := by rw [hwa]; simp
  have c1 : wa.cell? ⟨w.heap.size, 1, none⟩ = some (.int .i64 rest) := by rw [hwa]; simp
  have hz : w.heap.size < wa.heap.size := by rw [hwa]; simp
  have hba : RowKit.Below w.heap.size w wa := by rw [hwa]; exact (Below.refl _ _).alloc (Nat.le_refl _) _
  have HA := Lib.hid hba
  have C0 := Lib.hid c0
  have C1 := Lib.hid c1
  have HWA := Lib.hid hwa
  clear hba c0 c1 hwa hR
  cases hsw : swB d rest
  all_goals
    rw [hsw] at hv
    have HV := Lib.hid hv
    have HS := Lib.hid hsw
    have a0 := C0.out
    have a1 := C1.out
    clear hv hsw
    go_enter Tryd.func30, Tryd.ntmps30
    go_wp2_with fail
    rw [← HWA.out]
    refine (HV.out _ HA.out).mono ?_
    rintro x w1 ⟨rfl, hb⟩
    have HB := Lib.hid (HA.out.trans (hb.mono HA.out.size))
    have HBA := Lib.hid hb
    have b0 := (hb.cell (p := ⟨w.heap.size, 0, none⟩) hz).trans C0.out
    have b1 := (hb.cell (p := ⟨w.heap.size, 1, none⟩) hz).trans C1.out
    clear hb a0 a1
    go_wp2_with fail
  · go_ret2
    exact ⟨retTgW (by rw [bestMN, if_neg (by rw [HS.out]; exact Bool.false_ne_true)]) rfl, HB.out⟩
  · have HO := Lib.hid ((swB_iff _ _).1 HS.out)
    refine (HOWN.out HO.out _ HB.out).mono ?_
    rintro x w2 ⟨rfl, hb⟩
    have HB2 := Lib.hid (HB.out.trans (hb.mono HB.out.size))
    have HBA2 := Lib.hid (HBA.out.trans (hb.mono HBA.out.size))
    clear hb b0 b1
    have hln := lettersTo_length d 8
    have hsz := strOf_size (lettersTo d 8)
    have HLA := Lib.hid (letA_size d)
    have HAT := Lib.hid (fun i => letA_at d (i := i))
    have HBN := Lib.hid (show bestMN d rest = bestM d rest by rw [bestMN, if_pos HS.out])
    obtain ⟨o, ho⟩ : ∃ o, o = strOf (lettersTo d 8) := ⟨_, rfl⟩
    rw [← ho] at hsz HAT ⊢
    have hon : o.size = (letA d).size := by rw [hsz, HLA.out]
    have ho8 : o.size ≤ 8 := by omega
    have ho8i : (o.size : Int) ≤ 8 := by omega
    have HON := Lib.hid hon
    clear ho hon hsz hln
    go_wp2_with fail
    go_loopw [5, 15] (fun v i wr => ∃ (q : Nat) (t : ByteArray), i = .int .i64 q ∧ q ≤ o.size ∧ v = .string t ∧ t.size = q ∧ Hid (t = strOf (outL (hvy d rest) (letA d) q)) ∧ Hid (RowKit.Below wa.heap.size wa wr)) (fun _ i _ => o.size - (intOf i).toNat)
    case atStart => exact ⟨0, ⟨#[]⟩, rfl, Nat.zero_le _, rfl, rfl, by simp [Hid, outL]; rfl, HBA2.out⟩
    case round =>
      obtain ⟨i, t, rfl, hi, rfl, hts, HT, HR3⟩ := hrel
      have HWW := Lib.hid (HA.out.trans (HR3.out.mono HA.out.size))
      by_cases hlt : i < o.size
      · have hii : (i : Int) < (o.size : Int) := by omega
        have hti : (t.size : Int) = i := by omega
        have HLT := Lib.hid hlt
        obtain ⟨B, hB⟩ : ∃ B, B = insTo (hvy d rest) (letA d) i := ⟨_, rfl⟩
        have HBE := Lib.hid hB
        have hBi : B[i]! = (letA d)[i]! := by rw [hB]; exact insTo_rest _ _ i i (Nat.le_refl _) (by rw [← HON.out]; exact hlt)
        have HBI := Lib.hid hBi
        clear hB hBi
        go_wp2_with fail
        go_loopw [7] (fun v wr2 => ∃ k : Nat, v = .int .i64 k ∧ k ≤ i ∧ Hid (posA (hvy d rest) B i k = posA (hvy d rest) B i i) ∧ Hid (RowKit.Below wa.heap.size wa wr2)) (fun v _ => (intOf v).toNat)
        case atStart => exact ⟨i, by rw [← hts], Nat.le_refl _, rfl, HR3.out⟩
        case round =>
          obtain ⟨k, rfl, hk, HP, HR4⟩ := hrel
          have HWW4 := Lib.hid (HA.out.trans (HR4.out.mono HA.out.size))
          have FIN := Lib.hid (fun (h : posA (hvy d rest) B i k = k) => (show t.extract 0 k ++ o.extract i (i + 1) ++ t.extract k i = strOf (outL (hvy d rest) (letA d) (i + 1)) by
            have hk2 : k = posA (hvy d rest) (insTo (hvy d rest) (letA d) i) i i := by rw [← HBE.out, ← HP.out, h]
            rw [outL_succ _ _ (by rw [← HON.out]; exact HLT.out) hk2, strOf_append, strOf_append, HAT.out i (by rw [← HON.out]; exact HLT.out), ← strOf_take, ← strOf_drop, ← HT.out, hts]))
          have hsz3 : ∀ h : k ≤ i, (t.extract 0 k ++ o.extract i (i + 1) ++ t.extract k i).size = i + 1 := fun h => by
            simp only [ByteArray.size_append, ByteArray.size_extract]
            omega
          have HSZ3 := Lib.hid (hsz3 hk)
          clear hsz3
          by_cases hk0 : 0 < k
          · have hki : (0 : Int) < (k : Int) := by omega
            have hkt : k ≤ t.size := by omega
            have zr : w.heap.size < wr.heap.size := by have := HR4.out.size; omega
            have q0 := fun p : BW wr => p.cell zr ((HR4.out.cell (p := ⟨w.heap.size, 0, none⟩) hz).trans C0.out)
            have q1 := fun p : BW wr => p.cell zr ((HR4.out.cell (p := ⟨w.heap.size, 1, none⟩) hz).trans C1.out)
            have hBk : 97 ≤ B[k - 1]! ∧ B[k - 1]! ≤ 104 := by
              rw [HBE.out]
              exact insTo_all _ _ (fun x => 97 ≤ x ∧ x ≤ 104) (letA_range d) i (by rw [← HON.out]; omega) (k - 1) (by rw [← HON.out]; omega)
            have hBi : 97 ≤ B[i]! ∧ B[i]! ≤ 104 := by
              rw [HBI.out]
              exact letA_range d i (by rw [← HON.out]; exact HLT.out)
            have e1 : t.extract (k - 1) k = strOf [B[k - 1]!] := by rw [HT.out, HBE.out]; exact out_at (by rw [← HON.out]; omega) hk0 hk
            have e2 : o.extract i (i + 1) = strOf [B[i]!] := by rw [HBI.out]; exact HAT.out i (by rw [← HON.out]; exact HLT.out)
            have s1 : (t.extract (k - 1) k).size = 1 := by rw [e1, strOf_size]; rfl
            have s2 : (o.extract i (i + 1)).size = 1 := by rw [e2, strOf_size]; rfl
            have g1 := fun p : BW wr => HM.out HO.out (t.extract (k - 1) k) s1 p.W (HWW4.out.trans (p.h.mono HWW4.out.size))
            have g2 := fun p : BW wr => HM.out HO.out (o.extract i (i + 1)) s2 p.W (HWW4.out.trans (p.h.mono HWW4.out.size))
            have t1 : tg0 (t.extract (k - 1) k) = B[k - 1]! := by rw [e1]; exact strOf_tg (by omega) (by omega)
            have t2 : tg0 (o.extract i (i + 1)) = B[i]! := by rw [e2]; exact strOf_tg (by omega) (by omega)
            rw [t1] at g1
            rw [t2] at g2
            have HLTE := Lib.hid (show hvy d rest B[i]! B[k - 1]! = decide (wgtT d rest B[k - 1]! < wgtT d rest B[i]!) from rfl)
            obtain ⟨u1, hu1⟩ : ∃ u, u = wgtT d rest B[k - 1]! := ⟨_, rfl⟩
            obtain ⟨u2, hu2⟩ : ∃ u, u = wgtT d rest B[i]! := ⟨_, rfl⟩
            rw [← hu1] at g1 HLTE
            rw [← hu2] at g2 HLTE
            have G1 := Lib.hid g1
            have G2 := Lib.hid g2
            clear hu1 hu2 g1 g2 e1 e2 s1 s2 t1 t2 hBk hBi
            have hs2 : IntKind.i64.wrap ((k : Int) - 1) = (k : Int) - 1 := IntWalk.i64_in _ (by omega)
            have hs3 : (0 : Int) ≤ (k : Int) - 1 := by omega
            have hs4 : ((k : Int) - 1).toNat = k - 1 := by omega
            by_cases hq : u1 < u2
            · have hqd : decide (u1 < u2) = true := decide_eq_true hq
              rw [hqd] at HLTE
              go_wp2_with fail
              refine wp_region_bw (by kernel_rfl) (by kernel_rfl) ?_
              repeat (go_big_quiet_step (first | (with_reducible refine bw_of (G1.out _)) | (with_reducible refine bw_of (G2.out _))))
              refine wpQuiet_nil ?_
              rintro _ ⟨⟨W', hBW⟩, rfl⟩
              have HBW := Lib.hid (HR4.out.trans (hBW.mono HR4.out.size))
              clear hBW
              go_wp2_with fail
              go_roundw
              case rel => exact ⟨k - 1, by first | rfl | go_num | (congr 1; omega), by omega, (show _ = _ by rw [← posA_go hk0 HLTE.out]; exact HP.out), HBW.out⟩
              case measure => simp [intOf]; omega
            · have hqd : decide (u1 < u2) = false := decide_eq_false hq
              rw [hqd] at HLTE
              have HFN := Lib.hid (FIN.out (posA_stop (.inr HLTE.out)))
              have HZ3 := HSZ3
              clear HSZ3
              go_wp2_with fail
              refine wp_region_bw (by kernel_rfl) (by kernel_rfl) ?_
              repeat (go_big_quiet_step (first | (with_reducible refine bw_of (G1.out _)) | (with_reducible refine bw_of (G2.out _))))
              refine wpQuiet_nil ?_
              rintro _ ⟨⟨W', hBW⟩, rfl⟩
              have HBW := Lib.hid (HR4.out.trans (hBW.mono HR4.out.size))
              clear hBW
              go_wp2_with fail
              go_quiet (fail)
              go_wp2_with fail
              go_roundw
              case rel => exact ⟨i + 1, _, by go_num, by have := HLT.out; omega, rfl, HZ3.out, HFN.out, below_drewN HBW.out _⟩
              case measure => simp [intOf]; omega
          · have hke : k = 0 := by omega
            subst hke
            have hfn := FIN.out (posA_stop (.inl rfl))
            have hz3 := HSZ3.out
            rw [drop_empty] at hfn hz3
            have HFN := Lib.hid hfn
            have HZ3 := Lib.hid hz3
            clear hfn hz3 HSZ3
            go_wp2_with fail
            go_quiet (fail)
            go_wp2_with fail
            go_quiet (fail)
            go_wp2_with fail
            go_roundw
            case rel => exact ⟨i + 1, _, by go_num, by have := HLT.out; omega, rfl, HZ3.out, HFN.out, below_drewN HR4.out _⟩
            case measure => simp [intOf]; omega
      · have hie : i = o.size := by omega
        subst hie
        go_wp2_with fail
        go_ret2
        exact ⟨retTgW (by rw [HBN.out, bestM_out, ← HON.out, HT.out]) rfl, HWW.out⟩
end Go.Proofs.YtbhamkmiagdimaaDoor
