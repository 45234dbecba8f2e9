
/- Plain: the insertion sort of any row, as insertions one by one; what a model's text of it is. No walk. · BestMasks of the model. · slices.SortStableFunc on at most eight bytes, by any comparison; BestMasks of the program. -/
import Derived.Test.YtbhamkmiagdimaaGreatDoorKsWordA
import Derived.Test.YtbhamkmiagdimaaGreatDoorKsBestP
import Derived.IntWalk
import Derived.Test.YtbhamkmiagdimaaGreatDoorKsWordW
import Derived.Test.YtbhamkmiagdimaaGreatDoorKsBytes
namespace Go.Proofs.YtbhamkmiagdimaaGreatDoor
open Go.RowKit Go.Shelf Go.Lib Go.Sort

def insTo (lt : Int → Int → Bool) (A : Array Int) : Nat → Array Int
  | 0 => A
  | i + 1 => moved (insTo lt A i) i (posA lt (insTo lt A i) i i)
theorem insTo_size (lt : Int → Int → Bool) (A : Array Int) : ∀ i, (insTo lt A i).size = A.size
  | 0 => rfl
  | i + 1 => by rw [insTo, moved_size, insTo_size lt A i]
theorem insTo_inner (lt : Int → Int → Bool) {A : Array Int} {i : Nat} (hi : i < A.size) : insInner lt 0 i (insTo lt A i) = insTo lt A (i + 1) := by
  have h := inner_moved lt (A := insTo lt A i) (i := i) (by rw [insTo_size]; exact hi) i (Nat.le_refl _)
  rw [moved_self] at h
  exact h
theorem insTo_outer (lt : Int → Int → Bool) (A : Array Int) : ∀ m i, A.size - i = m → i ≤ A.size → insOuter lt 0 A.size i (insTo lt A i) = insTo lt A A.size
  | 0, i, hm, hi => by
    obtain rfl : i = A.size := by omega
    exact insOuter_stop _ _ _ _ _ (by omega)
  | m + 1, i, hm, hi => by
    rw [insOuter_go _ _ _ _ _ (by omega), insTo_inner lt (by omega)]
    exact insTo_outer lt A m (i + 1) (by omega) (by omega)
theorem ins_sort (lt : Int → Int → Bool) (A : Array Int) : insertionSort lt A 0 A.size = insTo lt A A.size := by
  unfold insertionSort
  rcases Nat.eq_zero_or_pos A.size with h | h
  · rw [h]
    exact insOuter_stop _ _ _ _ _ (by omega)
  · have e : insTo lt A 1 = A := by
      rw [insTo, insTo, posA]
      exact moved_self
    have := insTo_outer lt A (A.size - 1) 1 rfl h
    rwa [e] at this
theorem insTo_rest (lt : Int → Int → Bool) (A : Array Int) : ∀ i j, i ≤ j → j < A.size → (insTo lt A i)[j]! = A[j]!
  | 0, _, _, _ => rfl
  | i + 1, j, hij, hj => by
    have hp := posA_le lt (insTo lt A i) i i
    rw [insTo, moved_get (by rw [insTo_size]; exact hj), if_neg (by omega), if_neg (by omega), if_neg (by omega)]
    exact insTo_rest lt A i j (by omega) hj
theorem insTo_all (lt : Int → Int → Bool) (A : Array Int) (Ok : Int → Prop) (hO : ∀ j, j < A.size → Ok A[j]!) : ∀ i, i ≤ A.size → ∀ j, j < A.size → Ok (insTo lt A i)[j]!
  | 0, _, j, hj => hO j hj
  | i + 1, hi, j, hj => by
    have ih := insTo_all lt A Ok hO i (by omega)
    rw [insTo, moved_get (by rw [insTo_size]; exact hj)]
    split
    · exact ih j hj
    · split
      · exact ih i (by omega)
      · split
        · exact ih (j - 1) (by omega)
        · exact ih j hj

/-- The first i elements behind i insertions. -/
def outL (lt : Int → Int → Bool) (A : Array Int) (i : Nat) : List Int := (insTo lt A i).toList.take i
theorem outL_length (lt : Int → Int → Bool) (A : Array Int) {i : Nat} (hi : i ≤ A.size) : (outL lt A i).length = i := by
  rw [outL, List.length_take, Array.length_toList, insTo_size]
  omega
theorem outL_get (lt : Int → Int → Bool) (A : Array Int) {i j : Nat} (hi : i ≤ A.size) (hj : j < i) : (outL lt A i)[j]'(by rw [outL_length lt A hi]; exact hj) = (insTo lt A i)[j]! := by
  have h : j < (insTo lt A i).size := by rw [insTo_size]; omega
  simp [outL, h]
theorem outL_succ (lt : Int → Int → Bool) (A : Array Int) {i : Nat} (hi : i < A.size) {k : Nat} (hk : k = posA lt (insTo lt A i) i i) : outL lt A (i + 1) = (outL lt A i).take k ++ [A[i]!] ++ (outL lt A i).drop k := by
  have hp := posA_le lt (insTo lt A i) i i
  rw [← hk] at hp
  have hl := outL_length lt A (i := i) (by omega)
  have hl2 := outL_length lt A (i := i + 1) (by omega)
  apply List.ext_getElem
  · simp only [List.length_append, List.length_take, List.length_drop, List.length_singleton, hl, hl2]
    omega
  · intro j h1 h2
    rw [hl2] at h1
    rw [outL_get lt A (by omega) h1, insTo, ← hk, moved_get (by rw [insTo_size]; omega)]
    by_cases c1 : j < k
    · rw [if_pos c1, List.getElem_append_left (by simp [hl]; omega), List.getElem_append_left (by simp [hl]; omega), List.getElem_take, outL_get lt A (by omega) (by omega)]
    · rw [if_neg c1]
      by_cases c2 : j = k
      · subst c2
        rw [if_pos rfl, insTo_rest lt A i i (Nat.le_refl _) hi, List.getElem_append_left (by simp [hl]; omega), List.getElem_append_right (by simp [hl]; omega)]
        simp [hl]
      · rw [if_neg c2, if_pos (by omega), List.getElem_append_right (by simp [hl]; omega), List.getElem_drop, ← outL_get lt A (i := i) (by omega) (show j - 1 < i by omega)]
        congr 1
        simp [hl]
        omega

/-! texts of lists -/
theorem strOf_append (a b : List Int) : strOf (a ++ b) = strOf a ++ strOf b := by
  apply ByteArray.ext
  rw [ByteArray.data_append]
  apply Array.ext'
  rw [Array.toList_append, strOf_data, strOf_data, strOf_data, List.map_append]
theorem strOf_ext (l : List Int) (a b : Nat) : (strOf l).extract a b = strOf (l.extract a b) := by
  apply ByteArray.ext
  rw [ByteArray.data_extract]
  apply Array.ext'
  rw [Array.toList_extract, strOf_data, strOf_data, List.extract_eq_take_drop, List.extract_eq_take_drop, ← List.map_drop, ← List.map_take]
theorem strOf_take (l : List Int) (k : Nat) : (strOf l).extract 0 k = strOf (l.take k) := by
  rw [strOf_ext, List.extract_eq_take_drop]
  simp
theorem strOf_drop (l : List Int) (k : Nat) : (strOf l).extract k (strOf l).size = strOf (l.drop k) := by
  rw [strOf_ext, List.extract_eq_take_drop, strOf_size, List.take_of_length_le (by simp)]
theorem strOf_at (l : List Int) {i : Nat} (hi : i < l.length) : (strOf l).extract i (i + 1) = strOf [l[i]] := by
  rw [strOf_ext, List.extract_eq_take_drop, List.drop_eq_getElem_cons hi, Nat.add_sub_cancel_left]
  rfl
theorem strOf_tg {x : Int} (h0 : 0 ≤ x) (h1 : x ≤ 255) : tg0 (strOf [x]) = x := by
  have e : strOf [x] = ⟨#[UInt8.ofNat x.toNat]⟩ := rfl
  rw [e]
  have e2 : tg0 ⟨#[UInt8.ofNat x.toNat]⟩ = ((UInt8.ofNat x.toNat).toNat : Int) := rfl
  rw [e2, UInt8.toNat_ofNat']
  have a1 : x.toNat % 2 ^ 8 = x.toNat := Nat.mod_eq_of_lt (by omega)
  omega
theorem posA_stop {lt : Int → Int → Bool} {B : Array Int} {i k : Nat} (h : k = 0 ∨ lt B[i]! B[k - 1]! = false) : posA lt B i k = k := by
  cases k with
  | zero => rfl
  | succ k =>
    rcases h with h | h
    · cases h
    · rw [Nat.add_sub_cancel] at h
      rw [posA, if_neg (by rw [h]; exact Bool.false_ne_true)]
theorem posA_go {lt : Int → Int → Bool} {B : Array Int} {i k : Nat} (h0 : 0 < k) (h : lt B[i]! B[k - 1]! = true) : posA lt B i k = posA lt B i (k - 1) := by
  obtain ⟨q, rfl⟩ : ∃ q, k = q + 1 := ⟨k - 1, by omega⟩
  rw [Nat.add_sub_cancel] at h ⊢
  rw [posA, if_pos h]
end Go.Proofs.YtbhamkmiagdimaaGreatDoor

namespace Go.Proofs.YtbhamkmiagdimaaGreatDoor
open Go.RowKit Go.Shelf Go.Lib Go.Sort

theorem drop_empty (t x : ByteArray) : t.extract 0 0 ++ x = x := by
  apply ByteArray.ext
  simp [ByteArray.data_extract]
theorem retTgW {a c : ByteArray} {b e : Bool} (h : a = c) (h2 : b = e) : Ending.returned (.tuple #[.string a, .bool b]) = .returned (.tuple #[.string c, .bool e]) := by rw [h, h2]
/-- A target stands ahead of another if it weighs more. -/
def hvy (d : Array CaseD) (rest : Int) (x y : Int) : Bool := decide (wgtT d rest y < wgtT d rest x)
def letA (d : Array CaseD) : Array Int := (lettersTo d 8).toArray
theorem letA_size (d : Array CaseD) : (letA d).size = (lettersTo d 8).length := by simp [letA]
theorem letA_range (d : Array CaseD) : ∀ j, j < (letA d).size → 97 ≤ (letA d)[j]! ∧ (letA d)[j]! ≤ 104 := fun j hj => by
  have hj' : j < (lettersTo d 8).length := by rw [letA_size] at hj; exact hj
  have e : (letA d)[j]! = (lettersTo d 8)[j] := by rw [getElem!_pos _ j hj]; simp [letA]
  rw [e]
  exact lettersTo_range d _ (List.getElem_mem hj')
theorem letA_str (d : Array CaseD) : strOf (letA d).toList = strOf (lettersTo d 8) := by simp [letA]
def bestM (d : Array CaseD) (rest : Int) : ByteArray := strOf (insertionSort (hvy d rest) (letA d) 0 (letA d).size).toList
noncomputable def bestMN (d : Array CaseD) (rest : Int) : ByteArray := if swB d rest = true then bestM d rest else ⟨#[]⟩
theorem bestM_out (d : Array CaseD) (rest : Int) : bestM d rest = strOf (outL (hvy d rest) (letA d) (letA d).size) := by
  rw [bestM, ins_sort, outL, List.take_of_length_le]
  rw [Array.length_toList, insTo_size]
  exact Nat.le_refl _
theorem letA_at (d : Array CaseD) {i : Nat} (hi : i < (letA d).size) : (strOf (lettersTo d 8)).extract i (i + 1) = strOf [(letA d)[i]!] := by
  have h : i < (lettersTo d 8).length := by rw [letA_size] at hi; exact hi
  rw [strOf_at _ h]
  congr 2
  rw [getElem!_pos _ i hi]
  simp [letA]
theorem hvy_range {d : Array CaseD} {rest : Int} {i j : Nat} (hj : j < (letA d).size) : 97 ≤ (insTo (hvy d rest) (letA d) i)[j]! ∧ (insTo (hvy d rest) (letA d) i)[j]! ≤ 104 ∨ (letA d).size < i := by
  by_cases h : i ≤ (letA d).size
  · exact .inl (insTo_all _ _ (fun x => 97 ≤ x ∧ x ≤ 104) (letA_range d) i h j hj)
  · exact .inr (by omega)
theorem out_at {d : Array CaseD} {rest : Int} {i k : Nat} (hi : i ≤ (letA d).size) (hk : 0 < k) (hki : k ≤ i) : (strOf (outL (hvy d rest) (letA d) i)).extract (k - 1) k = strOf [(insTo (hvy d rest) (letA d) i)[k - 1]!] := by
  have hl := outL_length (hvy d rest) (letA d) hi
  have h := strOf_at (outL (hvy d rest) (letA d) i) (i := k - 1) (by rw [hl]; omega)
  rw [show k - 1 + 1 = k by omega] at h
  rw [h, outL_get _ _ hi (by omega)]

set_option maxRecDepth 100000 in
set_option maxHeartbeats 2000000 in
theorem specBestM_any (b off cap : Nat) (d : Array CaseD) (rest : Int) (w : World) (hR : RowC w b off d) (hcap : d.size ≤ cap) (hmax : cap ≤ maxLen) :
    Calls Tryz.prog 16 #[.agg #[.slice (some ⟨b, off, none⟩) d.size cap, .int .i64 rest]] w fun x w' => x = .returned (.tuple #[.string (bestMN d rest), .bool (swB d rest)]) ∧ RowKit.Below w.heap.size w w' := by
  have hv := fun W (hW : RowKit.Below w.heap.size w W) => specValid_any b off cap d rest W (hR.below hW) hcap hmax
  have HM := Lib.hid (fun ho (t : ByteArray) ht W (hW : RowKit.Below w.heap.size w W) => l7Weight_any b off cap d rest t W (hR.below hW) ho ht)
  have HOWN := Lib.hid (fun ho W (hW : RowKit.Below w.heap.size w W) => l7Own_any b off cap d rest W (hR.below hW) ho)
  obtain ⟨wa, hwa⟩ : ∃ wa, wa = w.alloc (.cells #[.slice (some ⟨b, off, none⟩) d.size cap, .int .i64 rest] 25) := ⟨_, rfl⟩
  have c0 : wa.cell? ⟨w.heap.size, 0, none⟩ = some (.slice (some ⟨b, off, none⟩) d.size cap) := by rw [hwa]; simp
  have c1 : wa.cell? ⟨w.heap.size, 1, none⟩ = some (.int .i64 rest) := by rw [hwa]; simp
  have hz : w.heap.size < wa.heap.size := by rw [hwa]; simp
  have hba : RowKit.Below w.heap.size w wa := by rw [hwa]; exact (Below.refl _ _).alloc (Nat.le_refl _) _
  have HA := Lib.hid hba
  have C0 := Lib.hid c0
  have C1 := Lib.hid c1
  have HWA := Lib.hid hwa
  clear hba c0 c1 hwa hR
  cases hsw : swB d rest
  all_goals
    rw [hsw] at hv
    have HV := Lib.hid hv
    have HS := Lib.hid hsw
    have a0 := C0.out
    have a1 := C1.out
    clear hv hsw
    go_enter Tryz.func16, Tryz.ntmps16
    go_wp2_with fail
    rw [← HWA.out]
    refine (HV.out _ HA.out).mono ?_
    rintro x w1 ⟨rfl, hb⟩
    have HB := Lib.hid (HA.out.trans (hb.mono HA.out.size))
    have HBA := Lib.hid hb
    have b0 := (hb.cell (p := ⟨w.heap.size, 0, none⟩) hz).trans C0.out
    have b1 := (hb.cell (p := ⟨w.heap.size, 1, none⟩) hz).trans C1.out
    clear hb a0 a1
    go_wp2_with fail
  · go_ret2
    exact ⟨retTgW (by rw [bestMN, if_neg (by rw [HS.out]; exact Bool.false_ne_true)]) rfl, HB.out⟩
  · have HO := Lib.hid ((swB_iff _ _).1 HS.out)
    refine (HOWN.out HO.out _ HB.out).mono ?_
    rintro x w2 ⟨rfl, hb⟩
    have HB2 := Lib.hid (HB.out.trans (hb.mono HB.out.size))
    have HBA2 := Lib.hid (HBA.out.trans (hb.mono HBA.out.size))
    clear hb b0 b1
    have hln := lettersTo_length d 8
    have hsz := strOf_size (lettersTo d 8)
    have HLA := Lib.hid (letA_size d)
    have HAT := Lib.hid (fun i => letA_at d (i := i))
    have HBN := Lib.hid (show bestMN d rest = bestM d rest by rw [bestMN, if_pos HS.out])
    obtain ⟨o, ho⟩ : ∃ o, o = strOf (lettersTo d 8) := ⟨_, rfl⟩
    rw [← ho] at hsz HAT ⊢
    have hon : o.size = (letA d).size := by rw [hsz, HLA.out]
    have ho8 : o.size ≤ 8 := by omega
    have ho8i : (o.size : Int) ≤ 8 := by omega
    have HON := Lib.hid hon
    clear ho hon hsz hln
    go_wp2_with fail
    go_loopw [5, 15] (fun v i wr => ∃ (q : Nat) (t : ByteArray), i = .int .i64 q ∧ q ≤ o.size ∧ v = .string t ∧ t.size = q ∧ Hid (t = strOf (outL (hvy d rest) (letA d) q)) ∧ Hid (RowKit.Below wa.heap.size wa wr)) (fun _ i _ => o.size - (intOf i).toNat)
    case atStart => exact ⟨0, ⟨#[]⟩, rfl, Nat.zero_le _, rfl, rfl, by simp [Hid, outL]; rfl, HBA2.out⟩
    case round =>
      obtain ⟨i, t, rfl, hi, rfl, hts, HT, HR3⟩ := hrel
      have HWW := Lib.hid (HA.out.trans (HR3.out.mono HA.out.size))
      by_cases hlt : i < o.size
      · have hii : (i : Int) < (o.size : Int) := by omega
        have hti : (t.size : Int) = i := by omega
        have HLT := Lib.hid hlt
        obtain ⟨B, hB⟩ : ∃ B, B = insTo (hvy d rest) (letA d) i := ⟨_, rfl⟩
        have HBE := Lib.hid hB
        have hBi : B[i]! = (letA d)[i]! := by rw [hB]; exact insTo_rest _ _ i i (Nat.le_refl _) (by rw [← HON.out]; exact hlt)
        have HBI := Lib.hid hBi
        clear hB hBi
        go_wp2_with fail
        go_loopw [7] (fun v wr2 => ∃ k : Nat, v = .int .i64 k ∧ k ≤ i ∧ Hid (posA (hvy d rest) B i k = posA (hvy d rest) B i i) ∧ Hid (RowKit.Below wa.heap.size wa wr2)) (fun v _ => (intOf v).toNat)
        case atStart => exact ⟨i, by rw [← hts], Nat.le_refl _, rfl, HR3.out⟩
        case round =>
          obtain ⟨k, rfl, hk, HP, HR4⟩ := hrel
          have HWW4 := Lib.hid (HA.out.trans (HR4.out.mono HA.out.size))
          have FIN := Lib.hid (fun (h : posA (hvy d rest) B i k = k) => (show t.extract 0 k ++ o.extract i (i + 1) ++ t.extract k i = strOf (outL (hvy d rest) (letA d) (i + 1)) by
            have hk2 : k = posA (hvy d rest) (insTo (hvy d rest) (letA d) i) i i := by rw [← HBE.out, ← HP.out, h]
            rw [outL_succ _ _ (by rw [← HON.out]; exact HLT.out) hk2, strOf_append, strOf_append, HAT.out i (by rw [← HON.out]; exact HLT.out), ← strOf_take, ← strOf_drop, ← HT.out, hts]))
          have hsz3 : ∀ h : k ≤ i, (t.extract 0 k ++ o.extract i (i + 1) ++ t.extract k i).size = i + 1 := fun h => by
            simp only [ByteArray.size_append, ByteArray.size_extract]
            omega
          have HSZ3 := Lib.hid (hsz3 hk)
          clear hsz3
          by_cases hk0 : 0 < k
          · have hki : (0 : Int) < (k : Int) := by omega
            have hkt : k ≤ t.size := by omega
            have zr : w.heap.size < wr.heap.size := by have := HR4.out.size; omega
            have q0 := fun p : BW wr => p.cell zr ((HR4.out.cell (p := ⟨w.heap.size, 0, none⟩) hz).trans C0.out)
            have q1 := fun p : BW wr => p.cell zr ((HR4.out.cell (p := ⟨w.heap.size, 1, none⟩) hz).trans C1.out)
            have hBk : 97 ≤ B[k - 1]! ∧ B[k - 1]! ≤ 104 := by
              rw [HBE.out]
              exact insTo_all _ _ (fun x => 97 ≤ x ∧ x ≤ 104) (letA_range d) i (by rw [← HON.out]; omega) (k - 1) (by rw [← HON.out]; omega)
            have hBi : 97 ≤ B[i]! ∧ B[i]! ≤ 104 := by
              rw [HBI.out]
              exact letA_range d i (by rw [← HON.out]; exact HLT.out)
            have e1 : t.extract (k - 1) k = strOf [B[k - 1]!] := by rw [HT.out, HBE.out]; exact out_at (by rw [← HON.out]; omega) hk0 hk
            have e2 : o.extract i (i + 1) = strOf [B[i]!] := by rw [HBI.out]; exact HAT.out i (by rw [← HON.out]; exact HLT.out)
            have s1 : (t.extract (k - 1) k).size = 1 := by rw [e1, strOf_size]; rfl
            have s2 : (o.extract i (i + 1)).size = 1 := by rw [e2, strOf_size]; rfl
            have g1 := fun p : BW wr => HM.out HO.out (t.extract (k - 1) k) s1 p.W (HWW4.out.trans (p.h.mono HWW4.out.size))
            have g2 := fun p : BW wr => HM.out HO.out (o.extract i (i + 1)) s2 p.W (HWW4.out.trans (p.h.mono HWW4.out.size))
            have t1 : tg0 (t.extract (k - 1) k) = B[k - 1]! := by rw [e1]; exact strOf_tg (by omega) (by omega)
            have t2 : tg0 (o.extract i (i + 1)) = B[i]! := by rw [e2]; exact strOf_tg (by omega) (by omega)
            rw [t1] at g1
            rw [t2] at g2
            have HLTE := Lib.hid (show hvy d rest B[i]! B[k - 1]! = decide (wgtT d rest B[k - 1]! < wgtT d rest B[i]!) from rfl)
            obtain ⟨u1, hu1⟩ : ∃ u, u = wgtT d rest B[k - 1]! := ⟨_, rfl⟩
            obtain ⟨u2, hu2⟩ : ∃ u, u = wgtT d rest B[i]! := ⟨_, rfl⟩
            rw [← hu1] at g1 HLTE
            rw [← hu2] at g2 HLTE
            have G1 := Lib.hid g1
            have G2 := Lib.hid g2
            clear hu1 hu2 g1 g2 e1 e2 s1 s2 t1 t2 hBk hBi
            have hs2 : IntKind.i64.wrap ((k : Int) - 1) = (k : Int) - 1 := IntWalk.i64_in _ (by omega)
            have hs3 : (0 : Int) ≤ (k : Int) - 1 := by omega
            have hs4 : ((k : Int) - 1).toNat = k - 1 := by omega
            by_cases hq : u1 < u2
            · have hqd : decide (u1 < u2) = true := decide_eq_true hq
              rw [hqd] at HLTE
              go_wp2_with fail
              refine wp_region_bw (by kernel_rfl) (by kernel_rfl) ?_
              repeat (go_big_quiet_step (first | (with_reducible refine bw_of (G1.out _)) | (with_reducible refine bw_of (G2.out _))))
              refine wpQuiet_nil ?_
              rintro _ ⟨⟨W', hBW⟩, rfl⟩
              have HBW := Lib.hid (HR4.out.trans (hBW.mono HR4.out.size))
              clear hBW
              go_wp2_with fail
              go_roundw
              case rel => exact ⟨k - 1, by first | rfl | go_num | (congr 1; omega), by omega, (show _ = _ by rw [← posA_go hk0 HLTE.out]; exact HP.out), HBW.out⟩
              case measure => simp [intOf]; omega
            · have hqd : decide (u1 < u2) = false := decide_eq_false hq
              rw [hqd] at HLTE
              have HFN := Lib.hid (FIN.out (posA_stop (.inr HLTE.out)))
              have HZ3 := HSZ3
              clear HSZ3
              go_wp2_with fail
              refine wp_region_bw (by kernel_rfl) (by kernel_rfl) ?_
              repeat (go_big_quiet_step (first | (with_reducible refine bw_of (G1.out _)) | (with_reducible refine bw_of (G2.out _))))
              refine wpQuiet_nil ?_
              rintro _ ⟨⟨W', hBW⟩, rfl⟩
              have HBW := Lib.hid (HR4.out.trans (hBW.mono HR4.out.size))
              clear hBW
              go_wp2_with fail
              go_quiet (fail)
              go_wp2_with fail
              go_roundw
              case rel => exact ⟨i + 1, _, by go_num, by have := HLT.out; omega, rfl, HZ3.out, HFN.out, below_drewN HBW.out _⟩
              case measure => simp [intOf]; omega
          · have hke : k = 0 := by omega
            subst hke
            have hfn := FIN.out (posA_stop (.inl rfl))
            have hz3 := HSZ3.out
            rw [drop_empty] at hfn hz3
            have HFN := Lib.hid hfn
            have HZ3 := Lib.hid hz3
            clear hfn hz3 HSZ3
            go_wp2_with fail
            go_quiet (fail)
            go_wp2_with fail
            go_quiet (fail)
            go_wp2_with fail
            go_roundw
            case rel => exact ⟨i + 1, _, by go_num, by have := HLT.out; omega, rfl, HZ3.out, HFN.out, below_drewN HR4.out _⟩
            case measure => simp [intOf]; omega
      · have hie : i = o.size := by omega
        subst hie
        go_wp2_with fail
        go_ret2
        exact ⟨retTgW (by rw [HBN.out, bestM_out, ← HON.out, HT.out]) rfl, HWW.out⟩
end Go.Proofs.YtbhamkmiagdimaaGreatDoor

namespace Go.Proofs.YtbhamkmiagdimaaGreatDoor
open Go.RowKit Go.Shelf Go.Lib Go.Sort

theorem grown_belowB {w w' : World} {r : Option Nat} (h : RowKit.Below w.heap.size w w') : w.grownBy w' r := ⟨h.os, h.tape, h.output, h.size, fun k hk _ => h.block k hk⟩
theorem holdsB_below {w w' : World} {g : Nat} {d : Array Int} (h : Holds encB w g 0 d) (hg : g < w.heap.size) (hb : RowKit.Below w.heap.size w w') : Holds encB w' g 0 d := fun j hj =>
  ⟨(hb.cell (p := ⟨g, 0 + j, none⟩) hg).trans (h j hj).1, (hb.frozen (p := ⟨g, 0 + j, none⟩) hg).trans (h j hj).2⟩
theorem ok_swpB {Ok : Int → Prop} {d : Array Int} {i j : Nat} (h : ∀ k, k < d.size → Ok d[k]!) (hi : i < d.size) (hj : j < d.size) : ∀ k, k < (swp d i j).size → Ok (swp d i j)[k]! := by
  intro k hk
  rw [swp_size] at hk
  by_cases he : i = j
  · subst he
    have e : (swp d i i)[k]! = d[k]! := by
      unfold swp
      by_cases h1 : k = i
      · subst h1; rw [getElem!_set_same _ _ _ (by simpa using hi)]
      · rw [getElem!_set_other _ _ _ _ h1, getElem!_set_other _ _ _ _ h1]
    rw [e]; exact h k hk
  · rw [swp_get hi hj he]
    split
    · exact h i hi
    · split
      · exact h j hj
      · exact h k hk

set_option maxRecDepth 100000 in
set_option maxHeartbeats 1000000 in
theorem insCmpB_any (g cap : Nat) (d : Array Int) (w : World) (hH : Holds encB w g 0 d) (hn : d.size ≤ 12) (fg : Nat) (cb : Array Value) (cf : Int → Int → Int) (Ok : Int → Prop)
    (hC : ∀ x y W, Ok x → Ok y → w.grownBy W (some g) → Calls Tryz.prog fg (#[.int .u8 x, .int .u8 y] ++ cb) W fun e w' => e = .returned (.int .i64 (cf x y)) ∧ RowKit.Below W.heap.size W w')
    (hO : ∀ j, j < d.size → Ok d[j]!) (hgs : g < w.heap.size) (eg : ∀ args w, (callFunc fg args).run Tryz.prog w = .ok (.enter fg args) w) :
    Calls Tryz.prog 125 #[.slice (some ⟨g, 0, none⟩) d.size cap, .int .i64 0, .int .i64 d.size, .func (.func fg) #[] cb] w fun e w' => e = .returned (.tuple #[]) ∧ Holds encB w' g 0 (insertionSort (ltOf cf) d 0 d.size) ∧ w.grownBy w' (some g) := by
  have HH0 := Lib.hid hH
  have hn' : (d.size : Int) ≤ 12 := by omega
  have HC := Lib.hid hC
  have HO := Lib.hid hO
  clear hH hC hO
  go_enter Tryz.func125, Tryz.ntmps125
  go_wp2
  go_loopw [8] (fun vi wr => ∃ (i : Nat) (dk : Array Int), vi = .int .i64 i ∧ 0 < i ∧ i ≤ d.size + 1 ∧ Hid (dk.size = d.size) ∧ Hid (Holds encB wr g 0 dk) ∧ Hid (w.grownBy wr (some g)) ∧ Hid (∀ j, j < dk.size → Ok dk[j]!) ∧ Hid (insOuter (ltOf cf) 0 d.size i dk = insOuter (ltOf cf) 0 d.size 1 d)) (fun vi _ => d.size + 1 - (intOf vi).toNat)
  case atStart => exact ⟨1, d, rfl, by omega, by omega, rfl, HH0.out, grown_reflB _ _, HO.out, rfl⟩
  case round =>
    obtain ⟨i, dk, rfl, hi0, hib, HK, HH, HG, HA, HOO⟩ := hrel
    by_cases hlt : i < d.size
    · go_wp2
      go_loopw [9] (fun vj wr2 => ∃ (j : Nat) (dj : Array Int), vj = .int .i64 j ∧ j ≤ i ∧ Hid (dj.size = d.size) ∧ Hid (Holds encB wr2 g 0 dj) ∧ Hid (w.grownBy wr2 (some g)) ∧ Hid (∀ j, j < dj.size → Ok dj[j]!) ∧ Hid (insInner (ltOf cf) 0 j dj = insInner (ltOf cf) 0 i dk)) (fun vj _ => (intOf vj).toNat)
      case atStart => exact ⟨i, dk, rfl, Nat.le_refl _, HK.out, HH.out, HG.out, HA.out, rfl⟩
      case round =>
        obtain ⟨j, dj, rfl, hji, HKj, HHj, HGj, HAj, HI⟩ := hrel
        have OUT := Lib.hid (fun (hs : j ≤ 0 ∨ ltOf cf dj[j]! dj[j - 1]! = false) => (show insOuter (ltOf cf) 0 d.size (i + 1) dj = insOuter (ltOf cf) 0 d.size 1 d by
          rw [← HOO.out, insOuter_go _ _ _ _ _ hlt, ← HI.out, insInner_stop _ _ _ _ hs]))
        by_cases hj0 : 0 < j
        · have hjs : j < dj.size := by rw [HKj.out]; omega
          have hjs1 : j - 1 < dj.size := by omega
          have x0 : wr.cell? ⟨g, 0 + j, none⟩ = some (.int .u8 dj[j]!) := (HHj.out j hjs).1
          have x1 : wr.cell? ⟨g, 0 + (j - 1), none⟩ = some (.int .u8 dj[j - 1]!) := (HHj.out (j - 1) hjs1).1
          have y0 := (HHj.out j hjs).2
          have y1 := (HHj.out (j - 1) hjs1).2
          have hgr : g < wr.heap.size := Nat.lt_of_lt_of_le hgs HGj.out.size
          simp only [Nat.zero_add] at x0 x1 y0 y1
          have oka := HAj.out j hjs
          have okb := HAj.out (j - 1) hjs1
          obtain ⟨a, ha⟩ : ∃ a, a = dj[j]! := ⟨_, rfl⟩
          obtain ⟨b, hb⟩ : ∃ b, b = dj[j - 1]! := ⟨_, rfl⟩
          rw [← ha] at x0 oka
          rw [← hb] at x1 okb
          have GC := Lib.hid fun p : BW wr => HC.out a b p.W oka okb (HGj.out.trans (grown_belowB p.h))
          have q0 := fun p : BW wr => p.cell hgr x0
          have q1 := fun p : BW wr => p.cell hgr x1
          have EA := Lib.hid ha
          have EB := Lib.hid hb
          have HJ := Lib.hid hjs
          have OKA := Lib.hid oka
          have OKB := Lib.hid okb
          have X0 := Lib.hid x0
          have X1 := Lib.hid x1
          have Y0 := Lib.hid y0
          have Y1 := Lib.hid y1
          clear ha hb hjs hjs1 oka okb x0 x1 y0 y1
          have hd0 : decide (0 < j) = true := by simp; omega
          have hs2 : IntKind.i64.wrap ((j : Int) - 1) = (j : Int) - 1 := IntWalk.i64_in _ (by omega)
          have hs3 : (0 : Int) ≤ (j : Int) - 1 := by omega
          have hs4 : ((j : Int) - 1).toNat = j - 1 := by omega
          have hs5 : (j : Int) - 1 < (d.size : Int) := by omega
          have hs6 : (j : Int) < (d.size : Int) := by omega
          have hs7 : (0 : Int) ≤ (j : Int) := by omega
          have HCF := Lib.hid (show ltOf cf a b = decide (cf a b < 0) from rfl)
          obtain ⟨r, hr⟩ : ∃ r, r = cf a b := ⟨_, rfl⟩
          rw [← hr] at GC HCF
          clear hr
          cases hq : decide (r < 0)
          all_goals
            rw [hq] at HCF
            go_wp2
            refine wp_region_bw (by kernel_rfl) (by kernel_rfl) ?_
            repeat (go_big_quiet_step (with_reducible refine bw_of (GC.out _)))
            refine wpQuiet_nil ?_
            rintro _ ⟨pp, rfl⟩
            have hBW := pp.h
            have x0 := (hBW.cell (p := ⟨g, j, none⟩) hgr).trans X0.out
            have x1 := (hBW.cell (p := ⟨g, j - 1, none⟩) hgr).trans X1.out
            have y0 := (hBW.frozen (p := ⟨g, j, none⟩) hgr).trans Y0.out
            have y1 := (hBW.frozen (p := ⟨g, j - 1, none⟩) hgr).trans Y1.out
            have HHW := Lib.hid (show Holds encB pp.W g 0 dj from holdsB_below HHj.out hgr hBW)
            have HGW := Lib.hid (HGj.out.trans (grown_belowB (r := some g) hBW))
            clear hBW q0 q1
            go_wp2
          · go_roundw
            case rel => exact ⟨i + 1, dj, by go_num, by omega, by omega, HKj.out, HHW.out, HGW.out, HAj.out, OUT.out (.inr (by rw [← EA.out, ← EB.out]; exact HCF.out))⟩
            case measure => simp [intOf]; omega
          · have hne1 : ¬ j = j - 1 := by omega
            have hne2 : ¬ j - 1 = j := by omega
            go_region
            all_goals go_wp2
            go_roundw
            case rel =>
              have hs := HJ.out
              have h1 := holds_setB (show Holds encB pp.W.drew g 0 dj from HHW.out) j b hs
              have h2 := holds_setB h1 (j - 1) a (by simp; omega)
              refine ⟨j - 1, swp dj j (j - 1), by first | rfl | go_num | (congr 1; omega), by omega, (show _ = _ by rw [size_swp]; exact HKj.out), (show Holds _ _ _ _ _ by unfold swp; rw [← EA.out, ← EB.out]; exact h2), grown_setB (grown_setB (grown_drew1B HGW.out) _ _) _ _, ok_swpB HAj.out hs (by omega), (show _ = _ from ?_)⟩
              rw [← HI.out, insInner_go (ltOf cf) 0 j dj hj0 (by rw [← EA.out, ← EB.out]; exact HCF.out)]
            case measure => simp [intOf]; omega
        · have hd0 : decide (0 < j) = false := by simp; omega
          go_wp2
          go_quiet (fail)
          go_wp2
          go_roundw
          case rel => exact ⟨i + 1, dj, by go_num, by omega, by omega, HKj.out, HHj.out, grown_drewB HGj.out _, HAj.out, OUT.out (.inl (by omega))⟩
          case measure => simp [intOf]; omega
    · go_wp2
      go_end0
      refine ⟨rfl, ?_, HG.out⟩
      have e : insertionSort (ltOf cf) d 0 d.size = dk := by
        unfold insertionSort
        rw [← HOO.out, insOuter_stop _ _ _ _ _ hlt]
      rw [e]
      exact HH.out

set_option maxHeartbeats 1000000 in
theorem stableB_any (g cap : Nat) (d : Array Int) (w : World) (hH : Holds encB w g 0 d) (hn : d.size ≤ 8) (fg : Nat) (cb : Array Value) (cf : Int → Int → Int) (Ok : Int → Prop)
    (hC : ∀ x y W, Ok x → Ok y → w.grownBy W (some g) → Calls Tryz.prog fg (#[.int .u8 x, .int .u8 y] ++ cb) W fun e w' => e = .returned (.int .i64 (cf x y)) ∧ RowKit.Below W.heap.size W w')
    (hO : ∀ j, j < d.size → Ok d[j]!) (hgs : g < w.heap.size) (eg : ∀ args w, (callFunc fg args).run Tryz.prog w = .ok (.enter fg args) w) :
    Calls Tryz.prog 93 #[.slice (some ⟨g, 0, none⟩) d.size cap, .int .i64 d.size, .func (.func fg) #[] cb] w fun e w' => e = .returned (.tuple #[]) ∧ Holds encB w' g 0 (insertionSort (ltOf cf) d 0 d.size) ∧ w.grownBy w' (some g) := by
  have hcon := Lib.hid (insCmpB_any g cap d w hH (by omega) fg cb cf Ok hC hO hgs eg)
  clear hH hC hO eg
  generalize insertionSort (ltOf cf) d 0 d.size = r at hcon ⊢
  have b1 : (d.size : Int) ≤ 8 := by omega
  go_enter Tryz.func93, Tryz.ntmps93
  go_wp2
  refine wp_loop_rounds 1 ?_
  rw [rounds_succ]
  go_wp2_with (go_at_call 125; refine hcon.out.mono ?_; rintro e w' ⟨rfl, h1, h2⟩; have H1 := Lib.hid h1; have H2 := Lib.hid h2; clear h1 h2)
  refine wp_loop_rounds 1 ?_
  rw [rounds_succ]
  go_wp2
  go_end0
  exact ⟨rfl, H1.out, H2.out⟩

set_option maxHeartbeats 400000 in
theorem sortStableB_any (g cap : Nat) (d : Array Int) (w : World) (hH : Holds encB w g 0 d) (hn : d.size ≤ 8) (fg : Nat) (cb : Array Value) (cf : Int → Int → Int) (Ok : Int → Prop)
    (hC : ∀ x y W, Ok x → Ok y → w.grownBy W (some g) → Calls Tryz.prog fg (#[.int .u8 x, .int .u8 y] ++ cb) W fun e w' => e = .returned (.int .i64 (cf x y)) ∧ RowKit.Below W.heap.size W w')
    (hO : ∀ j, j < d.size → Ok d[j]!) (hgs : g < w.heap.size) (eg : ∀ args w, (callFunc fg args).run Tryz.prog w = .ok (.enter fg args) w) :
    Calls Tryz.prog 54 #[.slice (some ⟨g, 0, none⟩) d.size cap, .func (.func fg) #[] cb] w fun e w' => e = .returned (.tuple #[]) ∧ Holds encB w' g 0 (insertionSort (ltOf cf) d 0 d.size) ∧ w.grownBy w' (some g) := by
  have hcon := Lib.hid (stableB_any g cap d w hH hn fg cb cf Ok hC hO hgs eg)
  clear hH hC hO eg
  generalize insertionSort (ltOf cf) d 0 d.size = r at hcon ⊢
  go_enter Tryz.func54, Tryz.ntmps54
  go_wp2_with (go_at_call 93; refine hcon.out.mono ?_; rintro e w' ⟨rfl, h1, h2⟩; have H1 := Lib.hid h1; have H2 := Lib.hid h2; clear h1 h2)
  go_end0
  exact ⟨rfl, H1.out, H2.out⟩


/-- The comparison of two targets: the heavier one first. -/
def hvyC (d : Array CaseD) (rest x y : Int) : Int := if wgtT d rest y < wgtT d rest x then -1 else if wgtT d rest x < wgtT d rest y then 1 else 0
theorem hvyC_lt (d : Array CaseD) (rest : Int) : ltOf (hvyC d rest) = hvy d rest := by
  funext x y
  show decide (hvyC d rest x y < 0) = decide (wgtT d rest y < wgtT d rest x)
  unfold hvyC
  by_cases h : wgtT d rest y < wgtT d rest x
  · rw [if_pos h]; simp [h]
  · rw [if_neg h]
    split <;> simp [h]

set_option maxRecDepth 100000 in
set_option maxHeartbeats 1000000 in
theorem hvyCmp_any (b off cap sb : Nat) (d : Array CaseD) (rest : Int) (x y : UInt8) (w : World) (hR : RowC w b off d) (hsb : sb < w.heap.size)
    (c0 : w.cell? ⟨sb, 0, none⟩ = some (.slice (some ⟨b, off, none⟩) d.size cap)) (c1 : w.cell? ⟨sb, 1, none⟩ = some (.int .i64 rest)) (hok : SwOK d rest) :
    Calls Tryz.prog 55 #[.int .u8 (x.toNat : Int), .int .u8 (y.toNat : Int), .pointer (some ⟨sb, 0, none⟩)] w fun e w' => e = .returned (.int .i64 (hvyC d rest (x.toNat : Int) (y.toNat : Int))) ∧ RowKit.Below w.heap.size w w' := by
  have gx := fun p : BW w => weightOf_any b off cap d rest x p.W (hR.below p.h) hok
  have gy := fun p : BW w => weightOf_any b off cap d rest y p.W (hR.below p.h) hok
  have HE := Lib.hid (show hvyC d rest (x.toNat : Int) (y.toNat : Int) = (if wgtT d rest (y.toNat : Int) < wgtT d rest (x.toNat : Int) then -1 else if wgtT d rest (x.toNat : Int) < wgtT d rest (y.toNat : Int) then 1 else 0) from rfl)
  obtain ⟨u, hu⟩ : ∃ u, u = wgtT d rest (x.toNat : Int) := ⟨_, rfl⟩
  obtain ⟨v, hv⟩ : ∃ v, v = wgtT d rest (y.toNat : Int) := ⟨_, rfl⟩
  rw [← hu] at gx HE
  rw [← hv] at gy HE
  have gz := fun p : BW w => (compare_any v u p.W).mono (fun e w' h => (⟨h.1, h.2 ▸ Below.refl _ _⟩ : e = _ ∧ RowKit.Below p.W.heap.size p.W w'))
  rw [← HE.out] at gz
  have GX := Lib.hid gx
  have GY := Lib.hid gy
  have GZ := Lib.hid gz
  have q0 := fun p : BW w => p.cell hsb c0
  have q1 := fun p : BW w => p.cell hsb c1
  clear hu hv gx gy gz hR hok c0 c1
  generalize hvyC d rest (x.toNat : Int) (y.toNat : Int) = r at HE GZ ⊢
  go_enter Tryz.func55, Tryz.ntmps55
  go_wp2_with fail
  refine wp_region_bw (by kernel_rfl) (by kernel_rfl) ?_
  repeat (go_big_quiet_step (first | (with_reducible refine bw_of (GX.out _)) | (with_reducible refine bw_of (GY.out _)) | (with_reducible refine bw_of (GZ.out _))))
  refine wpQuiet_nil ?_
  rintro _ ⟨⟨W', hBW⟩, rfl⟩
  have HBW := Lib.hid hBW
  clear hBW
  go_wp2
  go_ret
  exact ⟨rfl, HBW.out⟩

theorem byA_strOf {l : List Int} (hl : ∀ x ∈ l, 0 ≤ x ∧ x ≤ 255) : byA (strOf l) = l.toArray := by
  have hs : (byA (strOf l)).size = l.length := by rw [byA_size, strOf_size]
  refine Array.ext (by simpa using hs) fun j h1 h2 => ?_
  have hj : j < l.length := by omega
  have e : (byA (strOf l))[j] = (byA (strOf l))[j]! := by rw [getElem!_pos _ j h1]
  rw [e, byA_get (by rw [strOf_size]; exact hj), byteN_strOf l hl hj]
  simp
theorem targets_string {W : World} {g cap : Nat} (ns : List Int) (h : ∀ j v, (ns.map encB)[j]? = some v → W.cell? ⟨g, j, none⟩ = some v) :
    Sem.run Tryz.prog (convert 75 9 (.slice (some ⟨g, 0, none⟩) ns.length cap)) W = .ok (.string (strOf ns)) W := by
  have hl := run_loadCells_list (P := Tryz.prog) (w := W) ⟨g, 0, none⟩ (ns.map encB) (fun j v hj => by rw [Addr.add_lit, Nat.zero_add]; exact h j v hj)
  rw [List.length_map] at hl
  rw [run_convert_bytes_string _ _ _ _ _ _ _ Tryz.underlying75 Tryz.underlying59 Tryz.underlying9, run_bytesToString _ _ _ _ ns hl]
  rfl
theorem RowC.keptB {W W' : World} {g off : Nat} {d : Array CaseD} {row : Option Nat} (h : RowC W g off d) (hg : W.grownBy W' row) (hne : some g ≠ row) : RowC W' g off d := by
  have hc : ∀ j, W'.cell? ⟨g, j, none⟩ = W.cell? ⟨g, j, none⟩ := fun j => World.cell?_of_block (w := W) (hg.block g h.old hne)
  exact ⟨Nat.lt_of_lt_of_le h.old hg.size, fun j hj => (hc _).trans (h.low j hj), fun j hj => (hc _).trans (h.high j hj), fun j hj => (hc _).trans (h.target j hj), fun j hj => (hc _).trans (h.weight j hj)⟩
theorem byte_of {x : Int} (h0 : 0 ≤ x) (h1 : x ≤ 255) : ∃ c : UInt8, x = (c.toNat : Int) := ⟨UInt8.ofNat x.toNat, by
  rw [UInt8.toNat_ofNat']
  have a1 : x.toNat % 2 ^ 8 = x.toNat := Nat.mod_eq_of_lt (by omega)
  omega⟩

set_option maxRecDepth 100000 in
set_option maxHeartbeats 2000000 in
theorem implBestM_any (b off cap : Nat) (d : Array CaseD) (rest : Int) (w : World) (hR : RowC w b off d) (hE : ErrAt w) (hcap : d.size ≤ cap) (hmax : cap ≤ maxLen) :
    Calls Tryz.prog 15 #[.agg #[.slice (some ⟨b, off, none⟩) d.size cap, .int .i64 rest]] w fun x w' => x = .returned (.tuple #[.string (bestMN d rest), .bool (swB d rest)]) ∧ RowKit.Below w.heap.size w w' := by
  have hv := fun W (hW : RowKit.Below w.heap.size w W) => switchValid_any b off cap d rest W (hR.below hW) (hE.below hW) hcap hmax
  have HCT := Lib.hid (fun hok W (hW : RowKit.Below w.heap.size w W) => caseTargets_any b off cap d rest W (hR.below hW) (hE.below hW) hcap hmax hok)
  have HRR := Lib.hid hR
  obtain ⟨wa, hwa⟩ : ∃ wa, wa = w.alloc (.cells #[.slice (some ⟨b, off, none⟩) d.size cap, .int .i64 rest] 25) := ⟨_, rfl⟩
  have c0 : wa.cell? ⟨w.heap.size, 0, none⟩ = some (.slice (some ⟨b, off, none⟩) d.size cap) := by rw [hwa]; simp
  have c1 : wa.cell? ⟨w.heap.size, 1, none⟩ = some (.int .i64 rest) := by rw [hwa]; simp
  have hz : w.heap.size < wa.heap.size := by rw [hwa]; simp
  have hba : RowKit.Below w.heap.size w wa := by rw [hwa]; exact (Below.refl _ _).alloc (Nat.le_refl _) _
  have HA := Lib.hid hba
  have C0 := Lib.hid c0
  have C1 := Lib.hid c1
  have HWA := Lib.hid hwa
  clear hba c0 c1 hwa hR hE
  cases hsw : swB d rest
  all_goals
    rw [hsw] at hv
    have HV := Lib.hid hv
    have HS := Lib.hid hsw
    have a0 := C0.out
    have a1 := C1.out
    clear hv hsw
    go_enter Tryz.func15, Tryz.ntmps15
    go_wp2_with fail
    rw [← HWA.out]
    refine (HV.out _ HA.out).mono ?_
    rintro x w1 ⟨rfl, hb⟩
    have HB := Lib.hid (HA.out.trans (hb.mono HA.out.size))
    have HBA := Lib.hid hb
    have b0 := (hb.cell (p := ⟨w.heap.size, 0, none⟩) hz).trans C0.out
    have b1 := (hb.cell (p := ⟨w.heap.size, 1, none⟩) hz).trans C1.out
    clear hb a0 a1
    go_wp2_with fail
  · go_ret2
    exact ⟨retTgW (by rw [bestMN, if_neg (by rw [HS.out]; exact Bool.false_ne_true)]) rfl, HB.out⟩
  · have HO := Lib.hid ((swB_iff _ _).1 HS.out)
    refine (HCT.out HO.out _ HB.out).mono ?_
    rintro x w2 ⟨rfl, hb⟩
    have HB2 := Lib.hid (HB.out.trans (hb.mono HB.out.size))
    have HBA2 := Lib.hid (HBA.out.trans (hb.mono HBA.out.size))
    have hz2 := HBA2.out.size
    clear hb b0 b1
    have hlr : ∀ x ∈ lettersTo d 8, 0 ≤ x ∧ x ≤ 255 := fun x hx => by have := lettersTo_range d x hx; omega
    have hln := lettersTo_length d 8
    have hsz := strOf_size (lettersTo d 8)
    have hby : byA (strOf (lettersTo d 8)) = letA d := byA_strOf hlr
    have hla := letA_size d
    obtain ⟨o, ho⟩ : ∃ o, o = strOf (lettersTo d 8) := ⟨_, rfl⟩
    rw [← ho] at hsz hby ⊢
    have hon : o.size = (letA d).size := by rw [hsz, hla]
    have hcv := run_bytes_of_string (P := Tryz.prog) w2 9 75 59 o Tryz.underlying9 Tryz.underlying75 Tryz.underlying59
    obtain ⟨gc, hgc⟩ : ∃ gc, gc = grownCap w2 o.size 0 59 := ⟨_, rfl⟩
    rw [← hgc] at hcv
    have HON := Lib.hid hon
    have HBY := Lib.hid hby
    have H8 := Lib.hid (show (letA d).size ≤ 8 by omega)
    clear hgc ho hlr hln hsz hla hby hon
    go_wp2_with fail
    have hWh : ((w2.alloc (.cells (bytesRow o gc) 59 ((bytesRow o gc).size, (bytesRow o gc).size + 1))).drew).heap[w2.heap.size]? = some (.cells (bytesRow o gc) 59 ((bytesRow o gc).size, (bytesRow o gc).size + 1)) := World.alloc_heap_new w2 _
    have hWB : RowKit.Below wa.heap.size wa ((w2.alloc (.cells (bytesRow o gc) 59 ((bytesRow o gc).size, (bytesRow o gc).size + 1))).drew) := (HBA2.out.alloc hz2 _).drew
    have hWZ : ((w2.alloc (.cells (bytesRow o gc) 59 ((bytesRow o gc).size, (bytesRow o gc).size + 1))).drew).heap.size = w2.heap.size + 1 := by simp [World.drew]
    generalize ((w2.alloc (.cells (bytesRow o gc) 59 ((bytesRow o gc).size, (bytesRow o gc).size + 1))).drew) = W2 at hWh hWB hWZ ⊢
    have hH := holds_bytesRow hWh
    rw [HBY.out] at hH
    have HR2 := Lib.hid (HRR.out.below (HA.out.trans (hWB.mono HA.out.size)))
    have s0 := (hWB.cell (p := ⟨w.heap.size, 0, none⟩) hz).trans C0.out
    have s1 := (hWB.cell (p := ⟨w.heap.size, 1, none⟩) hz).trans C1.out
    have hbl : b < w2.heap.size := Nat.lt_of_lt_of_le HRR.out.old HB2.out.size
    have hsort := sortStableB_any w2.heap.size gc (letA d) W2 hH H8.out 55 #[.pointer (some ⟨w.heap.size, 0, none⟩)] (hvyC d rest) (fun z => ∃ c : UInt8, z = (c.toNat : Int))
      (by
        rintro x y W ⟨x', rfl⟩ ⟨y', rfl⟩ hg
        have hr : RowC W b off d := HR2.out.keptB hg (by intro e; cases e; omega)
        have hc : ∀ j, W.cell? ⟨w.heap.size, j, none⟩ = W2.cell? ⟨w.heap.size, j, none⟩ := fun j => World.cell?_of_block (w := W2) (hg.block w.heap.size (by omega) (by intro e; have e2 : w.heap.size = w2.heap.size := Option.some.inj e; omega))
        exact hvyCmp_any b off cap w.heap.size d rest x' y' W hr (Nat.lt_of_lt_of_le (by omega) hg.size) ((hc 0).trans s0) ((hc 1).trans s1) HO.out)
      (fun j hj => by have := letA_range d j hj; exact byte_of (by omega) (by omega)) (by omega) (enters_of Tryz.func55 (by kernel_rfl) rfl)
    rw [← HON.out, hvyC_lt] at hsort
    have HSORT := Lib.hid hsort
    have HWB := Lib.hid hWB
    have HW2Z := Lib.hid hWZ
    clear hsort hWh hWB hWZ hH s0 s1
    go_wp2_with fail
    refine HSORT.out.mono ?_
    rintro x w3 ⟨rfl, hbo, hg3⟩
    have hB3 : RowKit.Below wa.heap.size wa w3 := HWB.out.grown hg3 (by have := HW2Z.out; omega) (fun q hq => by cases hq; omega)
    have hfin : bestMN d rest = strOf (insertionSort (hvy d rest) (letA d) 0 (letA d).size).toList := by rw [bestMN, if_pos HS.out]; rfl
    have hqs : (insertionSort (hvy d rest) (letA d) 0 (letA d).size).size = (letA d).size := by rw [ins_sort, insTo_size]
    rw [HON.out] at hbo
    obtain ⟨q, hq⟩ : ∃ q, q = insertionSort (hvy d rest) (letA d) 0 (letA d).size := ⟨_, rfl⟩
    rw [← hq] at hbo hfin hqs
    clear hq
    have hql : q.toList.length = o.size := by rw [Array.length_toList, hqs, HON.out]
    have hcb := targets_string (W := w3) (g := w2.heap.size) (cap := gc) q.toList (fun j v hj => by
      have hj' : j < q.size := by have := (List.getElem?_eq_some_iff.1 hj).1; simpa using this
      have := (hbo j hj').1
      rw [Nat.zero_add] at this
      rw [this, ← hj]
      simp [hj'])
    rw [hql] at hcb
    have HFN := Lib.hid hfin
    have HWW := Lib.hid (HA.out.trans (hB3.mono HA.out.size))
    clear hbo hg3 hB3 hfin hqs hql
    go_wp2_with fail
    go_ret2
    exact ⟨retTgW HFN.out.symm rfl, HWW.out⟩
end Go.Proofs.YtbhamkmiagdimaaGreatDoor
