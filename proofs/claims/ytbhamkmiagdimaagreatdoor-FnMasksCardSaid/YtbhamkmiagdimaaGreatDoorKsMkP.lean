
/- The words of all targets of a switch, plain: none is empty, no key is in two of them, the first one that has a key is that of its target. No walk. -/
import Derived.Test.YtbhamkmiagdimaaGreatDoorKsWordE
import Derived.Test.YtbhamkmiagdimaaGreatDoorKsFit
namespace Go.Proofs.YtbhamkmiagdimaaGreatDoor
open Go.RowKit Go.Shelf Go.Lib Go.Sort

theorem strOf_tgM {x : Int} (h0 : 0 ≤ x) (h1 : x ≤ 255) : tg0 (strOf [x]) = x := by
  have e : strOf [x] = ⟨#[UInt8.ofNat x.toNat]⟩ := rfl
  rw [e]
  have e2 : tg0 ⟨#[UInt8.ofNat x.toNat]⟩ = ((UInt8.ofNat x.toNat).toNat : Int) := rfl
  rw [e2, UInt8.toNat_ofNat']
  have a1 : x.toNat % 2 ^ 8 = x.toNat := Nat.mod_eq_of_lt (by omega)
  omega
theorem strOf_appendM (a b : List Int) : strOf (a ++ b) = strOf a ++ strOf b := by
  apply ByteArray.ext
  rw [ByteArray.data_append]
  apply Array.ext'
  rw [Array.toList_append, strOf_data, strOf_data, strOf_data, List.map_append]
theorem strOf_atM (l : List Int) {i : Nat} (hi : i < l.length) : (strOf l).extract i (i + 1) = strOf [l[i]] := by
  apply ByteArray.ext
  rw [ByteArray.data_extract]
  apply Array.ext'
  rw [Array.toList_extract, strOf_data, strOf_data, List.extract_eq_take_drop, ← List.map_drop, ← List.map_take, List.drop_eq_getElem_cons hi, Nat.add_sub_cancel_left]
  rfl
/-- The letters of all targets, ascending. -/
noncomputable def tgL (D : Array CaseD) (r : Int) : List Int := lettersZ D (decide (keysN D r < 32))
theorem tgL_str {D : Array CaseD} {r : Int} (h : SwOK D r) : targetsN D r = strOf (tgL D r) := by rw [targetsN, if_pos ((swB_iff _ _).2 h)]; rfl
theorem tgL_range {D : Array CaseD} {r x : Int} (hx : x ∈ tgL D r) : 97 ≤ x ∧ x ≤ 122 ∧ (x ≤ 104 ∨ x = 122) := by
  unfold tgL lettersZ at hx
  rcases List.mem_append.1 hx with h | h
  · have := lettersTo_range D x h; omega
  · split at h
    · rw [List.mem_singleton] at h; omega
    · cases h
theorem tgL_length (D : Array CaseD) (r : Int) : (tgL D r).length ≤ 9 := by
  have := lettersTo_length D 8
  unfold tgL lettersZ
  rw [List.length_append]
  split <;> simp <;> omega
theorem tgL_nodup (D : Array CaseD) (r : Int) : (tgL D r).Nodup := (lettersZ_asc D _).imp fun h => by omega
theorem letN_one {x : Int} (h : 97 ≤ x ∧ x ≤ 122 ∧ (x ≤ 104 ∨ x = 122)) : letN (strOf [x]) = true := by
  have e : tg0 (strOf [x]) = x := strOf_tgM (by omega) (by omega)
  have s : (strOf [x]).size = 1 := by rw [strOf_size]; rfl
  rw [letN, e, decide_eq_true s, Bool.true_and, Bool.or_eq_true]
  rcases h.2.2 with h1 | h1
  · left; simp only [tgtB, decide_eq_true_eq]; omega
  · right; simpa using h1
theorem mask_one {D : Array CaseD} {r x : Int} (h : SwOK D r) (hx : x ∈ tgL D r) : maskB D r (strOf [x]) = true ∧ maskN D r (strOf [x]) = ((wordN D x 32 : Nat) : Int) := by
  have hr := tgL_range hx
  have hb : maskB D r (strOf [x]) = true := by rw [maskB, (swB_iff _ _).2 h, letN_one hr]; rfl
  refine ⟨hb, ?_⟩
  rw [maskN, if_pos hb, strOf_tgM (by omega) (by omega)]
theorem word_pos {D : Array CaseD} {r x : Int} (h : SwOK D r) (hx : x ∈ tgL D r) : wordN D x 32 ≠ 0 := by
  obtain ⟨i, hi, e⟩ := (all_mem h x).1 hx
  intro h0
  have ht : (wordN D x 32).testBit i = true := by
    rw [wordN, bitsTo_test]
    simp [hi, e]
  rw [h0, Nat.zero_testBit] at ht
  cases ht
def mkL (D : Array CaseD) (l : List Int) : List Int := l.map fun x => ((wordN D x 32 : Nat) : Int)
theorem mkL_length (D : Array CaseD) (l : List Int) : (mkL D l).length = l.length := by simp [mkL]
theorem mkA_get (D : Array CaseD) (l : List Int) {j : Nat} (hj : j < l.length) : (mkL D l).toArray[j]! = ((wordN D l[j] 32 : Nat) : Int) := by
  have h : j < (mkL D l).toArray.size := by simpa [mkL] using hj
  rw [getElem!_pos _ j h]
  simp [mkL]
theorem mem_take_succ {l : List Int} {k : Nat} (hk : k < l.length) (x : Int) : x ∈ l.take (k + 1) ↔ x ∈ l.take k ∨ x = l[k] := by
  rw [List.take_succ_eq_append_getElem hk, List.mem_append, List.mem_singleton]
theorem tak_test (D : Array CaseD) (l : List Int) (i : Nat) : ∀ k, k ≤ l.length → (takN (mkL D l).toArray k).testBit i = (decide (i < 32) && decide (goB D i ∈ l.take k))
  | 0, _ => by simp [takN]
  | k + 1, hk => by
    have ih := tak_test D l i k (by omega)
    have hk' : k < l.length := by omega
    have hm : decide (goB D i ∈ l.take (k + 1)) = (decide (goB D i ∈ l.take k) || (goB D i == l[k])) := by
      rw [Bool.eq_iff_iff]
      simp only [decide_eq_true_eq, Bool.or_eq_true, beq_iff_eq]
      exact mem_take_succ hk' _
    rw [takN, Nat.testBit_or, ih, mkA_get D l hk', Int.toNat_natCast, wordN, bitsTo_test, hm]
    cases decide (i < 32) <;> simp
theorem and_zero {a b : Nat} (h : ∀ i, ¬ (a.testBit i = true ∧ b.testBit i = true)) : a &&& b = 0 := by
  apply Nat.eq_of_testBit_eq
  intro i
  rw [Nat.testBit_and, Nat.zero_testBit]
  have := h i
  cases h1 : a.testBit i <;> cases h2 : b.testBit i <;> simp_all
theorem fit_all {D : Array CaseD} {l : List Int} (hn : l.Nodup) : ∀ k, k ≤ l.length → fitTo (mkL D l).toArray k = true
  | 0, _ => rfl
  | k + 1, hk => by
    have ih := fit_all (D := D) hn k (by omega)
    have hk' : k < l.length := by omega
    rw [fitTo, ih, mkA_get D l hk', Int.toNat_natCast, Bool.true_and, Bool.and_eq_true]
    have hw := wordN_lt D l[k] (n := 32) (by omega)
    refine ⟨by simp [isW]; omega, ?_⟩
    rw [beq_iff_eq]
    refine and_zero fun i ⟨h1, h2⟩ => ?_
    rw [tak_test D l i k (by omega), Bool.and_eq_true, decide_eq_true_eq, decide_eq_true_eq] at h1
    rw [wordN, bitsTo_test, Bool.and_eq_true, decide_eq_true_eq, beq_iff_eq] at h2
    obtain ⟨j, hj, e⟩ := List.mem_iff_getElem.1 h1.2
    rw [List.length_take] at hj
    rw [List.getElem_take, h2.2] at e
    exact (List.pairwise_iff_getElem.1 hn) j k (by omega) hk' (by omega) e
theorem fit_masks (D : Array CaseD) (r : Int) : fitB (mkL D (tgL D r)).toArray = true := by
  have h := fit_all (D := D) (tgL_nodup D r) (tgL D r).length (Nat.le_refl _)
  unfold fitB
  have e : (mkL D (tgL D r)).toArray.size = (tgL D r).length := by simp [mkL]
  rw [e]
  exact h

/-- The letters of the first i targets that cases have. -/
noncomputable def ownL (l : List Int) (i : Nat) : ByteArray := strOf ((l.take i).filter fun x => x != 122)
theorem ownL_zero (l : List Int) : ownL l 0 = ⟨#[]⟩ := by simp [ownL]; rfl
theorem ownL_z {l : List Int} {i : Nat} (hi : i < l.length) (h : l[i] = 122) : ownL l (i + 1) = ownL l i := by
  rw [ownL, ownL, List.take_succ_eq_append_getElem hi, List.filter_append]
  simp [h]
theorem ownL_l {l : List Int} {i : Nat} (hi : i < l.length) (h : l[i] ≠ 122) : ownL l (i + 1) = ownL l i ++ strOf [l[i]] := by
  rw [ownL, ownL, List.take_succ_eq_append_getElem hi, List.filter_append, strOf_appendM]
  congr 2
  simp [h]
theorem ownL_full (D : Array CaseD) (r : Int) : ownL (tgL D r) (tgL D r).length = strOf (lettersTo D 8) := by
  rw [ownL, List.take_length]
  congr 1
  unfold tgL lettersZ
  rw [List.filter_append]
  have h1 : (lettersTo D 8).filter (fun x => x != 122) = lettersTo D 8 := by
    rw [List.filter_eq_self]
    intro x hx
    have := lettersTo_range D x hx
    simp
    omega
  rw [h1]
  split <;> simp
theorem ownL_size (l : List Int) (i : Nat) : (ownL l i).size ≤ i := by
  rw [ownL, strOf_size]
  exact Nat.le_trans (List.length_filter_le _ _) (by rw [List.length_take]; omega)

/-! what RunMasks answers -/
theorem goB_in {D : Array CaseD} {r : Int} (h : SwOK D r) (i : Nat) : goB D i ∈ lettersTo D 8 ∨ goB D i = 122 := by
  rcases atN_cases D (i : Int) with ⟨k, h1, h2, _, _⟩ | ⟨h1, _⟩
  · left
    rw [goB_hit h2, lettersTo_mem]
    have hl := caseB_letter (h.case k h1)
    exact ⟨(tgJ D k - 97).toNat, by unfold tgJ; omega, by unfold tgJ; omega, k, h1, rfl⟩
  · exact .inr (goB_miss h1)
theorem mrun_goes {D : Array CaseD} {r key : Int} {s : ByteArray} (h : mrunB D r key s = true) : mrunTN D r key s = targetN D r key ∧ mrunCN D r key s ≤ (strOf (lettersTo D 8)).size ∧ s.size = (strOf (lettersTo D 8)).size := by
  have h0 := h
  rw [mrunB, Bool.and_eq_true, Bool.and_eq_true] at h0
  have hok := (swB_iff _ _).1 h0.1.1
  have hw := (ordWB_iff _ _).1 h0.1.2
  have hk : 0 ≤ key ∧ key ≤ 31 := by simpa [keyB] using h0.2
  obtain ⟨q, rfl⟩ : ∃ q : Nat, key = q := ⟨key.toNat, by omega⟩
  have hsz : s.size = (strOf (lettersTo D 8)).size := by rw [strOf_size]; exact hw.1
  have htn : targetN D r (q : Int) = goesN D (q : Int) := by
    rw [targetN, if_pos]
    simp only [okN, Bool.and_eq_true]
    exact ⟨h0.1.1, h0.2⟩
  have hb := goesN_byte hok q
  have hgr := goB_range hok q
  rw [mrunTN, mrunCN, if_pos h, if_pos h, mrunT, mrunC, Int.toNat_natCast, htn]
  cases e : firstW D s q with
  | some k =>
    have hkm := List.mem_of_find?_eq_some e
    have hks : k < s.size := List.mem_range.1 hkm
    have hkb := List.find?_some e
    rw [beq_iff_eq] at hkb
    refine ⟨?_, by show (k : Int) + 1 ≤ _; omega, hsz⟩
    show s.extract k (k + 1) = _
    have e1 := extract_tg hks
    obtain ⟨b, e2⟩ := one_byte (extract_size1 hks)
    rw [e2] at e1
    have e3 : tg0 ⟨#[b]⟩ = (b.toNat : Int) := rfl
    rw [e2, hb]
    have e4 : (b.toNat : Int) = goB D q := by rw [← e3, e1]; exact hkb
    rw [← e4]
    simp
  | none =>
    refine ⟨?_, by show (s.size : Int) ≤ _; omega, hsz⟩
    show zS = _
    rcases goB_in hok q with hm | hm
    · exfalso
      have hl := ordW_list.1 hw
      have := nodup_onto hl.2.1 hl.2.2 (by rw [← hl.1]; exact Nat.le_of_eq (by simp)) hm
      obtain ⟨j, hj, e5⟩ := (mem_idx _ _).1 this
      rw [byA_size] at hj
      rw [byA_get hj] at e5
      have hn := (List.find?_eq_none.1 e) j (List.mem_range.2 hj)
      rw [e5] at hn
      simp at hn
    · rw [hb, hm]
      rfl
theorem mrun_bad {D : Array CaseD} {r key : Int} {s : ByteArray} (h : mrunB D r key s = false) : mrunTN D r key s = ⟨#[]⟩ ∧ mrunCN D r key s = 0 := by
  rw [mrunTN, mrunCN, if_neg (by rw [h]; exact Bool.false_ne_true), if_neg (by rw [h]; exact Bool.false_ne_true)]
  exact ⟨rfl, rfl⟩
end Go.Proofs.YtbhamkmiagdimaaGreatDoor
