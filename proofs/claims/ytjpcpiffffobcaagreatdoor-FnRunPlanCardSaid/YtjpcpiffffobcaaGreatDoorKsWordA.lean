
/- Words of keys, plain: their bits, what a target weighs, orders of targets. No walk. · Orders of a switch's targets, plain: what sorted gives its letters. No walk. · Words: what l13Find, l7Own, l7Target, l7Mask, l7Weight of the model return. · Words: what l7Target, l7Mask, l7Weight of the model return. -/
import Derived.Test.YtjpcpiffffobcaaGreatDoorKsTgtA
import Derived.Test.YtjpcpiffffobcaaGreatDoorKsOrdQ
import Derived.Test.YtjpcpiffffobcaaGreatDoorKsBitP
import Derived.Test.YtjpcpiffffobcaaGreatDoorKsNumC
namespace Go.Proofs.YtjpcpiffffobcaaGreatDoor
open Go.RowKit Go.Shelf Go.Lib Go.Sort

/-! the words of a switch's targets -/
def wordN (d : Array CaseD) (t : Int) (n : Nat) : Nat := bitsTo (fun i => goB d i == t) n
theorem wordN_succ (d : Array CaseD) (t : Int) (n : Nat) : wordN d t (n + 1) = wordN d t n ||| (if goB d n = t then 2 ^ n else 0) := by
  unfold wordN
  rw [bitsTo]
  congr 1
  by_cases h : goB d n = t <;> simp [h]
theorem wordN_hit {d : Array CaseD} {t : Int} {n : Nat} (h : goB d n = t) : wordN d t (n + 1) = wordN d t n ||| 2 ^ n := by rw [wordN_succ, if_pos h]
theorem wordN_miss {d : Array CaseD} {t : Int} {n : Nat} (h : goB d n ≠ t) : wordN d t (n + 1) = wordN d t n := by rw [wordN_succ, if_neg h, Nat.or_zero]
theorem wordN_lt (d : Array CaseD) (t : Int) {n : Nat} (h : n ≤ 32) : wordN d t n < 4294967296 := bitsTo_32 _ h
theorem wordN_bit (d : Array CaseD) (t : Int) {i : Nat} (h : i < 32) : wordN d t 32 / 2 ^ i % 2 = if goB d i = t then 1 else 0 := by
  rw [testBit_div, wordN, bitsTo_test]
  by_cases e : goB d i = t <;> simp [h, e]

/-- The targets: a to h, and z. -/
def letN (s : ByteArray) : Bool := decide (s.size = 1) && (tgtB (tg0 s) || (tg0 s == 122))
theorem letN_size {s : ByteArray} (h : letN s = true) : s.size = 1 := by
  simp only [letN, Bool.and_eq_true, decide_eq_true_eq] at h
  exact h.1
theorem letN_range {s : ByteArray} (h : letN s = true) : 97 ≤ tg0 s ∧ tg0 s ≤ 122 := by
  simp only [letN, Bool.and_eq_true, Bool.or_eq_true, tgtB, decide_eq_true_eq, beq_iff_eq] at h
  omega
noncomputable def maskB (d : Array CaseD) (rest : Int) (s : ByteArray) : Bool := swB d rest && letN s
noncomputable def maskN (d : Array CaseD) (rest : Int) (s : ByteArray) : Int := if maskB d rest s = true then (wordN d (tg0 s) 32 : Int) else 0

/-! what a target weighs -/
def wgtE (d : Array CaseD) (t : Int) (j : Nat) : Int := if tgJ d j = t then d[j]!.weight else 0
def wgtS (d : Array CaseD) (t : Int) (k : Nat) : Int := sumTo (wgtE d t) k
theorem wgtS_hit {d : Array CaseD} {t : Int} {k : Nat} (h : tgJ d k = t) : wgtS d t (k + 1) = wgtS d t k + d[k]!.weight := by
  show sumTo _ k + wgtE d t k = _
  rw [wgtE, if_pos h]; rfl
theorem wgtS_miss {d : Array CaseD} {t : Int} {k : Nat} (h : tgJ d k ≠ t) : wgtS d t (k + 1) = wgtS d t k := by
  show sumTo _ k + wgtE d t k = _
  rw [wgtE, if_neg h]
  exact Int.add_zero _
theorem wgtS_le {d : Array CaseD} {rest : Int} (h : SwOK d rest) (t : Int) : ∀ k, k ≤ d.size → 0 ≤ wgtS d t k ∧ wgtS d t k ≤ 100 * k :=
  sumTo_le (n := d.size) fun j hj => by
    have := caseB_weight (h.case j hj)
    unfold wgtE
    split <;> omega
theorem wgtS_z {d : Array CaseD} {rest : Int} (h : SwOK d rest) : ∀ k, k ≤ d.size → wgtS d 122 k = 0
  | 0, _ => rfl
  | k + 1, hk => by
    have hl := caseB_letter (h.case k (by omega))
    rw [wgtS_miss (show tgJ d k ≠ 122 by unfold tgJ; omega), wgtS_z h k (by omega)]
/-- How often keys of a target come. -/
def wgtT (d : Array CaseD) (rest t : Int) : Int := if t = 122 then rest else wgtS d t d.size
theorem wgtT_le {d : Array CaseD} {rest : Int} (h : SwOK d rest) (t : Int) : 0 ≤ wgtT d rest t ∧ wgtT d rest t ≤ 800 := by
  have h1 := wgtS_le h t d.size (Nat.le_refl _)
  have h2 := h.size
  have h3 := h.rest
  simp only [wgtB, decide_eq_true_eq] at h3
  unfold wgtT
  split <;> omega
noncomputable def mwgtN (d : Array CaseD) (rest : Int) (s : ByteArray) : Int := if maskB d rest s = true then wgtT d rest (tg0 s) else -1
end Go.Proofs.YtjpcpiffffobcaaGreatDoor

namespace Go.Proofs.YtjpcpiffffobcaaGreatDoor
open Go.RowKit Go.Shelf Go.Lib Go.Sort

theorem nodup_sub : ∀ (l1 l2 : List Int), l1.Nodup → (∀ x ∈ l1, x ∈ l2) → l1.length ≤ l2.length
  | [], _, _, _ => Nat.zero_le _
  | a :: l1, l2, hn, hs => by
    rw [List.nodup_cons] at hn
    have ha : a ∈ l2 := hs a (List.mem_cons_self ..)
    have ih := nodup_sub l1 (l2.erase a) hn.2 fun x hx => (List.mem_erase_of_ne (fun e => hn.1 (by subst e; exact hx))).2 (hs x (List.mem_cons_of_mem _ hx))
    rw [List.length_erase_of_mem ha] at ih
    have : 0 < l2.length := List.length_pos_of_mem ha
    simp only [List.length_cons]
    omega
theorem nodup_onto {l1 l2 : List Int} (hn : l1.Nodup) (hs : ∀ x ∈ l1, x ∈ l2) (hl : l2.length ≤ l1.length) {x : Int} (hx : x ∈ l2) : x ∈ l1 := by
  by_cases h : x ∈ l1
  · exact h
  · exfalso
    have := nodup_sub l1 (l2.erase x) hn fun y hy => (List.mem_erase_of_ne (fun e => h (by subst e; exact hy))).2 (hs y hy)
    rw [List.length_erase_of_mem hx] at this
    have : 0 < l2.length := List.length_pos_of_mem hx
    omega

/-- A text's bytes as numbers. -/
def byA (s : ByteArray) : Array Int := s.data.map fun b => (b.toNat : Int)
theorem byA_size (s : ByteArray) : (byA s).size = s.size := by simp [byA]
theorem byA_get {s : ByteArray} {j : Nat} (h : j < s.size) : (byA s)[j]! = (byteN s j : Int) := by
  have h1 : j < (byA s).size := by rw [byA_size]; exact h
  have h2 : j < s.data.size := h
  rw [getElem!_pos (byA s) j h1]
  simp only [byA, Array.getElem_map, byteN]
  rw [getElem!_pos s.data j h2]
theorem byteN_lt (s : ByteArray) (j : Nat) : byteN s j < 256 := (s.data[j]!).toNat_lt
theorem byteN_get {s : ByteArray} {j : Nat} (h : j < s.size) : (s[j].toNat : Int) = (byteN s j : Int) := by
  have h2 : j < s.data.size := h
  rw [byteN, getElem!_pos s.data j h2]
  rfl
theorem strOf_byA (s : ByteArray) : strOf (byA s).toList = s := by
  apply ByteArray.ext
  apply Array.ext'
  rw [strOf_data]
  simp [byA, Function.comp_def]
theorem strOf_inj {l1 l2 : List Int} (h1 : ∀ x ∈ l1, 0 ≤ x ∧ x ≤ 255) (h2 : ∀ x ∈ l2, 0 ≤ x ∧ x ≤ 255) (h : strOf l1 = strOf l2) : l1 = l2 := by
  have e : l1.map (fun n => UInt8.ofNat n.toNat) = l2.map (fun n => UInt8.ofNat n.toNat) := by rw [← strOf_data, ← strOf_data, h]
  clear h
  induction l1 generalizing l2 with
  | nil => cases l2 with
    | nil => rfl
    | cons b l2 => simp at e
  | cons a l1 ih => cases l2 with
    | nil => simp at e
    | cons b l2 =>
      simp only [List.map_cons, List.cons.injEq] at e
      have ha := h1 a (List.mem_cons_self ..)
      have hb := h2 b (List.mem_cons_self ..)
      rw [ofNat_inj ha.1 ha.2 hb.1 hb.2 e.1, ih (fun x hx => h1 x (List.mem_cons_of_mem _ hx)) (fun x hx => h2 x (List.mem_cons_of_mem _ hx)) e.2]

/-- A text is an order of the words of a switch. -/
def OrdW (d : Array CaseD) (s : ByteArray) : Prop := s.size = (lettersTo d 8).length ∧ ∀ j, j < s.size → ((byteN s j : Int) ∈ lettersTo d 8 ∧ ∀ i, i < j → byteN s i ≠ byteN s j)
noncomputable def ordWB (d : Array CaseD) (s : ByteArray) : Bool := @decide (OrdW d s) (Classical.propDecidable _)
theorem ordWB_iff (d : Array CaseD) (s : ByteArray) : ordWB d s = true ↔ OrdW d s := @decide_eq_true_iff _ (Classical.propDecidable _)
theorem lettersTo_asc (d : Array CaseD) : (lettersTo d 8).Pairwise (· < ·) := by
  have := lettersZ_asc d false
  simpa [lettersZ] using this
theorem lettersTo_range (d : Array CaseD) (x : Int) (h : x ∈ lettersTo d 8) : 97 ≤ x ∧ x ≤ 104 := by
  obtain ⟨q, h1, h2, _⟩ := (lettersTo_mem d 8 x).1 h
  omega
theorem ordW_list {d : Array CaseD} {s : ByteArray} : OrdW d s ↔ (byA s).size = (lettersTo d 8).length ∧ (byA s).toList.Nodup ∧ ∀ x ∈ (byA s).toList, x ∈ lettersTo d 8 := by
  rw [nodup_idx, byA_size]
  constructor
  · rintro ⟨h1, h2⟩
    refine ⟨h1, fun j hj i hi => ?_, fun x hx => ?_⟩
    · rw [byA_get hj, byA_get (by omega)]
      have := (h2 j hj).2 i hi
      omega
    · obtain ⟨j, hj, e⟩ := (mem_idx _ x).1 hx
      rw [byA_size] at hj
      rw [← e, byA_get hj]
      exact (h2 j hj).1
  · rintro ⟨h1, h2, h3⟩
    refine ⟨h1, fun j hj => ⟨?_, fun i hi => ?_⟩⟩
    · have := h3 ((byA s)[j]!) ((mem_idx _ _).2 ⟨j, by rw [byA_size]; exact hj, rfl⟩)
      rwa [byA_get hj] at this
    · have := h2 j hj i hi
      rw [byA_get hj, byA_get (by omega)] at this
      omega
theorem ordW_sorted {d : Array CaseD} {s : ByteArray} : OrdW d s ↔ insertionSort ltZ (byA s) 0 (byA s).size = (lettersTo d 8).toArray := by
  rw [ordW_list]
  obtain ⟨h1, h2, h3⟩ := sort_perm (byA s)
  generalize insertionSort ltZ (byA s) 0 (byA s).size = q at h1 h2 h3 ⊢
  constructor
  · rintro ⟨a, b, c⟩
    have hq := (nodup_idx q).1 (h2.nodup_iff.2 b)
    have e : q.toList = lettersTo d 8 := by
      refine asc_ext ?_ (lettersTo_asc d) fun x => ⟨fun hx => c x (h2.mem_iff.1 hx), fun hx => h2.mem_iff.2 (nodup_onto b c (by rw [← a]; exact Nat.le_of_eq (by simp)) hx)⟩
      rw [List.pairwise_iff_getElem]
      intro i j hi hj hij
      rw [get_list, get_list]
      have hj' : j < q.size := by simpa using hj
      have u := h3 i j hij (by omega)
      have v := hq j hj' i hij
      omega
    rw [← e]
  · intro e
    subst e
    have hn : (lettersTo d 8).Nodup := (lettersTo_asc d).imp fun h => by omega
    refine ⟨by simpa using h1.symm, ?_, fun x hx => ?_⟩
    · exact h2.nodup_iff.1 (by simpa using hn)
    · have := h2.mem_iff.2 hx
      simpa using this
theorem byA_range (s : ByteArray) (x : Int) (h : x ∈ (byA s).toList) : 0 ≤ x ∧ x ≤ 255 := by
  obtain ⟨j, hj, e⟩ := (mem_idx _ x).1 h
  rw [byA_size] at hj
  rw [byA_get hj] at e
  have := byteN_lt s j
  omega
theorem ordW_text (d : Array CaseD) (s : ByteArray) : ((strOf (insertionSort ltZ (byA s) 0 (byA s).size).toList).toList == (strOf (lettersTo d 8)).toList) = ordWB d s := by
  rw [Bool.eq_iff_iff, ordWB_iff, ordW_sorted, beq_iff_eq]
  obtain ⟨h1, h2, h3⟩ := sort_perm (byA s)
  generalize insertionSort ltZ (byA s) 0 (byA s).size = q at h1 h2 h3 ⊢
  constructor
  · intro e
    have e2 : strOf q.toList = strOf (lettersTo d 8) := by
      apply ByteArray.ext
      apply Array.ext'
      rwa [ByteArray.toList_eq, ByteArray.toList_eq] at e
    have := strOf_inj (fun x hx => byA_range s x (h2.mem_iff.1 hx)) (fun x hx => by have := lettersTo_range d x hx; omega) e2
    rw [← this]
  · intro e
    rw [e]
theorem ordW_long {d : Array CaseD} {s : ByteArray} (h : 8 < s.size) : ordWB d s = false := by
  cases hb : ordWB d s with
  | false => rfl
  | true =>
    have := ((ordWB_iff d s).1 hb).1
    have := lettersTo_length d 8
    omega
/-- The order, byte by byte: each byte is a letter that is there. -/
theorem ordW_letter {d : Array CaseD} {s : ByteArray} (h : OrdW d s) {j : Nat} (hj : j < s.size) : 97 ≤ (byteN s j : Int) ∧ (byteN s j : Int) ≤ 104 := lettersTo_range d _ (h.2 j hj).1
end Go.Proofs.YtjpcpiffffobcaaGreatDoor

namespace Go.Proofs.YtjpcpiffffobcaaGreatDoor
open Go.RowKit Go.Shelf Go.Lib Go.Sort

/-! the first byte that is one -/
def findZ (s : ByteArray) (c : Int) : Int := match (List.range s.size).find? (fun j => (byteN s j : Int) == c) with | some k => (k : Int) | none => -1
theorem findZ_miss {s : ByteArray} {c : Int} (h : ∀ j, j < s.size → (byteN s j : Int) ≠ c) : findZ s c = -1 := by
  have e : (List.range s.size).find? (fun j => (byteN s j : Int) == c) = none := by
    rw [List.find?_eq_none]
    intro j hj
    have := h j (List.mem_range.1 hj)
    simpa using this
  rw [findZ, e]
theorem findZ_hit {s : ByteArray} {c : Int} {k : Nat} (hk : k < s.size) (h : (byteN s k : Int) = c) (hn : ∀ j, j < k → (byteN s j : Int) ≠ c) : findZ s c = k := by
  have e : (List.range s.size).find? (fun j => (byteN s j : Int) == c) = some k := by
    rw [List.find?_range_eq_some]
    refine ⟨by simpa using h, List.mem_range.2 hk, fun j hj => ?_⟩
    have := hn j hj
    simpa using this
  rw [findZ, e]
theorem findZ_cases (s : ByteArray) (c : Int) : (∃ k : Nat, k < s.size ∧ findZ s c = k ∧ (byteN s k : Int) = c) ∨ (findZ s c = -1 ∧ ∀ j, j < s.size → (byteN s j : Int) ≠ c) := by
  cases e : (List.range s.size).find? (fun j => (byteN s j : Int) == c) with
  | some k =>
    left
    refine ⟨k, List.mem_range.1 (List.mem_of_find?_eq_some e), by rw [findZ, e], ?_⟩
    have := List.find?_some e
    simpa using this
  | none =>
    right
    refine ⟨by rw [findZ, e], fun j hj => ?_⟩
    have := (List.find?_eq_none.1 e) j (List.mem_range.2 hj)
    simpa using this
theorem byteN_strOf (l : List Int) (hl : ∀ x ∈ l, 0 ≤ x ∧ x ≤ 255) {j : Nat} (hj : j < l.length) : (byteN (strOf l) j : Int) = l[j] := by
  have hs : j < (strOf l).data.size := by have := strOf_size l; have e : (strOf l).data.size = (strOf l).size := rfl; omega
  have e : (strOf l).data[j]! = UInt8.ofNat l[j].toNat := by
    rw [getElem!_pos _ j hs]
    have h2 := strOf_data l
    have h3 : (strOf l).data[j] = (strOf l).data.toList[j]'(by simpa using hs) := by simp
    rw [h3]
    simp [h2]
  rw [byteN, e]
  have := hl l[j] (List.getElem_mem hj)
  rw [UInt8.toNat_ofNat']
  have a1 : l[j].toNat % 2 ^ 8 = l[j].toNat := Nat.mod_eq_of_lt (by omega)
  omega
theorem findZ_in {l : List Int} (hl : ∀ x ∈ l, 0 ≤ x ∧ x ≤ 255) {c : Int} (h : c ∈ l) : 0 ≤ findZ (strOf l) c := by
  rcases findZ_cases (strOf l) c with ⟨k, _, e, _⟩ | ⟨_, h2⟩
  · omega
  · obtain ⟨j, hj, e⟩ := List.mem_iff_getElem.1 h
    exact absurd (by rw [byteN_strOf l hl hj, e]) (h2 j (by rw [strOf_size]; exact hj))
theorem findZ_out {l : List Int} (hl : ∀ x ∈ l, 0 ≤ x ∧ x ≤ 255) {c : Int} (h : c ∉ l) : findZ (strOf l) c < 0 := by
  rcases findZ_cases (strOf l) c with ⟨k, h1, _, h3⟩ | ⟨e, _⟩
  · rw [strOf_size] at h1
    rw [byteN_strOf l hl h1] at h3
    exact absurd (h3 ▸ List.getElem_mem h1) h
  · omega

set_option maxRecDepth 100000 in
set_option maxHeartbeats 1000000 in
theorem l13Find_any (s : ByteArray) (c : Int) (hs : s.size ≤ 1048576) (w : World) :
    Calls Tryz.prog 100 #[.string s, .int .u8 c] w fun x w' => x = .returned (.int .i64 (findZ s c)) ∧ w = w' := by
  have hsi : (s.size : Int) ≤ 1048576 := by omega
  go_enter Tryz.func100, Tryz.ntmps100
  go_wp2_with fail
  go_loopw [5] (fun i wr => ∃ k : Nat, i = .int .i64 k ∧ k ≤ s.size ∧ Hid (∀ j, j < k → (byteN s j : Int) ≠ c) ∧ wr = w) (fun i _ => s.size - (intOf i).toNat)
  case atStart => exact ⟨0, rfl, Nat.zero_le _, fun j hj => absurd hj (Nat.not_lt_zero _), rfl⟩
  case round =>
    obtain ⟨k, rfl, hk, HE, rfl⟩ := hrel
    by_cases hlt : k < s.size
    · have HB := Lib.hid (byteN_get hlt)
      have hki : (k : Int) < (s.size : Int) := by omega
      by_cases hq : (s[k].toNat : Int) = c
      · have HQ := Lib.hid hq
        have hq2 : ((s[k].toNat : Int) == c) = true := by simpa using hq
        clear hq
        go_wp2_with fail
        go_ret
        exact ⟨retI (findZ_hit hlt (by rw [← HB.out]; exact HQ.out) HE.out).symm, rfl⟩
      · have HQ := Lib.hid hq
        have hq2 : ((s[k].toNat : Int) == c) = false := by simpa using hq
        clear hq
        go_wp2_with fail
        go_roundw
        case rel =>
          refine ⟨k + 1, by go_num, by omega, (show Hid _ from fun j hj => ?_), trivial⟩
          by_cases e : j = k
          · subst e; rw [← HB.out]; exact HQ.out
          · exact HE.out j (by omega)
        case measure => simp [intOf]; omega
    · go_wp2_with fail
      go_ret
      exact ⟨retI (findZ_miss fun j hj => HE.out j (by omega)).symm, rfl⟩

/-! the letters of a switch, collected -/
def ownV (d : Array CaseD) (i k : Nat) : ByteArray := strOf (lettersTo d i ++ (if presTo d (97 + (i : Int)) k = true then [97 + (i : Int)] else []))
theorem ownV_zero (d : Array CaseD) (i : Nat) : ownV d i 0 = strOf (lettersTo d i) := by simp [ownV, presTo]
theorem ownV_full (d : Array CaseD) (i : Nat) : ownV d i d.size = strOf (lettersTo d (i + 1)) := by rw [ownV, lettersTo_succ]
theorem ownV_ne {d : Array CaseD} {i k : Nat} (h : tgJ d k ≠ 97 + (i : Int)) : ownV d i (k + 1) = ownV d i k := by
  have e : (tgJ d k == 97 + (i : Int)) = false := by simpa using h
  rw [ownV, ownV, presTo_succ, e, Bool.or_false]
theorem ownV_old {d : Array CaseD} {i k : Nat} (h : presTo d (97 + (i : Int)) k = true) : ownV d i (k + 1) = ownV d i k := by
  rw [ownV, ownV, presTo_succ, h, Bool.true_or]
theorem ownV_new {d : Array CaseD} {i k : Nat} (h : presTo d (97 + (i : Int)) k = false) (e : tgJ d k = 97 + (i : Int)) (b : UInt8) (hb : (b.toNat : Int) = 97 + (i : Int)) : ownV d i (k + 1) = ownV d i k ++ ⟨#[b]⟩ := by
  have e2 : (tgJ d k == 97 + (i : Int)) = true := by simpa using e
  rw [ownV, ownV, presTo_succ, e2, Bool.or_true, if_pos rfl, if_neg (by rw [h]; exact Bool.false_ne_true), List.append_nil, strOf_snoc, ← hb]
  simp
theorem letters_range {d : Array CaseD} {i k : Nat} (hi : i < 8) : ∀ x ∈ lettersTo d i ++ (if presTo d (97 + (i : Int)) k = true then [97 + (i : Int)] else []), 0 ≤ x ∧ x ≤ 255 := by
  intro x hx
  rcases List.mem_append.1 hx with h | h
  · obtain ⟨q, h1, h2, _⟩ := (lettersTo_mem d i x).1 h
    omega
  · split at h
    · rw [List.mem_singleton] at h; omega
    · cases h
theorem ownV_find {d : Array CaseD} {i k : Nat} (hi : i < 8) : decide (findZ (ownV d i k) (97 + (i : Int)) < 0) = !presTo d (97 + (i : Int)) k := by
  cases h : presTo d (97 + (i : Int)) k with
  | true =>
    have := findZ_in (letters_range (d := d) (k := k) hi) (c := 97 + (i : Int)) (List.mem_append_right _ (by rw [if_pos h]; exact List.mem_singleton.2 rfl))
    have h2 : 0 ≤ findZ (ownV d i k) (97 + (i : Int)) := this
    simp only [Bool.not_true, decide_eq_false_iff_not]
    omega
  | false =>
    have := findZ_out (letters_range (d := d) (k := k) hi) (c := 97 + (i : Int)) (fun hx => by
      rw [if_neg (by rw [h]; exact Bool.false_ne_true), List.append_nil] at hx
      obtain ⟨q, h1, h2, _⟩ := (lettersTo_mem d i _).1 hx
      omega)
    have h2 : findZ (ownV d i k) (97 + (i : Int)) < 0 := this
    simp only [Bool.not_false, decide_eq_true_eq]
    exact h2
theorem ownV_size (d : Array CaseD) (i k : Nat) : (ownV d i k).size ≤ i + 1 := by
  rw [ownV, strOf_size, List.length_append]
  have := lettersTo_length d i
  split <;> simp <;> omega
theorem case_byte {d : Array CaseD} {rest : Int} (h : SwOK d rest) {k : Nat} (hk : k < d.size) : ∃ b : UInt8, d[k]!.target = ⟨#[b]⟩ ∧ tgJ d k = (b.toNat : Int) := by
  have hc := h.case k hk
  simp only [caseB, oneB, Bool.and_eq_true, decide_eq_true_eq] at hc
  obtain ⟨b, hb⟩ := one_byte hc.1.1.1.1.1
  exact ⟨b, hb, by rw [tgJ, hb]; rfl⟩

end Go.Proofs.YtjpcpiffffobcaaGreatDoor

namespace Go.Proofs.YtjpcpiffffobcaaGreatDoor
open Go.RowKit Go.Shelf Go.Lib Go.Sort

theorem same_one {s t : ByteArray} (hs : s.size = 1) (ht : t.size = 1) : (s.toList == t.toList) = decide (tg0 s = tg0 t) := by
  obtain ⟨a, rfl⟩ := one_byte hs
  obtain ⟨b, rfl⟩ := one_byte ht
  rw [Bool.eq_iff_iff, beq_iff_eq, decide_eq_true_iff, ByteArray.toList_eq, ByteArray.toList_eq]
  have e1 : tg0 ⟨#[a]⟩ = (a.toNat : Int) := rfl
  have e2 : tg0 ⟨#[b]⟩ = (b.toNat : Int) := rfl
  rw [e1, e2]
  constructor
  · intro h
    have : a = b := by simpa using h
    rw [this]
  · intro h
    have : a = b := UInt8.toNat_inj.1 (by omega)
    rw [this]

theorem same_z {s : ByteArray} (hs : s.size = 1) : (s.toList == [122]) = decide (tg0 s = 122) := by
  have h := same_one (t := (⟨#[122]⟩ : ByteArray)) hs rfl
  have e : (⟨#[122]⟩ : ByteArray).toList = [122] := by rw [ByteArray.toList_eq]
  rw [e] at h
  exact h
theorem wrap64_pow {k : Nat} (h : k < 32) : wrap64 (2 ^ k) = ((2 ^ k : Nat) : Int) := by
  have h1 := pow_lt h
  have h2 : (2 : Int) ^ k = ((2 ^ k : Nat) : Int) := by simp
  rw [h2]
  generalize 2 ^ k = p at h1
  unfold wrap64
  omega

theorem caseW_size {c : CaseD} (h : caseB c = true) : c.target.size = 1 := by simp [caseB, oneB] at h; exact h.1.1.1.1.1
theorem wgtE_at (d : Array CaseD) (t : Int) (k : Nat) : wgtS d t (k + 1) = if tgJ d k = t then wgtS d t k + d[k]!.weight else wgtS d t k := by
  by_cases h : tgJ d k = t
  · rw [if_pos h, wgtS_hit h]
  · rw [if_neg h, wgtS_miss h]

/-! orders of targets -/
theorem byteN_extract {s : ByteArray} {k j : Nat} (hk : k ≤ s.size) (hj : j < k) : byteN (s.extract 0 k) j = byteN s j := by
  have h1 : j < (s.extract 0 k).data.size := by
    rw [ByteArray.data_extract, Array.size_extract]
    have : s.data.size = s.size := rfl
    omega
  have h2 : j < s.data.size := by have : s.data.size = s.size := rfl; omega
  rw [byteN, byteN, getElem!_pos _ j h1, getElem!_pos _ j h2]
  simp [ByteArray.data_extract]
theorem size_extract0 {s : ByteArray} {k : Nat} (hk : k ≤ s.size) : (s.extract 0 k).size = k := by
  rw [ByteArray.size_extract]
  omega
theorem findZ_own (d : Array CaseD) (c : Int) : (c ∈ lettersTo d 8 ∧ 0 ≤ findZ (strOf (lettersTo d 8)) c) ∨ (c ∉ lettersTo d 8 ∧ findZ (strOf (lettersTo d 8)) c < 0) := by
  have hr : ∀ x ∈ lettersTo d 8, 0 ≤ x ∧ x ≤ 255 := fun x hx => by have := lettersTo_range d x hx; omega
  by_cases h : c ∈ lettersTo d 8
  · exact .inl ⟨h, findZ_in hr h⟩
  · exact .inr ⟨h, findZ_out hr h⟩
theorem findZ_before {s : ByteArray} {k : Nat} (hk : k ≤ s.size) (c : Int) : ((∃ j, j < k ∧ (byteN s j : Int) = c) ∧ 0 ≤ findZ (s.extract 0 k) c) ∨ ((∀ j, j < k → (byteN s j : Int) ≠ c) ∧ findZ (s.extract 0 k) c < 0) := by
  rcases findZ_cases (s.extract 0 k) c with ⟨j, h1, h2, h3⟩ | ⟨h1, h2⟩
  · rw [size_extract0 hk] at h1
    rw [byteN_extract hk h1] at h3
    exact .inl ⟨⟨j, h1, h3⟩, by omega⟩
  · refine .inr ⟨fun j hj => ?_, by omega⟩
    have := h2 j (by rw [size_extract0 hk]; exact hj)
    rwa [byteN_extract hk hj] at this
theorem ordWB_no {d : Array CaseD} {s : ByteArray} (h : ¬ OrdW d s) : ordWB d s = false := by
  cases hb : ordWB d s with
  | false => rfl
  | true => exact absurd ((ordWB_iff d s).1 hb) h

end Go.Proofs.YtjpcpiffffobcaaGreatDoor
