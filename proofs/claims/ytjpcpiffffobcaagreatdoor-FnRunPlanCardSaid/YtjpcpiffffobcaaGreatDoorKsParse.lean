
/- The text of a valid switch, taken apart: cutting at a byte, the first letter, the numbers. No walk. · Reading by the model: l1Read of any text; of a case's text that case. · ParseSwitch of the model, of any text; of a valid switch's text that switch. -/
import Derived.Test.YtjpcpiffffobcaaGreatDoorKsText
import Derived.Test.YtjpcpiffffobcaaGreatDoorKsAt
import Derived.Test.YtjpcpiffffobcaaGreatDoorKsNumC
import Derived.Test.YtjpcpiffffobcaaGreatDoorKsFlow
import Derived.IntWalk
import Derived.Test.YtjpcpiffffobcaaGreatDoorKsFormat
import Derived.Test.YtjpcpiffffobcaaGreatDoorKsBoxS
import Derived.Deep.DeepCutAuto
namespace Go.Proofs.YtjpcpiffffobcaaGreatDoor
open Go.RowKit Go.Shelf Go.Lib Go.Sort

abbrev toL (s : ByteArray) : List UInt8 := s.data.toList
theorem toL_app (a b : ByteArray) : toL (a ++ b) = toL a ++ toL b := by simp [toL, ByteArray.data_append]
theorem toL_inj {a b : ByteArray} (h : toL a = toL b) : a = b := ByteArray.ext (Array.toList_inj.1 h)
theorem toL_len (s : ByteArray) : (toL s).length = s.size := by rw [toL, Array.length_toList]; rfl
theorem toL_get {s : ByteArray} {j : Nat} (h : j < s.size) : ((toL s)[j]'(by rw [toL_len]; exact h)).toNat = byteN s j := by
  rw [← byteN_eq h]
  simp [toL]
  rfl
theorem toL_extract (s : ByteArray) (f i : Nat) : toL (s.extract f i) = ((toL s).drop f).take (i - f) := by
  simp [toL, ByteArray.data_extract, Array.toList_extract, List.extract_eq_take_drop]

/-- A list cut at every c. -/
def cutB (c : UInt8) : List UInt8 → List (List UInt8)
  | [] => [[]]
  | a :: l => if a = c then [] :: cutB c l else match cutB c l with | [] => [[a]] | x :: r => (a :: x) :: r
theorem cutB_none {c : UInt8} : ∀ {l : List UInt8}, (∀ b ∈ l, b ≠ c) → cutB c l = [l]
  | [], _ => rfl
  | a :: l, h => by
    rw [cutB, if_neg (h a (by simp)), cutB_none (fun b hb => h b (by simp [hb]))]
theorem cutB_app {c : UInt8} (m : List UInt8) : ∀ {l : List UInt8}, (∀ b ∈ l, b ≠ c) → cutB c (l ++ c :: m) = l :: cutB c m
  | [], _ => by simp [cutB]
  | a :: l, h => by
    rw [List.cons_append, cutB, if_neg (h a (by simp)), cutB_app m (fun b hb => h b (by simp [hb]))]
theorem ofNat_byte {b : UInt8} {c : Nat} (hc : c < 256) : b = UInt8.ofNat c ↔ b.toNat = c := by
  constructor
  · rintro rfl; simp; omega
  · intro h; apply UInt8.toNat_inj.1; rw [h]; simp; omega
theorem cut_inv (s : ByteArray) (c : Nat) (hc : c < 256) : ∀ i, i ≤ s.size → (cutSt s c i).2 ≤ i ∧ cutB (UInt8.ofNat c) (toL s) = (cutSt s c i).1.map toL ++ cutB (UInt8.ofNat c) ((toL s).drop (cutSt s c i).2) ∧ ∀ j, (cutSt s c i).2 ≤ j → j < i → byteN s j ≠ c
  | 0, _ => by simp [cutSt]
  | i + 1, hi => by
    obtain ⟨h1, h2, h3⟩ := cut_inv s c hc i (by omega)
    have hi' : i < s.size := by omega
    have hne : ¬ i = s.size := by omega
    rw [cutSt]
    by_cases hb : byteN s i = c
    · rw [if_pos (.inr hb)]
      have hsplit : (toL s).drop (cutSt s c i).2 = ((toL s).drop (cutSt s c i).2).take (i - (cutSt s c i).2) ++ UInt8.ofNat c :: (toL s).drop (i + 1) := by
        have e1 := List.take_append_drop (i - (cutSt s c i).2) ((toL s).drop (cutSt s c i).2)
        have e2 : ((toL s).drop (cutSt s c i).2).drop (i - (cutSt s c i).2) = (toL s).drop i := by rw [List.drop_drop]; congr 1; omega
        have e3 : (toL s).drop i = UInt8.ofNat c :: (toL s).drop (i + 1) := by
          rw [List.drop_eq_getElem_cons (by rw [toL_len]; exact hi')]
          congr 1
          exact (ofNat_byte hc).2 ((toL_get hi').trans hb)
        rw [e2, e3] at e1
        exact e1.symm
      have hno : ∀ b ∈ ((toL s).drop (cutSt s c i).2).take (i - (cutSt s c i).2), b ≠ UInt8.ofNat c := fun b hb' e => by
        obtain ⟨j, hj, rfl⟩ := List.getElem_of_mem hb'
        rw [List.length_take, List.length_drop, toL_len] at hj
        rw [List.getElem_take, List.getElem_drop] at e
        have := (ofNat_byte hc).1 e
        rw [toL_get (by omega)] at this
        exact h3 _ (by omega) (by omega) this
      refine ⟨Nat.le_refl _, ?_, fun j hj1 hj2 => by simp only at hj1; omega⟩
      rw [h2, hsplit, cutB_app _ hno]
      simp [toL_extract]
    · rw [if_neg (by rintro (h | h) <;> contradiction)]
      refine ⟨by omega, h2, fun j hj1 hj2 => ?_⟩
      by_cases e : j = i
      · rw [e]; exact hb
      · exact h3 j hj1 (by omega)
theorem cutL_list (s : ByteArray) (c : Nat) (hc : c < 256) : (cutL s c).map toL = cutB (UInt8.ofNat c) (toL s) := by
  obtain ⟨h1, h2, h3⟩ := cut_inv s c hc s.size (Nat.le_refl _)
  rw [cutL, cutSt, if_pos (.inl rfl), h2, cutB_none (fun b hb' e => by
    obtain ⟨j, hj, rfl⟩ := List.getElem_of_mem hb'
    rw [List.length_drop, toL_len] at hj
    rw [List.getElem_drop] at e
    have := (ofNat_byte hc).1 e
    rw [toL_get (by omega)] at this
    exact h3 _ (by omega) (by omega) this)]
  simp only [List.map_append, List.map_cons, List.map_nil, toL_extract]
  congr 2
  rw [List.take_of_length_le]
  rw [List.length_drop, toL_len]
  omega
theorem map_toL_inj : ∀ {l m : List ByteArray}, l.map toL = m.map toL → l = m
  | [], [], _ => rfl
  | [], _ :: _, h => by simp at h
  | _ :: _, [], h => by simp at h
  | a :: l, b :: m, h => by
    simp only [List.map_cons, List.cons.injEq] at h
    rw [toL_inj h.1, map_toL_inj h.2]

/-! the bytes of a text -/
def dgT (b : UInt8) : Prop := 48 ≤ b.toNat ∧ b.toNat ≤ 57
theorem itoaS_bytes {n : Int} (h0 : 0 ≤ n) (h1 : n ≤ 99) : ∀ b ∈ toL (itoaS n), dgT b := by
  by_cases h : n ≤ 9
  · rw [itoaS_one h0 h]
    intro b hb
    simp [toL] at hb
    subst hb
    unfold dgT
    constructor <;> simp <;> omega
  · rw [itoaS_two (by omega) h1]
    intro b hb
    simp [toL] at hb
    rcases hb with rfl | rfl
    · unfold dgT; constructor <;> simp <;> omega
    · unfold dgT; constructor <;> simp <;> omega
theorem rangeS_bytes {lo hi : Int} (h0 : 0 ≤ lo) (h1 : lo ≤ 31) (h2 : 0 ≤ hi) (h3 : hi ≤ 31) : ∀ b ∈ toL (rangeS lo hi), dgT b ∨ b.toNat = 45 := by
  have a := itoaS_bytes h0 (show lo ≤ 99 by omega)
  have c := itoaS_bytes h2 (show hi ≤ 99 by omega)
  unfold rangeS
  split
  · exact fun b hb => .inl (a b hb)
  · intro b hb
    rw [toL_app, toL_app] at hb
    simp only [List.mem_append] at hb
    rcases hb with (hb | hb) | hb
    · exact .inl (a b hb)
    · right
      have : b = 45 := by simpa [dashS, toL] using hb
      rw [this]; rfl
    · exact .inl (c b hb)
theorem target_byte {c : CaseD} (h : caseB c = true) : ∃ b : UInt8, c.target = ⟨#[b]⟩ ∧ 97 ≤ b.toNat ∧ b.toNat ≤ 104 := by
  have h1 := caseB_target h
  simp only [caseB, oneB, Bool.and_eq_true, decide_eq_true_eq] at h
  have ht := h.1.1.1.1.2
  obtain ⟨b, hb⟩ := List.length_eq_one_iff.1 ((toL_len c.target).trans h1)
  have e : c.target = ⟨#[b]⟩ := toL_inj hb
  rw [e] at ht
  refine ⟨b, e, ?_⟩
  have h2 : tgtB (b.toNat : Int) = true := ht
  simp only [tgtB, decide_eq_true_eq] at h2
  omega
/-- No comma, no semicolon. -/
theorem textS_bytes {c : CaseD} (h : caseB c = true) : ∀ b ∈ toL (textS c), dgT b ∨ b.toNat = 45 ∨ (97 ≤ b.toNat ∧ b.toNat ≤ 104) := by
  obtain ⟨t, ht, h1, h2⟩ := target_byte h
  have a := rangeS_bytes (caseB_low h).1 (caseB_low h).2 (caseB_high h).1 (caseB_high h).2
  have c' := itoaS_bytes (caseB_weight h).1 (caseB_weight h).2
  intro b hb
  unfold textS at hb
  rw [toL_app, toL_app, ht] at hb
  simp only [List.mem_append] at hb
  rcases hb with (hb | hb) | hb
  · rcases a b hb with h3 | h3
    · exact .inl h3
    · exact .inr (.inl h3)
  · have : b = t := by simpa [toL] using hb
    rw [this]
    exact .inr (.inr ⟨h1, h2⟩)
  · exact .inl (c' b hb)
theorem byte_ne {b : UInt8} {c : Nat} (hc : c < 256) (h : b.toNat ≠ c) : b ≠ UInt8.ofNat c := fun e => h ((ofNat_byte hc).1 e)
theorem textS_no {c : CaseD} (h : caseB c = true) : (∀ b ∈ toL (textS c), b ≠ UInt8.ofNat 44) ∧ ∀ b ∈ toL (textS c), b ≠ UInt8.ofNat 59 := by
  have := textS_bytes h
  refine ⟨fun b hb => byte_ne (by decide) ?_, fun b hb => byte_ne (by decide) ?_⟩
  all_goals
    have h1 := this b hb
    unfold dgT at h1
    omega
theorem fmtTo_no {d : Array CaseD} {rest : Int} (h : SwOK d rest) : ∀ n, n ≤ d.size → ∀ b ∈ toL (fmtTo d n), b ≠ UInt8.ofNat 59
  | 0, _ => by intro b hb; simp [fmtTo, toL] at hb
  | 1, hn => (textS_no (h.case 0 (by omega))).2
  | n + 2, hn => by
    intro b hb
    have e : toL (fmtTo d (n + 2)) = toL (fmtTo d (n + 1)) ++ [44] ++ toL (textS d[n + 1]!) := by
      show toL ((fmtTo d (n + 1) ++ commaS) ++ textS d[n + 1]!) = _
      rw [toL_app, toL_app]; rfl
    rw [e] at hb
    simp only [List.mem_append, List.mem_singleton] at hb
    rcases hb with (hb | hb) | hb
    · exact fmtTo_no h (n + 1) (by omega) b hb
    · rw [hb]; decide
    · exact (textS_no (h.case (n + 1) (by omega))).2 b hb
theorem cut_fmt {d : Array CaseD} {rest : Int} (h : SwOK d rest) : cutL ((fmtTo d d.size ++ semiS) ++ itoaS rest) 59 = [fmtTo d d.size, itoaS rest] := by
  apply map_toL_inj
  have hr := h.rest
  simp only [wgtB, decide_eq_true_eq] at hr
  rw [cutL_list _ _ (by decide), toL_app, toL_app, List.append_assoc]
  show cutB (UInt8.ofNat 59) (toL (fmtTo d d.size) ++ (UInt8.ofNat 59 :: toL (itoaS rest))) = _
  rw [cutB_app _ (fmtTo_no h d.size (Nat.le_refl _)), cutB_none fun b hb => byte_ne (by decide) (by have := itoaS_bytes hr.1 hr.2 b hb; unfold dgT at this; omega)]
  rfl
theorem cutB_more {c : UInt8} (m : List UInt8) (hm : ∀ b ∈ m, b ≠ c) : ∀ (l : List UInt8), cutB c (l ++ c :: m) = cutB c l ++ [m]
  | [] => by simp [cutB, cutB_none hm]
  | a :: l => by
    have ih := cutB_more m hm l
    rw [List.cons_append, cutB, cutB, ih]
    by_cases e : a = c
    · simp [e]
    · simp only [if_neg e]
      cases hh : cutB c l with
      | nil =>
        exfalso
        cases l with
        | nil => simp [cutB] at hh
        | cons x l =>
          rw [cutB] at hh
          split at hh
          · cases hh
          · split at hh <;> cases hh
      | cons x r => rfl
theorem cut_list {d : Array CaseD} {rest : Int} (h : SwOK d rest) : ∀ n, n + 1 ≤ d.size → cutL (fmtTo d (n + 1)) 44 = texts d (n + 1) := by
  intro n hn
  apply map_toL_inj
  rw [cutL_list _ _ (by decide)]
  induction n with
  | zero =>
    show cutB _ (toL (textS d[0]!)) = _
    rw [cutB_none (textS_no (h.case 0 (by omega))).1]
    rfl
  | succ n ih =>
    have e : toL (fmtTo d (n + 2)) = toL (fmtTo d (n + 1)) ++ UInt8.ofNat 44 :: toL (textS d[n + 1]!) := by
      show toL ((fmtTo d (n + 1) ++ commaS) ++ textS d[n + 1]!) = _
      rw [toL_app, toL_app, List.append_assoc]; rfl
    rw [e, cutB_more _ (textS_no (h.case (n + 1) (by omega))).1, ih (by omega), texts_succ d (n + 1)]
    simp

/-! the parts of a case's text -/
theorem byteN_list (s : ByteArray) (j : Nat) (h : j < s.size) : byteN s j = ((toL s)[j]'(by rw [toL_len]; exact h)).toNat := (toL_get h).symm
theorem at_text {c : CaseD} (h : caseB c = true) {z : Int} (hz : AtT (textS c) z) : z = ((rangeS c.low c.high).size : Int) := by
  obtain ⟨t, ht, h1, h2⟩ := target_byte h
  have hr := rangeS_bytes (caseB_low h).1 (caseB_low h).2 (caseB_high h).1 (caseB_high h).2
  have e : toL (textS c) = toL (rangeS c.low c.high) ++ t :: toL (itoaS c.weight) := by
    unfold textS
    rw [toL_app, toL_app, ht, List.append_assoc]
    rfl
  have hl : (textS c).size = (rangeS c.low c.high).size + 1 + (itoaS c.weight).size := by
    rw [← toL_len, e, List.length_append, List.length_cons, toL_len, toL_len]; omega
  have hlt : ∀ j, j < (rangeS c.low c.high).size → letB (textS c) j = false := fun j hj => by
    have hb := byteN_list (textS c) j (by omega)
    have hg : (toL (textS c))[j]'(by rw [toL_len]; omega) = (toL (rangeS c.low c.high))[j]'(by rw [toL_len]; exact hj) := by
      simp only [e]
      rw [List.getElem_append_left]
    rw [hg] at hb
    have := hr _ (List.getElem_mem (by rw [toL_len]; exact hj))
    unfold dgT at this
    simp only [letB, Bool.and_eq_false_iff, decide_eq_false_iff_not]
    omega
  have hat : letB (textS c) (rangeS c.low c.high).size = true := by
    have hb := byteN_list (textS c) (rangeS c.low c.high).size (by omega)
    have hg : (toL (textS c))[(rangeS c.low c.high).size]'(by rw [toL_len]; omega) = t := by
      simp only [e]
      rw [List.getElem_append_right (by rw [toL_len]; exact Nat.le_refl _)]
      simp
    rw [hg] at hb
    simp only [letB, Bool.and_eq_true, decide_eq_true_eq]
    omega
  rcases hz with ⟨k, hk, rfl, hk1, hk2⟩ | ⟨rfl, hk⟩
  · have : k = (rangeS c.low c.high).size := by
      rcases Nat.lt_trichotomy k (rangeS c.low c.high).size with h3 | h3 | h3
      · rw [hlt k h3] at hk1; cases hk1
      · exact h3
      · rw [hk2 _ h3] at hat; cases hat
    rw [this]
  · rw [hk _ (by omega)] at hat; cases hat
theorem drop_past {α : Type} (t : α) (b : List α) : ∀ a : List α, (a ++ t :: b).drop (a.length + 1) = b
  | [] => rfl
  | _ :: a => drop_past t b a
theorem parts_text {c : CaseD} (h : caseB c = true) : (textS c).extract 0 (rangeS c.low c.high).size = rangeS c.low c.high ∧ (textS c).extract (rangeS c.low c.high).size ((rangeS c.low c.high).size + 1) = c.target ∧ (textS c).extract ((rangeS c.low c.high).size + 1) (textS c).size = itoaS c.weight ∧ (rangeS c.low c.high).size < (textS c).size := by
  obtain ⟨t, ht, h1, h2⟩ := target_byte h
  have e : toL (textS c) = toL (rangeS c.low c.high) ++ t :: toL (itoaS c.weight) := by
    unfold textS
    rw [toL_app, toL_app, ht, List.append_assoc]
    rfl
  have hl : (textS c).size = (rangeS c.low c.high).size + 1 + (itoaS c.weight).size := by
    rw [← toL_len, e, List.length_append, List.length_cons, toL_len, toL_len]; omega
  have el := toL_len (rangeS c.low c.high)
  refine ⟨toL_inj ?_, toL_inj ?_, toL_inj ?_, by omega⟩
  · rw [toL_extract, e, ← el]; simp
  · rw [toL_extract, e, ← el, ht]; simp [toL]
  · rw [toL_extract, e, ← el, hl]
    rw [← el, drop_past]
    have := toL_len (itoaS c.weight)
    exact List.take_of_length_le (by omega)
theorem cut_range {lo hi : Int} (h0 : 0 ≤ lo) (h1 : lo ≤ 31) (h2 : 0 ≤ hi) (h3 : hi ≤ 31) : cutL (rangeS lo hi) 45 = if lo = hi then [itoaS lo] else [itoaS lo, itoaS hi] := by
  apply map_toL_inj
  have nod : ∀ n : Int, 0 ≤ n → n ≤ 99 → ∀ b ∈ toL (itoaS n), b ≠ UInt8.ofNat 45 := fun n a c b hb => byte_ne (by decide) (by have := itoaS_bytes a c b hb; unfold dgT at this; omega)
  rw [cutL_list _ _ (by decide)]
  unfold rangeS
  by_cases e : lo = hi
  · rw [if_pos e, if_pos e, cutB_none (nod lo h0 (by omega))]; rfl
  · rw [if_neg e, if_neg e, toL_app, toL_app, List.append_assoc]
    show cutB (UInt8.ofNat 45) (toL (itoaS lo) ++ (UInt8.ofNat 45 :: toL (itoaS hi))) = _
    rw [cutB_app _ (nod lo h0 (by omega)), cutB_none (nod hi h2 (by omega))]
    rfl
theorem num_itoa {n : Int} (h0 : 0 ≤ n) (h1 : n ≤ 99) : plainB (itoaS n) ∧ (numTo (itoaS n) (itoaS n).size : Int) = n := by
  obtain ⟨i, rfl⟩ := Int.eq_ofNat_of_zero_le h0
  by_cases h : (i : Int) ≤ 9
  · have e : itoaS (i : Int) = ⟨#[UInt8.ofNat (48 + i)]⟩ := by
      rw [itoaS_one h0 h]; congr 4
    have hb : (UInt8.ofNat (48 + i)).toNat = 48 + i := by simp; omega
    rw [e]
    refine ⟨⟨Nat.le_refl 1, (by show 1 ≤ 17; decide), fun j hj => ?_, fun _ _ => rfl⟩, ?_⟩
    · have : j = 0 := by have : j < 1 := hj; omega
      subst this
      show 48 ≤ (UInt8.ofNat (48 + i)).toNat ∧ (UInt8.ofNat (48 + i)).toNat ≤ 57
      omega
    · show ((numTo _ 1 : Nat) : Int) = _
      have : byteN ⟨#[UInt8.ofNat (48 + i)]⟩ 0 = 48 + i := by simp [byteN]; omega
      simp only [numTo, this]
      omega
  · have e : itoaS (i : Int) = ⟨#[UInt8.ofNat (48 + i / 10), UInt8.ofNat (48 + i % 10)]⟩ := by
      rw [itoaS_two (by omega) h1]
      have a1 : (48 + (i : Int) / 10).toNat = 48 + i / 10 := by omega
      have a2 : (48 + (i : Int) % 10).toNat = 48 + i % 10 := by omega
      rw [a1, a2]
    have hb : (UInt8.ofNat (48 + i / 10)).toNat = 48 + i / 10 := by simp; omega
    have hb2 : (UInt8.ofNat (48 + i % 10)).toNat = 48 + i % 10 := by simp; omega
    rw [e]
    refine ⟨⟨(by show 0 < 2; decide), (by show 2 ≤ 17; decide), fun j hj => ?_, fun _ h3 => ?_⟩, ?_⟩
    · have hj2 : j < 2 := hj
      match j, hj2 with
      | 0, _ => show 48 ≤ (UInt8.ofNat (48 + i / 10)).toNat ∧ (UInt8.ofNat (48 + i / 10)).toNat ≤ 57; omega
      | 1, _ => show 48 ≤ (UInt8.ofNat (48 + i % 10)).toNat ∧ (UInt8.ofNat (48 + i % 10)).toNat ≤ 57; omega
    · exfalso
      have h4 : (UInt8.ofNat (48 + i / 10)).toNat = 48 := h3
      omega
    · show ((numTo _ 2 : Nat) : Int) = _
      have b0 : byteN ⟨#[UInt8.ofNat (48 + i / 10), UInt8.ofNat (48 + i % 10)]⟩ 0 = 48 + i / 10 := by simp [byteN]; omega
      have b1 : byteN ⟨#[UInt8.ofNat (48 + i / 10), UInt8.ofNat (48 + i % 10)]⟩ 1 = 48 + i % 10 := by simp [byteN]; omega
      simp only [numTo, b0, b1]
      omega
end Go.Proofs.YtjpcpiffffobcaaGreatDoor

namespace Go.Proofs.YtjpcpiffffobcaaGreatDoor
open Go.RowKit Go.Shelf Go.Lib Go.Sort

/-- A number read: whatever the text; exactly where it is plain. -/
def NumOf (s : ByteArray) (z : Int) (b : Bool) : Prop := ∀ n : Int, 0 ≤ n → n ≤ 99 → s = itoaS n → z = n ∧ b = true
theorem num_both (s : ByteArray) (hs : s.size ≤ 2000000) (w : World) :
    Calls Tryz.prog 117 #[.string s] w fun x w' => ∃ (z : Int) (b : Bool), x = .returned (.tuple #[.int .i64 z, .bool b]) ∧ NumOf s z b ∧ w' = w := by
  by_cases hp : ∃ n : Int, 0 ≤ n ∧ n ≤ 99 ∧ s = itoaS n
  · obtain ⟨n, h0, h1, rfl⟩ := hp
    obtain ⟨p1, p2⟩ := num_itoa h0 h1
    refine (num_plain _ p1 w).mono fun x w' ⟨hx, hw⟩ => ⟨_, _, hx, fun m m0 m1 e => ?_, hw⟩
    have := (num_itoa m0 m1).2
    rw [← e, p2] at this
    exact ⟨by rw [p2]; exact this, rfl⟩
  · exact (num_safe s hs w).mono fun x w' ⟨⟨z, b, hx⟩, hw⟩ => ⟨z, b, hx, fun n h0 h1 e => absurd ⟨n, h0, h1, e⟩ hp, hw⟩
theorem cutSt_sizes (s : ByteArray) (c : Nat) : ∀ i, ∀ p ∈ (cutSt s c i).1, p.size ≤ s.size
  | 0 => by simp [cutSt]
  | i + 1 => by
    intro p hp
    rw [cutSt] at hp
    split at hp
    · simp only [List.mem_append, List.mem_singleton] at hp
      rcases hp with hp | rfl
      · exact cutSt_sizes s c i p hp
      · simp only [ByteArray.size_extract]; omega
    · exact cutSt_sizes s c i p hp
theorem cutL_sizes (s : ByteArray) (c : Nat) : ∀ p ∈ cutL s c, p.size ≤ s.size := cutSt_sizes s c (s.size + 1)
theorem cutL_pos (s : ByteArray) (c : Nat) : ∃ m, (cutL s c).length = m + 1 := by
  refine ⟨(cutSt s c s.size).1.length, ?_⟩
  rw [cutL, cutSt, if_pos (.inl rfl)]
  simp
/-- A row of strings that the call has made. -/
theorem strs_row {w : World} {base : Nat} {v : Value} {l : List ByteArray} {m : Nat} (h : w.ownsRow base 9 1 v l.length (l.map encT)) (hm : l.length = m + 1) :
    ∃ g cap, v = .slice (some ⟨g, 0, none⟩) (m + 1) cap ∧ base ≤ g ∧ g < w.heap.size ∧ ∀ j (hj : j < l.length), w.cell? ⟨g, j, none⟩ = some (.string l[j]) := by
  rw [hm] at h
  obtain ⟨g, cap, rfl⟩ := ownsRow_succ h
  obtain ⟨h1, h2⟩ := World.ownsRow.lt h g rfl
  refine ⟨g, cap, rfl, h1, h2, fun j hj => ?_⟩
  have := World.ownsRow.cellAt h j (by omega)
  rw [this, List.getElem?_map, List.getElem?_eq_getElem hj]
  rfl
theorem strs_type {w : World} {base g n m cap : Nat} {xs : List Value} (h : w.ownsRow base 9 1 (.slice (some ⟨g, 0, none⟩) m cap) n xs) : ∃ cur, w.heap[g]? = some (.cells cur 9 (0, 0)) := by
  rcases h.2 with ⟨e, _⟩ | ⟨g', cap', cur, e, _, hg, _⟩
  · simp at e
  · simp only [Value.slice.injEq, Option.some.injEq, Addr.mk.injEq] at e
    obtain ⟨⟨rfl, _⟩, _⟩ := e
    exact ⟨_, hg⟩
theorem strs_apart {w : World} {base g k : Nat} {cur : Array Value} {u : Value} {xs : List Value} (hg : w.heap[g]? = some (.cells cur 9 (0, 0))) (hr : w.ownsRow base 67 4 u k xs) : u.ownBlock ≠ some g := by
  intro e
  rcases hr.2 with ⟨rfl, _⟩ | ⟨g', cap, cur', rfl, _, hg', _⟩
  · cases e
  · simp only [Value.ownBlock, Option.some.injEq] at e
    rw [e, hg] at hg'
    simp only [Option.some.injEq, Obj.cells.injEq] at hg'
    exact absurd hg'.2.1 (by decide)
def ReadOf (s : ByteArray) (c : CaseD) (ok : Bool) : Prop := c.target.size ≤ 1 ∧ ∀ cc, caseB cc = true → s = textS cc → c = cc ∧ ok = true

set_option maxRecDepth 100000 in
set_option maxHeartbeats 4000000 in
theorem l1Read_any (s : ByteArray) (hs : s.size ≤ 2000000) (w : World) :
    Calls Tryz.prog 116 #[.string s] w fun x w' => ∃ (c : CaseD) (ok : Bool), x = .returned (.tuple #[aggC c, .bool ok]) ∧ ReadOf s c ok ∧ RowKit.Below w.heap.size w w' := by
  obtain ⟨wa, hwa⟩ : ∃ wa, wa = w.alloc (.cells #[.int .i64 0, .int .i64 0, .string ⟨#[]⟩, .int .i64 0] 67) := ⟨_, rfl⟩
  have hba : RowKit.Below w.heap.size w wa := by rw [hwa]; exact (Below.refl _ _).alloc (Nat.le_refl _) _
  have d0 : wa.cell? ⟨w.heap.size, 0, none⟩ = some (.int .i64 0) := by rw [hwa]; simp
  have d1 : wa.cell? ⟨w.heap.size, 1, none⟩ = some (.int .i64 0) := by rw [hwa]; simp
  have d2 : wa.cell? ⟨w.heap.size, 2, none⟩ = some (.string ⟨#[]⟩) := by rw [hwa]; simp
  have d3 : wa.cell? ⟨w.heap.size, 3, none⟩ = some (.int .i64 0) := by rw [hwa]; simp
  have f0 : ∀ j, wa.frozen? ⟨w.heap.size, j, none⟩ = false := fun j => by rw [hwa]; simp [go_sem]
  have hz : w.heap.size < wa.heap.size := by rw [hwa]; simp
  have HWA := Lib.hid hwa
  have HBA := Lib.hid hba
  have D := Lib.hid (show _ ∧ _ ∧ _ ∧ _ ∧ _ from ⟨d0, d1, d2, d3, f0⟩)
  have HTA := Lib.hid (target_at s hs wa)
  clear hwa hba d0 d1 d2 d3 f0
  have hsi : (s.size : Int) ≤ 2000000 := by omega
  go_enter Tryz.func116, Tryz.ntmps116
  go_wp2_with fail
  rw [← HWA.out]
  refine HTA.out.mono ?_
  rintro x w1 ⟨z, rfl, hat, hb⟩
  have d0 := (hb.cell (p := ⟨w.heap.size, 0, none⟩) hz).trans D.out.1
  have d1 := (hb.cell (p := ⟨w.heap.size, 1, none⟩) hz).trans D.out.2.1
  have d2 := (hb.cell (p := ⟨w.heap.size, 2, none⟩) hz).trans D.out.2.2.1
  have d3 := (hb.cell (p := ⟨w.heap.size, 3, none⟩) hz).trans D.out.2.2.2.1
  have k0 := (hb.frozen (p := ⟨w.heap.size, 0, none⟩) hz).trans (D.out.2.2.2.2 0)
  have k1 := (hb.frozen (p := ⟨w.heap.size, 1, none⟩) hz).trans (D.out.2.2.2.2 1)
  have k2 := (hb.frozen (p := ⟨w.heap.size, 2, none⟩) hz).trans (D.out.2.2.2.2 2)
  have k3 := (hb.frozen (p := ⟨w.heap.size, 3, none⟩) hz).trans (D.out.2.2.2.2 3)
  have HB1 := Lib.hid (HBA.out.trans (hb.mono HBA.out.size))
  have hz1 : w.heap.size < w1.heap.size := Nat.lt_of_lt_of_le hz hb.size
  have HAT := Lib.hid (fun cc (h : caseB cc = true) (e : s = textS cc) => at_text h (e ▸ hat))
  clear hb D
  rcases hat with ⟨k, hk, rfl, _⟩ | ⟨rfl, _⟩
  · have hki : (k : Int) < (s.size : Int) := by omega
    have hki0 : (0 : Int) ≤ (k : Int) := by omega
    have hk1i : (k : Int) + 1 ≤ (s.size : Int) := by omega
    have hs1 : (s.extract 0 k).size ≤ 2000000 := by simp only [ByteArray.size_extract]; omega
    have hs3 : (s.extract (k + 1) s.size).size ≤ 2000000 := by simp only [ByteArray.size_extract]; omega
    have hsT : (s.extract k (k + 1)).size ≤ 1 := by simp only [ByteArray.size_extract]; omega
    have HCUT := Lib.hid (cut_any (s.extract 0 k) 45 (by decide) hs1 w1)
    have HN3 := Lib.hid (fun W => num_both (s.extract (k + 1) s.size) hs3 W)
    have hsz := cutL_sizes (s.extract 0 k) 45
    obtain ⟨m, hm⟩ := cutL_pos (s.extract 0 k) 45
    have hml := (cutSt_le (s.extract 0 k) 45 ((s.extract 0 k).size + 1)).2
    have hmb : (m : Int) ≤ 2000001 := by
      have : (cutL (s.extract 0 k) 45).length ≤ (s.extract 0 k).size + 1 := hml
      omega
    have HX := Lib.hid (fun cc (h : caseB cc = true) (e : s = textS cc) => by
      have hz := HAT.out cc h e
      have hkk : k = (rangeS cc.low cc.high).size := by omega
      obtain ⟨p1, p2, p3, p4⟩ := parts_text h
      rw [← hkk, ← e] at p1 p2 p3
      have hcr := cut_range (caseB_low h).1 (caseB_low h).2 (caseB_high h).1 (caseB_high h).2
      rw [← p1] at hcr
      exact (⟨hcr, p2, p3⟩ : cutL (s.extract 0 k) 45 = (if cc.low = cc.high then [itoaS cc.low] else [itoaS cc.low, itoaS cc.high]) ∧ s.extract k (k + 1) = cc.target ∧ s.extract (k + 1) s.size = itoaS cc.weight))
    obtain ⟨PL, hPL⟩ : ∃ PL, PL = cutL (s.extract 0 k) 45 := ⟨_, rfl⟩
    rw [← hPL] at HCUT hsz hm HX
    obtain ⟨s1, hs1e⟩ : ∃ t, t = s.extract 0 k := ⟨_, rfl⟩
    obtain ⟨sT, hsTe⟩ : ∃ t, t = s.extract k (k + 1) := ⟨_, rfl⟩
    obtain ⟨s3, hs3e⟩ : ∃ t, t = s.extract (k + 1) s.size := ⟨_, rfl⟩
    have HN1 := Lib.hid (fun W => num_both (PL[0]'(by omega)) (Nat.le_trans (hsz _ (List.getElem_mem _)) hs1) W)
    have HN2 := Lib.hid (fun W => num_both (PL[m]'(by omega)) (Nat.le_trans (hsz _ (List.getElem_mem _)) hs1) W)
    go_wp2_with fail
    refine HCUT.out.mono ?_
    rintro x w2 ⟨v, rfl, ho, hb2⟩
    obtain ⟨g, cp, rfl, hg, hgl, hcell⟩ := strs_row ho hm
    have HB2 := Lib.hid (HB1.out.trans (hb2.mono HB1.out.size))
    have e0 := (hb2.cell (p := ⟨w.heap.size, 0, none⟩) hz1).trans d0
    have e1 := (hb2.cell (p := ⟨w.heap.size, 1, none⟩) hz1).trans d1
    have e2 := (hb2.cell (p := ⟨w.heap.size, 2, none⟩) hz1).trans d2
    have e3 := (hb2.cell (p := ⟨w.heap.size, 3, none⟩) hz1).trans d3
    have j0 := (hb2.frozen (p := ⟨w.heap.size, 0, none⟩) hz1).trans k0
    have j1 := (hb2.frozen (p := ⟨w.heap.size, 1, none⟩) hz1).trans k1
    have j2 := (hb2.frozen (p := ⟨w.heap.size, 2, none⟩) hz1).trans k2
    have j3 := (hb2.frozen (p := ⟨w.heap.size, 3, none⟩) hz1).trans k3
    have x0 := hcell 0 (by omega)
    have xm := hcell m (by omega)
    have hz2 : w.heap.size < w2.heap.size := Nat.lt_of_lt_of_le hz1 hb2.size
    have hmi0 : (0 : Int) ≤ (m : Int) := by omega
    have hmi1 : (m : Int) < (m : Int) + 1 := by omega
    obtain ⟨p0, hp0⟩ : ∃ p, p = PL[0]'(by omega) := ⟨_, rfl⟩
    obtain ⟨pm, hpm⟩ : ∃ p, p = PL[m]'(by omega) := ⟨_, rfl⟩
    rw [← hp0] at x0 HN1
    rw [← hpm] at xm HN2
    have HY := Lib.hid (fun cc (h : caseB cc = true) (e : s = textS cc) => by
      obtain ⟨q1, q2, q3⟩ := HX.out cc h e
      refine (⟨?_, ?_, ?_, q2, q3⟩ : p0 = itoaS cc.low ∧ pm = itoaS cc.high ∧ m ≤ 1 ∧ s.extract k (k + 1) = cc.target ∧ s.extract (k + 1) s.size = itoaS cc.weight)
      · rw [hp0]; simp only [q1]; split <;> rfl
      · rw [hpm]
        by_cases hlh : cc.low = cc.high
        · rw [if_pos hlh] at q1
          have : m = 0 := by rw [q1] at hm; simp at hm; omega
          subst this
          simp only [q1]
          simp [hlh]
        · rw [if_neg hlh] at q1
          have : m = 1 := by rw [q1] at hm; simp at hm; omega
          subst this
          simp only [q1]
          rfl
      · have := congrArg List.length q1
        rw [hm] at this
        split at this <;> simp at this <;> omega)
    rw [← hsTe, ← hs3e] at HY
    clear ho hb2 d0 d1 d2 d3 k0 k1 k2 k3 hcell HX hPL hp0 hpm hsz hm hml
    go_wp2_with fail
    refine (HN1.out _).mono ?_
    rintro e w3 ⟨z1, b1, rfl, n1, rfl⟩
    have N1 := Lib.hid n1
    clear n1
    go_wp2_with fail
    refine (HN2.out _).mono ?_
    rintro e w3 ⟨z2, b2, rfl, n2, rfl⟩
    have N2 := Lib.hid n2
    clear n2
    go_wp2_with fail
    rw [← hs3e] at HN3 ⊢
    refine (HN3.out _).mono ?_
    rintro e w3 ⟨z3, b3, rfl, n3, rfl⟩
    have N3 := Lib.hid n3
    clear n3
    rw [← hsTe] at hsT
    clear hs1e hs3e
    have HFIN := Lib.hid (show ∀ cc, caseB cc = true → s = textS cc → (⟨z1, z2, sT, z3⟩ : CaseD) = cc ∧ b1 = true ∧ b2 = true ∧ b3 = true ∧ m ≤ 1 from fun cc h e => by
      obtain ⟨q1, q2, q3, q4, q5⟩ := HY.out cc h e
      have l1 := caseB_low h
      have l2 := caseB_high h
      have l3 := caseB_weight h
      obtain ⟨a1, a2⟩ := N1.out cc.low l1.1 (by omega) q1
      obtain ⟨a3, a4⟩ := N2.out cc.high l2.1 (by omega) q2
      obtain ⟨a5, a6⟩ := N3.out cc.weight l3.1 l3.2 q5
      exact ⟨by rw [a1, a3, a5, q4], a2, a4, a6, q3⟩)
    have HST := Lib.hid hsTe
    clear hsTe N1 N2 N3 HY HN1 HN2 HN3 x0 xm
    by_cases hm1 : m ≤ 1
    · have hmi : (m : Int) + 1 ≤ 2 := by omega
      cases b1 <;> cases b2 <;> cases b3
      all_goals
        go_wp2_with fail
        rw [← HST.out]
        obtain ⟨y0, y1, y2, y3⟩ := four_cells e0 e1 e2 e3 (.int .i64 z1) (.int .i64 z2) (.string sT) (.int .i64 z3)
        have HBZ := Lib.hid ((((HB2.out.setCell (p := ⟨w.heap.size, 0, none⟩) (Nat.le_refl _) (.int .i64 z1)).setCell (p := ⟨w.heap.size, 1, none⟩) (Nat.le_refl _) (.int .i64 z2)).setCell (p := ⟨w.heap.size, 2, none⟩) (Nat.le_refl _) (.string sT)).setCell (p := ⟨w.heap.size, 3, none⟩) (Nat.le_refl _) (.int .i64 z3))
        generalize (((w3.setCell ⟨w.heap.size, 0, none⟩ (.int .i64 z1)).setCell ⟨w.heap.size, 1, none⟩ (.int .i64 z2)).setCell ⟨w.heap.size, 2, none⟩ (.string sT)).setCell ⟨w.heap.size, 3, none⟩ (.int .i64 z3) = wz at y0 y1 y2 y3 HBZ ⊢
        refine bodyPost_ret (v := .tuple #[.agg #[.int .i64 z1, .int .i64 z2, .string sT, .int .i64 z3], .bool _]) (by simp [results, Tryz.results116, go_sem, y0, y1, y2, y3]; try rfl) rfl ⟨⟨z1, z2, sT, z3⟩, _, rfl, ⟨hsT, fun cc h e => ⟨(HFIN.out cc h e).1, ?_⟩⟩, HBZ.out⟩
        obtain ⟨_, a, b, c, _⟩ := HFIN.out cc h e
        first
          | rfl
          | exact a
          | exact b
          | exact c
    · have hmi : 2 < (m : Int) + 1 := by omega
      cases b1 <;> cases b2 <;> cases b3
      all_goals
        go_wp2_with fail
        rw [← HST.out]
        obtain ⟨y0, y1, y2, y3⟩ := four_cells e0 e1 e2 e3 (.int .i64 z1) (.int .i64 z2) (.string sT) (.int .i64 z3)
        have HBZ := Lib.hid ((((HB2.out.setCell (p := ⟨w.heap.size, 0, none⟩) (Nat.le_refl _) (.int .i64 z1)).setCell (p := ⟨w.heap.size, 1, none⟩) (Nat.le_refl _) (.int .i64 z2)).setCell (p := ⟨w.heap.size, 2, none⟩) (Nat.le_refl _) (.string sT)).setCell (p := ⟨w.heap.size, 3, none⟩) (Nat.le_refl _) (.int .i64 z3))
        generalize (((w3.setCell ⟨w.heap.size, 0, none⟩ (.int .i64 z1)).setCell ⟨w.heap.size, 1, none⟩ (.int .i64 z2)).setCell ⟨w.heap.size, 2, none⟩ (.string sT)).setCell ⟨w.heap.size, 3, none⟩ (.int .i64 z3) = wz at y0 y1 y2 y3 HBZ ⊢
        refine bodyPost_ret (v := .tuple #[.agg #[.int .i64 z1, .int .i64 z2, .string sT, .int .i64 z3], .bool _]) (by simp [results, Tryz.results116, go_sem, y0, y1, y2, y3]; try rfl) rfl ⟨⟨z1, z2, sT, z3⟩, _, rfl, ⟨hsT, fun cc h e => absurd (HFIN.out cc h e).2.2.2.2 hm1⟩, HBZ.out⟩
  · have HNO := Lib.hid (show ∀ cc, caseB cc = true → s = textS cc → False from fun cc h e => by have := HAT.out cc h e; omega)
    go_wp2_with fail
    obtain ⟨z0, z1, z2, z3⟩ := four_cells d0 d1 d2 d3 (.int .i64 0) (.int .i64 0) (.string ⟨#[]⟩) (.int .i64 0)
    have HBZ := Lib.hid ((((HB1.out.setCell (p := ⟨w.heap.size, 0, none⟩) (Nat.le_refl _) (.int .i64 0)).setCell (p := ⟨w.heap.size, 1, none⟩) (Nat.le_refl _) (.int .i64 0)).setCell (p := ⟨w.heap.size, 2, none⟩) (Nat.le_refl _) (.string ⟨#[]⟩)).setCell (p := ⟨w.heap.size, 3, none⟩) (Nat.le_refl _) (.int .i64 0))
    generalize (((w1.setCell ⟨w.heap.size, 0, none⟩ (.int .i64 0)).setCell ⟨w.heap.size, 1, none⟩ (.int .i64 0)).setCell ⟨w.heap.size, 2, none⟩ (.string ⟨#[]⟩)).setCell ⟨w.heap.size, 3, none⟩ (.int .i64 0) = wz at z0 z1 z2 z3 HBZ ⊢
    refine bodyPost_ret (v := .tuple #[.agg #[.int .i64 0, .int .i64 0, .string ⟨#[]⟩, .int .i64 0], .bool false]) (by simp [results, Tryz.results116, go_sem, z0, z1, z2, z3]) rfl ⟨⟨0, 0, ⟨#[]⟩, 0⟩, false, rfl, ⟨by decide, fun cc h e => (HNO.out cc h e).elim⟩, HBZ.out⟩
end Go.Proofs.YtjpcpiffffobcaaGreatDoor

namespace Go.Proofs.YtjpcpiffffobcaaGreatDoor
open Go.RowKit Go.Shelf Go.Lib Go.Sort

/-- What a text reads as. -/
def ParsesTo (s : ByteArray) (d : Array CaseD) (rest : Int) : Prop := SwOK d rest ∧ fmtN d rest = s
/-- Two results: the switch of a text, if there is one. -/
def Parse2 (s : ByteArray) (base : Nat) (w : World) (x : Ending) (w' : World) : Prop :=
  (∃ (d : Array CaseD) (rest : Int) (v : Value), ParsesTo s d rest ∧ x = .returned (.tuple #[.agg #[v, .int .i64 rest], .bool true]) ∧ OwnsC base v d.toList w' ∧ v ≠ .slice none 0 0 ∧ RowKit.Below base w w') ∨
  ((∀ d rest, ¬ ParsesTo s d rest) ∧ x = .returned (.tuple #[.agg #[.slice none 0 0, .int .i64 0], .bool false]) ∧ RowKit.Below base w w')
theorem fmtN_on {d : Array CaseD} {rest : Int} (h : SwOK d rest) : fmtN d rest = (fmtTo d d.size ++ semiS) ++ itoaS rest := by rw [fmtN, if_pos ((swB_iff _ _).2 h)]
theorem fmtN_pos {d : Array CaseD} {rest : Int} (h : SwOK d rest) : 0 < (fmtN d rest).size := by
  rw [fmtN_on h, size_app, size_app]
  have : semiS.size = 1 := rfl
  omega
theorem fmtTo_pos {d : Array CaseD} {rest : Int} (h : SwOK d rest) : ∀ n, 0 < n → n ≤ d.size → 0 < (fmtTo d n).size
  | 1, _, hn => by have := (parts_text (h.case 0 (by omega))).2.2.2; show 0 < (textS d[0]!).size; omega
  | n + 2, _, hn => by
    show 0 < ((fmtTo d (n + 1) ++ commaS) ++ textS d[n + 1]!).size
    rw [size_app, size_app]
    have : commaS.size = 1 := rfl
    omega
theorem texts_get (d : Array CaseD) (n j : Nat) (h : j < n) : (texts d n)[j]'(by simp [texts]; exact h) = textS d[j]! := by simp [texts]
theorem texts_len (d : Array CaseD) (n : Nat) : (texts d n).length = n := by simp [texts]

/-- The pieces of a text between commas, read up to k: as many cases; those of a switch whose text it is. -/
def ReadsTo (L : List ByteArray) (D : Array CaseD) (k : Nat) : Prop := D.size = k ∧ ∀ j (hj : j < L.length), j < k → ∀ cc, caseB cc = true → L[j] = textS cc → D[j]! = cc

theorem BoxS.set1 {W : World} {B : Nat} {v : Value} {rest : Int} (h : BoxS W B v rest) (z : Int) : BoxS (W.setCell ⟨B, 1, none⟩ (.int .i64 z)) B v z := by
  obtain ⟨hlt, hk⟩ := Array.getElem?_eq_some_iff.1 h
  show (W.heap.modify B _)[B]? = _
  rw [Array.getElem?_eq_getElem (by rw [Array.size_modify]; exact hlt), Array.getElem_modify_self, hk]
  simp

set_option maxRecDepth 100000 in
set_option maxHeartbeats 4000000 in
theorem specParse_any (s : ByteArray) (hs : s.size ≤ 1100000) (w : World) : Calls Tryz.prog 108 #[.string s] w (Parse2 s w.heap.size w) := by
  obtain ⟨i0, hi, hi0, hi1, hi2⟩ := info_parts infoC
  obtain ⟨wa, hwa⟩ : ∃ wa, wa = w.alloc (.cells #[.slice none 0 0, .int .i64 0] 32) := ⟨_, rfl⟩
  have hRX : BoxS wa w.heap.size (.slice none 0 0) 0 := by rw [hwa]; exact BoxS.new _ _ _
  have hba : RowKit.Below w.heap.size w wa := by rw [hwa]; exact (Below.refl _ _).alloc (Nat.le_refl _) _
  have hz : w.heap.size < wa.heap.size := by rw [hwa]; simp
  have HWA := Lib.hid hwa
  have HBA := Lib.hid hba
  have HCUT := Lib.hid (cut_any s 59 (by decide) (by omega) wa)
  have hml := (cutSt_le s 59 (s.size + 1)).2
  have hmb : (cutL s 59).length ≤ 1100001 := by
    have : (cutL s 59).length ≤ s.size + 1 := hml
    omega
  have hmlS : (cutL s 59).length ≤ s.size + 1 := hml
  have hsz := cutL_sizes s 59
  obtain ⟨m, hm⟩ := cutL_pos s 59
  -- a switch's text has two pieces
  have HX := Lib.hid (fun d rest (h : ParsesTo s d rest) => (by
    have e := h.2
    rw [fmtN_on h.1] at e
    rw [← e]
    exact cut_fmt h.1 : cutL s 59 = [fmtTo d d.size, itoaS rest]))
  obtain ⟨PL, hPL⟩ : ∃ PL, PL = cutL s 59 := ⟨_, rfl⟩
  rw [← hPL] at HCUT hsz hm HX hmb hmlS
  clear hwa hba hml hPL
  go_enter Tryz.func108, Tryz.ntmps108
  go_wp2_with fail
  rw [← HWA.out]
  refine HCUT.out.mono ?_
  rintro x w1 ⟨v, rfl, ho, hb1⟩
  obtain ⟨g, cp, rfl, hg, hgl, hcell⟩ := strs_row ho hm
  have RX1 := Lib.hid (hRX.kept (grown_of_below hb1) (by simp))
  have HB1 := Lib.hid (HBA.out.trans (hb1.mono HBA.out.size))
  have hz1 : w.heap.size < w1.heap.size := Nat.lt_of_lt_of_le hz hb1.size
  clear ho hb1 hRX
  by_cases hm1 : m = 1
  · subst hm1
    have x0 := hcell 0 (by omega)
    have x1 := hcell 1 (by omega)
    have hs0 := hsz _ (List.getElem_mem (show 0 < PL.length by omega))
    have hs1 := hsz _ (List.getElem_mem (show 1 < PL.length by omega))
    obtain ⟨p0, hp0⟩ : ∃ p, p = PL[0]'(by omega) := ⟨_, rfl⟩
    obtain ⟨p1, hp1⟩ : ∃ p, p = PL[1]'(by omega) := ⟨_, rfl⟩
    rw [← hp0] at x0 hs0
    rw [← hp1] at x1 hs1
    have HX2 := Lib.hid (fun d rest (h : ParsesTo s d rest) => by
      have e := HX.out d rest h
      exact (⟨by rw [hp0]; simp only [e]; rfl, by rw [hp1]; simp only [e]; rfl⟩ : p0 = fmtTo d d.size ∧ p1 = itoaS rest))
    have hspos : 0 < s.size := by
      have : PL.length ≤ s.size + 1 := hmlS
      omega
    clear hcell hsz hm HX hp0 hp1 hmb hmlS
    obtain ⟨w2, hw2⟩ : ∃ w2, w2 = (w1.alloc (.cells #[] 67)).alloc (.cells #[.slice (some ⟨w1.heap.size, 0, none⟩) 0 0, .int .i64 0] 32) := ⟨_, rfl⟩
    have hSX : BoxS w2 (w1.heap.size + 1) (.slice (some ⟨w1.heap.size, 0, none⟩) 0 0) 0 := by
      have := BoxS.new (w1.alloc (.cells #[] 67)) (.slice (some ⟨w1.heap.size, 0, none⟩) 0 0) 0
      rw [World.size_alloc] at this
      rw [hw2]
      exact this
    have hOW : OwnsC w1.heap.size (.slice (some ⟨w1.heap.size, 0, none⟩) 0 0) [] w2 := by
      have := World.ownsRow_made (base := w1.heap.size) (e := 67) (size := 4) w1 #[] 0 (Nat.le_refl _) (by unfold maxLen; omega) rfl
      rw [hw2]
      exact World.ownsRow.alloc (xs := []) this _
    have hb2 : RowKit.Below w1.heap.size w1 w2 := by rw [hw2]; exact ((Below.refl _ _).alloc (Nat.le_refl _) _).alloc (by simp) _
    have hz2 : w1.heap.size + 2 ≤ w2.heap.size := by rw [hw2]; simp
    have y0 := (hb2.cell (p := ⟨g, 0, none⟩) hgl).trans x0
    have y1 := (hb2.cell (p := ⟨g, 1, none⟩) hgl).trans x1
    have HW2 := Lib.hid hw2
    have HSX := Lib.hid hSX
    have HOW := Lib.hid hOW
    have HB2 := Lib.hid hb2
    clear hw2 hSX hOW hb2
    go_upto_if 23 with fail
    rw [← HW2.out]
    go_cut [] (fun wx => ∃ (D : Array CaseD) (v : Value), Hid (BoxS wx (w1.heap.size + 1) v 0) ∧ Hid (OwnsC w1.heap.size v D.toList wx) ∧ Hid (∀ d rest, ParsesTo s d rest → D = d) ∧ D.size ≤ 1100001 ∧ Hid (v ≠ .slice none 0 0) ∧ Hid (RowKit.Below w1.heap.size w1 wx))
    case first =>
      by_cases hp : p0.size = 0
      · have he : p0.toList.isEmpty = true := by
          rw [ByteArray.toList_eq, List.isEmpty_iff]
          exact List.eq_nil_of_length_eq_zero ((toL_len p0).trans hp)
        have HDD := Lib.hid (show ∀ d rest, ParsesTo s d rest → (#[] : Array CaseD) = d from fun d rest h => by
          have e := (HX2.out d rest h).1
          rcases Nat.eq_zero_or_pos d.size with h0 | h0
          · exact (Array.eq_empty_of_size_eq_zero h0).symm
          · have := fmtTo_pos h.1 d.size h0 (Nat.le_refl _)
            rw [← e] at this
            omega)
        simp only [he, Bool.not_true]
        go_wp2_with fail
        go_meet
        exact ⟨#[], _, HSX.out, HOW.out, HDD.out, by simp, Lib.hid (by simp), HB2.out⟩
      · have he : p0.toList.isEmpty = false := by
          rw [ByteArray.toList_eq]
          cases hh : p0.data.toList with
          | nil => have := toL_len p0; rw [toL, hh] at this; simp at this; omega
          | cons a l => rfl
        have hs0' : p0.size ≤ 2000000 := by omega
        have HCUT2 := Lib.hid (cut_any p0 44 (by decide) hs0' w2)
        have hsz2 := cutL_sizes p0 44
        obtain ⟨n, hn⟩ := cutL_pos p0 44
        have hnb : (cutL p0 44).length ≤ p0.size + 1 := (cutSt_le p0 44 (p0.size + 1)).2
        have HX3 := Lib.hid (show ∀ d rest, ParsesTo s d rest → cutL p0 44 = texts d d.size ∧ SwOK d rest from fun d rest h => by
          have e := (HX2.out d rest h).1
          rcases Nat.eq_zero_or_pos d.size with h0 | h0
          · exfalso
            rw [h0] at e
            exact hp (by rw [e]; rfl)
          · obtain ⟨q, hq⟩ : ∃ q, d.size = q + 1 := ⟨d.size - 1, by omega⟩
            refine ⟨?_, h.1⟩
            rw [e, hq]
            exact cut_list h.1 q (by omega))
        obtain ⟨PL2, hPL2⟩ : ∃ PL2, PL2 = cutL p0 44 := ⟨_, rfl⟩
        rw [← hPL2] at HCUT2 hsz2 hn hnb HX3
        have HSZ := Lib.hid hsz2
        have HNL := Lib.hid hn
        have hni : (n : Int) ≤ 2000000 := by omega
        clear hsz2 hPL2 hp
        simp only [he, Bool.not_false]
        go_wp2_with fail
        refine HCUT2.out.mono ?_
        rintro x w3 ⟨v3, rfl, ho3, hb3⟩
        obtain ⟨g3, cp3, rfl, hg3, hgl3, hcell3⟩ := strs_row ho3 HNL.out
        obtain ⟨cur3, hcur3⟩ := strs_type ho3
        have HC3 := Lib.hid hcell3
        have HCU := Lib.hid hcur3
        have HSX3 := Lib.hid (HSX.out.kept (grown_of_below hb3) (by simp))
        have HOW3 := Lib.hid (owns_below HOW.out hb3)
        have HB3 := Lib.hid (HB2.out.trans (hb3.mono (by omega)))
        have hz3 := hb3.size
        clear ho3 hb3 hcell3 hcur3
        go_wp2_with fail
        go_loopw [29] (fun i wr => ∃ (k : Nat) (D : Array CaseD) (v : Value), i = .int .i64 k ∧ k ≤ n + 1 ∧ Hid (BoxS wr (w1.heap.size + 1) v 0) ∧ Hid (OwnsC w1.heap.size v D.toList wr) ∧ Hid (ReadsTo PL2 D k) ∧ Hid (wr.heap[g3]? = w3.heap[g3]?) ∧ Hid (RowKit.Below w1.heap.size w1 wr) ∧ w3.heap.size ≤ wr.heap.size ∧ Hid (v ≠ .slice none 0 0)) (fun i _ => n + 2 - (intOf i).toNat)
        case atStart => exact ⟨0, #[], _, rfl, Nat.zero_le _, HSX3.out, HOW3.out, Lib.hid ⟨rfl, fun j hj hk => absurd hk (Nat.not_lt_zero j)⟩, rfl, HB3.out, Nat.le_refl _, Lib.hid (by simp)⟩
        case round =>
          obtain ⟨k, D, v, rfl, hk, HSk, HOk, HRk, HGk, HWk, hwz, HNk⟩ := hrel
          by_cases hlt : k < n + 1
          · have hkP : k < PL2.length := by have := HNL.out; omega
            have xk : wr.cell? ⟨g3, k, none⟩ = some (.string PL2[k]) := (World.cell?_of_block (a := ⟨g3, k, none⟩) HGk.out).trans (HC3.out k hkP)
            have hsk := HSZ.out _ (List.getElem_mem hkP)
            have HRD := Lib.hid (l1Read_any PL2[k] (by omega) wr)
            have HPR := Lib.hid (show ∀ c ok, ReadOf PL2[k] c ok → (∀ cc, caseB cc = true → PL2[k] = textS cc → c = cc ∧ ok = true) from fun c ok h => h.2)
            obtain ⟨pk, hpk⟩ : ∃ p, p = PL2[k] := ⟨_, rfl⟩
            have HPK := Lib.hid hpk
            rw [← hpk] at xk HRD HPR
            obtain ⟨av, cv, rfl⟩ := row_slice HOk.out
            have hDk := HRk.out.1
            have hDl : D.toList.length = k := by rw [Array.length_toList]; exact hDk
            rw [hDl] at HSk HOk
            have hki : (k : Int) < (n : Int) + 1 := by omega
            have hki0 : (0 : Int) ≤ (k : Int) := by omega
            have hgw : g3 < wr.heap.size := by omega
            clear hsk hpk
            go_wp2_with fail
            refine HRD.out.mono ?_
            rintro e w4 ⟨c, ok, rfl, hro, hb4⟩
            have HRO := Lib.hid (HPR.out c ok hro)
            have S4 := Lib.hid (HSk.out.kept (grown_of_below hb4) (by simp))
            have O4 := Lib.hid (owns_below HOk.out hb4)
            have G4 := Lib.hid ((hb4.block g3 hgw).trans HGk.out)
            have W4 := Lib.hid (HWk.out.trans (hb4.mono (by omega)))
            have RX4 := Lib.hid (show BoxS w4 w.heap.size (.slice none 0 0) 0 from (W4.out.block _ hz1).trans RX1.out)
            have hz4 := hb4.size
            have b4 := S4.out.c0
            have z4 := S4.out.z 0
            have r0 := RX4.out.c0
            have r1 := RX4.out.c1
            have f0 := RX4.out.z 0
            have f1 := RX4.out.z 1
            have hRl : w.heap.size < w4.heap.size := by omega
            have hSl : w1.heap.size + 1 < w4.heap.size := by omega
            clear hb4 hro
            obtain ⟨lo, hi', tc, wt⟩ := c
            cases ok with
            | false =>
              have HNO := Lib.hid (show ∀ d rest, ¬ ParsesTo s d rest from fun d rest h => by
                obtain ⟨e1, e2⟩ := HX3.out d rest h
                have hkd : k < d.size := by have := congrArg List.length e1; rw [texts_len] at this; omega
                have e3 : pk = textS d[k]! := by rw [HPK.out]; simp only [e1]; exact texts_get d d.size k hkd
                have := (HRO.out d[k]! (e2.case k hkd) e3).2
                cases this)
              unfold aggC
              go_wp2_with fail
              obtain ⟨q0, q1⟩ := two_cells RX4.out.c0 RX4.out.c1 (.slice none 0 0) (.int .i64 0)
              have hwl : w.heap.size < ((w4.setCell ⟨w.heap.size, 0, none⟩ (.slice none 0 0)).setCell ⟨w.heap.size, 1, none⟩ (.int .i64 0)).heap.size := by simp [World.setCell]; omega
              have q2 := fun o : Obj => (World.cell?_alloc_lt ((w4.setCell ⟨w.heap.size, 0, none⟩ (.slice none 0 0)).setCell ⟨w.heap.size, 1, none⟩ (.int .i64 0)) o ⟨w.heap.size, 0, none⟩ hwl).trans q0
              have q3 := fun o : Obj => (World.cell?_alloc_lt ((w4.setCell ⟨w.heap.size, 0, none⟩ (.slice none 0 0)).setCell ⟨w.heap.size, 1, none⟩ (.int .i64 0)) o ⟨w.heap.size, 1, none⟩ hwl).trans q1
              refine bodyPost_ret (v := .tuple #[.agg #[.slice none 0 0, .int .i64 0], .bool false]) (by simp [results, Tryz.results108, go_sem, q2, q3]) rfl (.inr ⟨HNO.out, rfl, (((HB1.out.trans (W4.out.mono HB1.out.size)).setCell (p := ⟨w.heap.size, 0, none⟩) (Nat.le_refl _) _).setCell (p := ⟨w.heap.size, 1, none⟩) (Nat.le_refl _) _).alloc (by simp [World.setCell]; omega) _⟩)
            | true =>
              unfold aggC
              go_wp2_with (first
                | (at_builtin; refine wpList_append_at _ rfl (.tmp 42) (.tmp 44) 30 rfl w1.heap.size 67 i0 zeroC 4 40 Tryz.underlying30 hi hi0 hi1 hi2 rfl (by decide) _ _ _ rfl (World.ownsRow.alloc (World.ownsRow.alloc O4.out _) _) ⟨w4.heap.size + 1, 0, none⟩ 1 1 (encC ⟨lo, hi', tc, wt⟩) rfl rfl ?c1 (encC_one _) (by unfold maxLen; omega) (by omega) (by simp; omega) (by decide) ?_)
                | fail)
              case c1 => exact cells_at (by simp)
              intro v1 w6 hown1 hgrow1 hat1
              rw [flatL_snoc] at hown1
              have hne3 : some g3 ≠ (Value.slice av k cv).ownBlock := fun e => strs_apart (G4.out.trans HCU.out) O4.out e.symm
              have HB6 := Lib.hid (below_append (W4.out.alloc (by omega) (.cells #[.int .i64 lo, .int .i64 hi', .string tc, .int .i64 wt] 67)) (by simp; omega) hgrow1 (World.ownsRow.alloc O4.out _) (Nat.le_refl _))
              have BX6 := Lib.hid (((S4.out.kept (row := none) (World.grownBy_alloc w4 (.cells #[.int .i64 lo, .int .i64 hi', .string tc, .int .i64 wt] 67) none) (by simp)).kept (row := none) (World.grownBy_alloc _ (.cells #[.int .i64 lo, .int .i64 hi', .string tc, .int .i64 wt] 67) none) (by simp)).kept hgrow1 (Ne.symm (S4.out.not_row O4.out)))
              have hg34 : g3 < w4.heap.size := by omega
              have G6 := Lib.hid (((hgrow1.block g3 (by simp; omega) hne3).trans (((Below.refl (w4.alloc (.cells #[.int .i64 lo, .int .i64 hi', .string tc, .int .i64 wt] 67)).heap.size _).alloc (Nat.le_refl _) _).block g3 (by simp; omega))).trans ((((Below.refl w4.heap.size w4).alloc (Nat.le_refl _) _).block g3 hg34).trans G4.out))
              have hz6 : w4.heap.size + 2 ≤ w6.heap.size := by have := hgrow1.size; simpa using this
              have c6 := BX6.out.c0
              have f6 := BX6.out.z 0
              have HO6 := Lib.hid hown1
              obtain ⟨g1, cap1, rfl⟩ := ownsRow_succ hown1
              have HRD2 := Lib.hid (show ReadsTo PL2 (D.push ⟨lo, hi', tc, wt⟩) (k + 1) from ⟨by simp [hDk], fun j hj hjk cc hcc e => by
                by_cases ejk : j = k
                · subst ejk
                  have h1 : (D.push (⟨lo, hi', tc, wt⟩ : CaseD))[j]! = ⟨lo, hi', tc, wt⟩ := by rw [← hDk]; simp
                  rw [h1]
                  exact (HRO.out cc hcc (HPK.out.trans e)).1
                · have hjk' : j < D.size := by omega
                  have h1 : (D.push (⟨lo, hi', tc, wt⟩ : CaseD))[j]! = D[j]! := by simp [Array.getElem_push, hjk', Nat.lt_succ_of_lt hjk']
                  rw [h1]
                  exact HRk.out.2 j hj (by omega) cc hcc e⟩)
              clear hown1 hgrow1 hat1 b4 z4 r0 r1 f0 f1
              go_wp2_with fail
              go_roundw
              case rel =>
                refine ⟨k + 1, D.push ⟨lo, hi', tc, wt⟩, _, by go_num, by omega, BX6.out.set _, ?_, HRD2.out, Lib.hid (((grown_set w6 (w1.heap.size + 1) 0 _).block g3 (by omega) (by simp; omega)).trans G6.out), HB6.out.setCell (p := ⟨w1.heap.size + 1, 0, none⟩) (Nat.le_succ _) _, by simp [World.setCell]; omega, Lib.hid (by simp)⟩
                show OwnsC _ _ _ _
                have h5 := fun u => World.ownsRow.kept HO6.out (grown_set w6 (w1.heap.size + 1) 0 u) (.inr (BX6.out.not_row HO6.out))
                unfold OwnsC
                rw [Array.toList_push, List.length_append, hDl]
                simpa using h5 _
              case measure => simp [intOf]; omega
          · have hkn : k = n + 1 := by omega
            have HDD := Lib.hid (show ∀ d rest, ParsesTo s d rest → D = d from fun d rest h => by
              obtain ⟨e1, e2⟩ := HX3.out d rest h
              have hl : d.size = n + 1 := by have := congrArg List.length e1; rw [texts_len, HNL.out] at this; exact this.symm
              have hDs := HRk.out.1
              apply Array.ext
              · omega
              · intro j h1 h2
                have h3 := HRk.out.2 j (by have := HNL.out; omega) (by omega) d[j]! (e2.case j h2) (by simp only [e1]; exact texts_get d d.size j h2)
                rw [getElem!_pos D j h1, getElem!_pos d j h2] at h3
                exact h3)
            have hkni : ¬ (k : Int) < (n : Int) + 1 := by omega
            have hDs : D.size ≤ 1100001 := by have := HRk.out.1; have := HNL.out; omega
            go_wp2_with fail
            go_meet
            exact ⟨D, v, HSk.out, HOk.out, HDD.out, hDs, HNk.out, HWk.out⟩
    case rest =>
      obtain ⟨D, v, HSX, HOW, HD, hDs, HNN, HWX⟩ := hcut
      obtain ⟨gd, cd, rfl, hgd, hcd, hmd⟩ := owns_form HOW.out HNN.out
      have hDl : D.toList.length = D.size := Array.length_toList
      rw [hDl] at HSX HOW hcd
      have y1 := (HWX.out.cell (p := ⟨g, 1, none⟩) hgl).trans x1
      have hzw : w1.heap.size ≤ wc.heap.size := HWX.out.size
      have hSl := HSX.out.lt
      have RXc := Lib.hid (show BoxS wc w.heap.size (.slice none 0 0) 0 from (HWX.out.block _ hz1).trans RX1.out)
      have HN := Lib.hid (num_both p1 (by omega) wc)
      have hgw : g < wc.heap.size := by omega
      clear x0 x1 y0
      go_wp2_with fail
      refine HN.out.mono ?_
      rintro e w5 ⟨z, b, rfl, hnum, rfl⟩
      have HNUM := Lib.hid hnum
      have b0 := HSX.out.c0
      have b1 := HSX.out.c1
      have z1 := HSX.out.z 1
      have r0 := RXc.out.c0
      have r1 := RXc.out.c1
      have f0 := RXc.out.z 0
      have f1 := RXc.out.z 1
      have hRl : w.heap.size < w5.heap.size := RXc.out.lt
      clear hnum
      cases b with
      | false =>
        have HNO := Lib.hid (show ∀ d rest, ¬ ParsesTo s d rest from fun d rest h => by
          have hr := h.1.rest
          simp only [wgtB, decide_eq_true_eq] at hr
          have := (HNUM.out rest hr.1 hr.2 (HX2.out d rest h).2).2
          cases this)
        have RX6 := Lib.hid (RXc.out.kept (grown_set w5 (w1.heap.size + 1) 1 (.int .i64 z)) (by simp; omega))
        go_wp2_with fail
        obtain ⟨q0, q1⟩ := two_cells RX6.out.c0 RX6.out.c1 (.slice none 0 0) (.int .i64 0)
        refine bodyPost_ret (v := .tuple #[.agg #[.slice none 0 0, .int .i64 0], .bool false]) (by simp [results, Tryz.results108, go_sem, q0, q1]) rfl (.inr ⟨HNO.out, rfl, (((HB1.out.trans (HWX.out.mono HB1.out.size)).setCell (p := ⟨w1.heap.size + 1, 1, none⟩) (by simp; omega) _).setCell (p := ⟨w.heap.size, 0, none⟩) (Nat.le_refl _) _).setCell (p := ⟨w.heap.size, 1, none⟩) (Nat.le_refl _) _⟩)
      | true =>
        have RX6 := Lib.hid (RXc.out.kept (grown_set w5 (w1.heap.size + 1) 1 (.int .i64 z)) (by simp; omega))
        have SX6 := Lib.hid (HSX.out.set1 z)
        have O6 := Lib.hid (show OwnsC w1.heap.size (.slice (some ⟨gd, 0, none⟩) D.size cd) D.toList (w5.setCell ⟨w1.heap.size + 1, 1, none⟩ (.int .i64 z)) from World.ownsRow.kept HOW.out (grown_set w5 (w1.heap.size + 1) 1 (.int .i64 z)) (.inr (HSX.out.not_row HOW.out)))
        have R6 : RowC (w5.setCell ⟨w1.heap.size + 1, 1, none⟩ (.int .i64 z)) gd 0 D := by
          have := owns_row (n := D.size) (l := D.toList) O6.out
          rwa [Array.toArray_toList] at this
        have HF := Lib.hid (specFormat_any gd 0 cd D z _ R6 hcd hmd)
        have W6 := Lib.hid ((HB1.out.trans (HWX.out.mono HB1.out.size)).setCell (p := ⟨w1.heap.size + 1, 1, none⟩) (by simp; omega) (.int .i64 z))
        have hz6 : w.heap.size ≤ (w5.setCell ⟨w1.heap.size + 1, 1, none⟩ (.int .i64 z)).heap.size := by have := W6.out.size; exact this
        have hz6' : w1.heap.size ≤ (w5.setCell ⟨w1.heap.size + 1, 1, none⟩ (.int .i64 z)).heap.size := by simp [World.setCell]; omega
        clear R6
        go_wp2_with fail
        refine HF.out.mono ?_
        rintro x w7 ⟨rfl, hb7⟩
        have RX7 := Lib.hid (RX6.out.kept (grown_of_below hb7) (by simp))
        have SX7 := Lib.hid (SX6.out.kept (grown_of_below hb7) (by simp))
        have O7 := Lib.hid (owns_below O6.out hb7)
        have W7 := Lib.hid (W6.out.trans (hb7.mono hz6))
        have s0 := SX7.out.c0
        have s1 := SX7.out.c1
        have t0 := RX7.out.c0
        have t1 := RX7.out.c1
        have g0 := RX7.out.z 0
        have g1 := RX7.out.z 1
        clear b0 b1 z1 r0 r1 f0 f1 hb7
        by_cases he : fmtN D z = s
        · have hSW : SwOK D z := (swB_iff _ _).1 (Decidable.byContradiction fun hn => by
            have e2 := he
            rw [fmtN, if_neg hn] at e2
            rw [← e2] at hspos
            exact absurd hspos (by decide))
          have HOK := Lib.hid (show ParsesTo s D z from ⟨hSW, he⟩)
          go_wp2_with fail
          obtain ⟨q0, q1⟩ := two_cells RX7.out.c0 RX7.out.c1 (.slice (some ⟨gd, 0, none⟩) D.size cd) (.int .i64 z)
          have O8 := fun u => World.ownsRow.kept O7.out (grown_set w7 w.heap.size 0 u) (.inr (RX7.out.not_row O7.out))
          have O9 := fun u u' => World.ownsRow.kept (O8 u) (grown_set (w7.setCell ⟨w.heap.size, 0, none⟩ u) w.heap.size 1 u') (.inr (RX7.out.not_row O7.out))
          refine bodyPost_ret (v := .tuple #[.agg #[.slice (some ⟨gd, 0, none⟩) D.size cd, .int .i64 z], .bool true]) (by simp [results, Tryz.results108, go_sem, q0, q1]) rfl (.inl ⟨D, z, _, HOK.out, rfl, owns_base (O9 _ _) (Nat.le_of_lt hz1), by simp, (W7.out.setCell (p := ⟨w.heap.size, 0, none⟩) (Nat.le_refl _) _).setCell (p := ⟨w.heap.size, 1, none⟩) (Nat.le_refl _) _⟩)
        · have HNO := Lib.hid (show ∀ d rest, ¬ ParsesTo s d rest from fun d rest h => by
            have hr := h.1.rest
            simp only [wgtB, decide_eq_true_eq] at hr
            have e1 := (HNUM.out rest hr.1 hr.2 (HX2.out d rest h).2).1
            have e2 := HD.out d rest h
            exact he (by rw [e1, e2]; exact h.2))
          have hnl : ((fmtN D z).toList == s.toList) = false := by
            cases hq : (fmtN D z).toList == s.toList with
            | false => rfl
            | true =>
              have hq' := eq_of_beq hq
              rw [ByteArray.toList_eq, ByteArray.toList_eq] at hq'
              exact absurd (ByteArray.ext (Array.ext' hq')) he
          go_wp2_with fail
          obtain ⟨q0, q1⟩ := two_cells RX7.out.c0 RX7.out.c1 (.slice none 0 0) (.int .i64 0)
          refine bodyPost_ret (v := .tuple #[.agg #[.slice none 0 0, .int .i64 0], .bool false]) (by simp [results, Tryz.results108, go_sem, q0, q1]) rfl (.inr ⟨HNO.out, rfl, (W7.out.setCell (p := ⟨w.heap.size, 0, none⟩) (Nat.le_refl _) _).setCell (p := ⟨w.heap.size, 1, none⟩) (Nat.le_refl _) _⟩)
  · have HNO := Lib.hid (show ∀ d rest, ¬ ParsesTo s d rest from fun d rest h => by
      have e := HX.out d rest h
      rw [e] at hm
      simp at hm
      omega)
    have hmn : ¬ ((m : Int) + 1 = 2) := by omega
    have hmn2 : ((m : Int) + 1 == 2) = false := by simpa using hmn
    have r0 := RX1.out.c0
    have r1 := RX1.out.c1
    have f0 := RX1.out.z 0
    have f1 := RX1.out.z 1
    clear hcell hmlS
    go_wp2_with fail
    obtain ⟨q0, q1⟩ := two_cells r0 r1 (.slice none 0 0) (.int .i64 0)
    refine bodyPost_ret (v := .tuple #[.agg #[.slice none 0 0, .int .i64 0], .bool false]) (by simp [results, Tryz.results108, go_sem, q0, q1]) rfl (.inr ⟨HNO.out, rfl, (HB1.out.setCell (p := ⟨w.heap.size, 0, none⟩) (Nat.le_refl _) _).setCell (p := ⟨w.heap.size, 1, none⟩) (Nat.le_refl _) _⟩)
end Go.Proofs.YtjpcpiffffobcaaGreatDoor
