
/- The text of a valid switch, taken apart: cutting at a byte, the first letter, the numbers. No walk. -/
import Derived.Test.YtoiljohaicpncaaDoorKsText
import Derived.Test.YtoiljohaicpncaaDoorKsAt
namespace Go.Proofs.YtoiljohaicpncaaDoor
open Go.RowKit Go.Shelf Go.Lib Go.Sort

abbrev toL (s : ByteArray) : List UInt8 := s.data.toList
theorem toL_app (a b : ByteArray) : toL (a ++ b) = toL a ++ toL b := by simp [toL, ByteArray.data_append]
theorem toL_inj {a b : ByteArray} (h : toL a = toL b) : a = b := ByteArray.ext (Array.toList_inj.1 h)
theorem toL_len (s : ByteArray) : (toL s).length = s.size := by rw [toL, Array.length_toList]; rfl
theorem toL_get {s : ByteArray} {j : Nat} (h : j < s.size) : ((toL s)[j]'(by rw [toL_len]; exact h)).toNat = byteN s j := by
  rw [← byteN_eq h]
  simp [toL]
  rfl
theorem toL_extract (s : ByteArray) (f i : Nat) : toL (s.extract f i) = ((toL s).drop f).take (i - f) := by
  simp [toL, ByteArray.data_extract, Array.toList_extract, List.extract_eq_take_drop]

/-- A list cut at every c. -/
def cutB (c : UInt8) : List UInt8 → List (List UInt8)
  | [] => [[]]
  | a :: l => if a = c then [] :: cutB c l else match cutB c l with | [] => [[a]] | x :: r => (a :: x) :: r
theorem cutB_none {c : UInt8} : ∀ {l : List UInt8}, (∀ b ∈ l, b ≠ c) → cutB c l = [l]
  | [], _ => rfl
  | a :: l, h => by
    rw [cutB, if_neg (h a (by simp)), cutB_none (fun b hb => h b (by simp [hb]))]
theorem cutB_app {c : UInt8} (m : List UInt8) : ∀ {l : List UInt8}, (∀ b ∈ l, b ≠ c) → cutB c (l ++ c :: m) = l :: cutB c m
  | [], _ => by simp [cutB]
  | a :: l, h => by
    rw [List.cons_append, cutB, if_neg (h a (by simp)), cutB_app m (fun b hb => h b (by simp [hb]))]
theorem ofNat_byte {b : UInt8} {c : Nat} (hc : c < 256) : b = UInt8.ofNat c ↔ b.toNat = c := by
  constructor
  · rintro rfl; simp; omega
  · intro h; apply UInt8.toNat_inj.1; rw [h]; simp; omega
theorem cut_inv (s : ByteArray) (c : Nat) (hc : c < 256) : ∀ i, i ≤ s.size → (cutSt s c i).2 ≤ i ∧ cutB (UInt8.ofNat c) (toL s) = (cutSt s c i).1.map toL ++ cutB (UInt8.ofNat c) ((toL s).drop (cutSt s c i).2) ∧ ∀ j, (cutSt s c i).2 ≤ j → j < i → byteN s j ≠ c
  | 0, _ => by simp [cutSt]
  | i + 1, hi => by
    obtain ⟨h1, h2, h3⟩ := cut_inv s c hc i (by omega)
    have hi' : i < s.size := by omega
    have hne : ¬ i = s.size := by omega
    rw [cutSt]
    by_cases hb : byteN s i = c
    · rw [if_pos (.inr hb)]
      have hsplit : (toL s).drop (cutSt s c i).2 = ((toL s).drop (cutSt s c i).2).take (i - (cutSt s c i).2) ++ UInt8.ofNat c :: (toL s).drop (i + 1) := by
        have e1 := List.take_append_drop (i - (cutSt s c i).2) ((toL s).drop (cutSt s c i).2)
        have e2 : ((toL s).drop (cutSt s c i).2).drop (i - (cutSt s c i).2) = (toL s).drop i := by rw [List.drop_drop]; congr 1; omega
        have e3 : (toL s).drop i = UInt8.ofNat c :: (toL s).drop (i + 1) := by
          rw [List.drop_eq_getElem_cons (by rw [toL_len]; exact hi')]
          congr 1
          exact (ofNat_byte hc).2 ((toL_get hi').trans hb)
        rw [e2, e3] at e1
        exact e1.symm
      have hno : ∀ b ∈ ((toL s).drop (cutSt s c i).2).take (i - (cutSt s c i).2), b ≠ UInt8.ofNat c := fun b hb' e => by
        obtain ⟨j, hj, rfl⟩ := List.getElem_of_mem hb'
        rw [List.length_take, List.length_drop, toL_len] at hj
        rw [List.getElem_take, List.getElem_drop] at e
        have := (ofNat_byte hc).1 e
        rw [toL_get (by omega)] at this
        exact h3 _ (by omega) (by omega) this
      refine ⟨Nat.le_refl _, ?_, fun j hj1 hj2 => by simp only at hj1; omega⟩
      rw [h2, hsplit, cutB_app _ hno]
      simp [toL_extract]
    · rw [if_neg (by rintro (h | h) <;> contradiction)]
      refine ⟨by omega, h2, fun j hj1 hj2 => ?_⟩
      by_cases e : j = i
      · rw [e]; exact hb
      · exact h3 j hj1 (by omega)
theorem cutL_list (s : ByteArray) (c : Nat) (hc : c < 256) : (cutL s c).map toL = cutB (UInt8.ofNat c) (toL s) := by
  obtain ⟨h1, h2, h3⟩ := cut_inv s c hc s.size (Nat.le_refl _)
  rw [cutL, cutSt, if_pos (.inl rfl), h2, cutB_none (fun b hb' e => by
    obtain ⟨j, hj, rfl⟩ := List.getElem_of_mem hb'
    rw [List.length_drop, toL_len] at hj
    rw [List.getElem_drop] at e
    have := (ofNat_byte hc).1 e
    rw [toL_get (by omega)] at this
    exact h3 _ (by omega) (by omega) this)]
  simp only [List.map_append, List.map_cons, List.map_nil, toL_extract]
  congr 2
  rw [List.take_of_length_le]
  rw [List.length_drop, toL_len]
  omega
theorem map_toL_inj : ∀ {l m : List ByteArray}, l.map toL = m.map toL → l = m
  | [], [], _ => rfl
  | [], _ :: _, h => by simp at h
  | _ :: _, [], h => by simp at h
  | a :: l, b :: m, h => by
    simp only [List.map_cons, List.cons.injEq] at h
    rw [toL_inj h.1, map_toL_inj h.2]

/-! the bytes of a text -/
def dgT (b : UInt8) : Prop := 48 ≤ b.toNat ∧ b.toNat ≤ 57
theorem itoaS_bytes {n : Int} (h0 : 0 ≤ n) (h1 : n ≤ 99) : ∀ b ∈ toL (itoaS n), dgT b := by
  by_cases h : n ≤ 9
  · rw [itoaS_one h0 h]
    intro b hb
    simp [toL] at hb
    subst hb
    unfold dgT
    constructor <;> simp <;> omega
  · rw [itoaS_two (by omega) h1]
    intro b hb
    simp [toL] at hb
    rcases hb with rfl | rfl
    · unfold dgT; constructor <;> simp <;> omega
    · unfold dgT; constructor <;> simp <;> omega
theorem rangeS_bytes {lo hi : Int} (h0 : 0 ≤ lo) (h1 : lo ≤ 31) (h2 : 0 ≤ hi) (h3 : hi ≤ 31) : ∀ b ∈ toL (rangeS lo hi), dgT b ∨ b.toNat = 45 := by
  have a := itoaS_bytes h0 (show lo ≤ 99 by omega)
  have c := itoaS_bytes h2 (show hi ≤ 99 by omega)
  unfold rangeS
  split
  · exact fun b hb => .inl (a b hb)
  · intro b hb
    rw [toL_app, toL_app] at hb
    simp only [List.mem_append] at hb
    rcases hb with (hb | hb) | hb
    · exact .inl (a b hb)
    · right
      have : b = 45 := by simpa [dashS, toL] using hb
      rw [this]; rfl
    · exact .inl (c b hb)
theorem target_byte {c : CaseD} (h : caseB c = true) : ∃ b : UInt8, c.target = ⟨#[b]⟩ ∧ 97 ≤ b.toNat ∧ b.toNat ≤ 104 := by
  have h1 := caseB_target h
  simp only [caseB, oneB, Bool.and_eq_true, decide_eq_true_eq] at h
  have ht := h.1.1.1.1.2
  obtain ⟨b, hb⟩ := List.length_eq_one_iff.1 ((toL_len c.target).trans h1)
  have e : c.target = ⟨#[b]⟩ := toL_inj hb
  rw [e] at ht
  refine ⟨b, e, ?_⟩
  have h2 : tgtB (b.toNat : Int) = true := ht
  simp only [tgtB, decide_eq_true_eq] at h2
  omega
/-- No comma, no semicolon. -/
theorem textS_bytes {c : CaseD} (h : caseB c = true) : ∀ b ∈ toL (textS c), dgT b ∨ b.toNat = 45 ∨ (97 ≤ b.toNat ∧ b.toNat ≤ 104) := by
  obtain ⟨t, ht, h1, h2⟩ := target_byte h
  have a := rangeS_bytes (caseB_low h).1 (caseB_low h).2 (caseB_high h).1 (caseB_high h).2
  have c' := itoaS_bytes (caseB_weight h).1 (caseB_weight h).2
  intro b hb
  unfold textS at hb
  rw [toL_app, toL_app, ht] at hb
  simp only [List.mem_append] at hb
  rcases hb with (hb | hb) | hb
  · rcases a b hb with h3 | h3
    · exact .inl h3
    · exact .inr (.inl h3)
  · have : b = t := by simpa [toL] using hb
    rw [this]
    exact .inr (.inr ⟨h1, h2⟩)
  · exact .inl (c' b hb)
theorem byte_ne {b : UInt8} {c : Nat} (hc : c < 256) (h : b.toNat ≠ c) : b ≠ UInt8.ofNat c := fun e => h ((ofNat_byte hc).1 e)
theorem textS_no {c : CaseD} (h : caseB c = true) : (∀ b ∈ toL (textS c), b ≠ UInt8.ofNat 44) ∧ ∀ b ∈ toL (textS c), b ≠ UInt8.ofNat 59 := by
  have := textS_bytes h
  refine ⟨fun b hb => byte_ne (by decide) ?_, fun b hb => byte_ne (by decide) ?_⟩
  all_goals
    have h1 := this b hb
    unfold dgT at h1
    omega
theorem fmtTo_no {d : Array CaseD} {rest : Int} (h : SwOK d rest) : ∀ n, n ≤ d.size → ∀ b ∈ toL (fmtTo d n), b ≠ UInt8.ofNat 59
  | 0, _ => by intro b hb; simp [fmtTo, toL] at hb
  | 1, hn => (textS_no (h.case 0 (by omega))).2
  | n + 2, hn => by
    intro b hb
    have e : toL (fmtTo d (n + 2)) = toL (fmtTo d (n + 1)) ++ [44] ++ toL (textS d[n + 1]!) := by
      show toL ((fmtTo d (n + 1) ++ commaS) ++ textS d[n + 1]!) = _
      rw [toL_app, toL_app]; rfl
    rw [e] at hb
    simp only [List.mem_append, List.mem_singleton] at hb
    rcases hb with (hb | hb) | hb
    · exact fmtTo_no h (n + 1) (by omega) b hb
    · rw [hb]; decide
    · exact (textS_no (h.case (n + 1) (by omega))).2 b hb
theorem cut_fmt {d : Array CaseD} {rest : Int} (h : SwOK d rest) : cutL ((fmtTo d d.size ++ semiS) ++ itoaS rest) 59 = [fmtTo d d.size, itoaS rest] := by
  apply map_toL_inj
  have hr := h.rest
  simp only [wgtB, decide_eq_true_eq] at hr
  rw [cutL_list _ _ (by decide), toL_app, toL_app, List.append_assoc]
  show cutB (UInt8.ofNat 59) (toL (fmtTo d d.size) ++ (UInt8.ofNat 59 :: toL (itoaS rest))) = _
  rw [cutB_app _ (fmtTo_no h d.size (Nat.le_refl _)), cutB_none fun b hb => byte_ne (by decide) (by have := itoaS_bytes hr.1 hr.2 b hb; unfold dgT at this; omega)]
  rfl
theorem cutB_more {c : UInt8} (m : List UInt8) (hm : ∀ b ∈ m, b ≠ c) : ∀ (l : List UInt8), cutB c (l ++ c :: m) = cutB c l ++ [m]
  | [] => by simp [cutB, cutB_none hm]
  | a :: l => by
    have ih := cutB_more m hm l
    rw [List.cons_append, cutB, cutB, ih]
    by_cases e : a = c
    · simp [e]
    · simp only [if_neg e]
      cases hh : cutB c l with
      | nil =>
        exfalso
        cases l with
        | nil => simp [cutB] at hh
        | cons x l =>
          rw [cutB] at hh
          split at hh
          · cases hh
          · split at hh <;> cases hh
      | cons x r => rfl
theorem cut_list {d : Array CaseD} {rest : Int} (h : SwOK d rest) : ∀ n, n + 1 ≤ d.size → cutL (fmtTo d (n + 1)) 44 = texts d (n + 1) := by
  intro n hn
  apply map_toL_inj
  rw [cutL_list _ _ (by decide)]
  induction n with
  | zero =>
    show cutB _ (toL (textS d[0]!)) = _
    rw [cutB_none (textS_no (h.case 0 (by omega))).1]
    rfl
  | succ n ih =>
    have e : toL (fmtTo d (n + 2)) = toL (fmtTo d (n + 1)) ++ UInt8.ofNat 44 :: toL (textS d[n + 1]!) := by
      show toL ((fmtTo d (n + 1) ++ commaS) ++ textS d[n + 1]!) = _
      rw [toL_app, toL_app, List.append_assoc]; rfl
    rw [e, cutB_more _ (textS_no (h.case (n + 1) (by omega))).1, ih (by omega), texts_succ d (n + 1)]
    simp

/-! the parts of a case's text -/
theorem byteN_list (s : ByteArray) (j : Nat) (h : j < s.size) : byteN s j = ((toL s)[j]'(by rw [toL_len]; exact h)).toNat := (toL_get h).symm
theorem at_text {c : CaseD} (h : caseB c = true) {z : Int} (hz : AtT (textS c) z) : z = ((rangeS c.low c.high).size : Int) := by
  obtain ⟨t, ht, h1, h2⟩ := target_byte h
  have hr := rangeS_bytes (caseB_low h).1 (caseB_low h).2 (caseB_high h).1 (caseB_high h).2
  have e : toL (textS c) = toL (rangeS c.low c.high) ++ t :: toL (itoaS c.weight) := by
    unfold textS
    rw [toL_app, toL_app, ht, List.append_assoc]
    rfl
  have hl : (textS c).size = (rangeS c.low c.high).size + 1 + (itoaS c.weight).size := by
    rw [← toL_len, e, List.length_append, List.length_cons, toL_len, toL_len]; omega
  have hlt : ∀ j, j < (rangeS c.low c.high).size → letB (textS c) j = false := fun j hj => by
    have hb := byteN_list (textS c) j (by omega)
    have hg : (toL (textS c))[j]'(by rw [toL_len]; omega) = (toL (rangeS c.low c.high))[j]'(by rw [toL_len]; exact hj) := by
      simp only [e]
      rw [List.getElem_append_left]
    rw [hg] at hb
    have := hr _ (List.getElem_mem (by rw [toL_len]; exact hj))
    unfold dgT at this
    simp only [letB, Bool.and_eq_false_iff, decide_eq_false_iff_not]
    omega
  have hat : letB (textS c) (rangeS c.low c.high).size = true := by
    have hb := byteN_list (textS c) (rangeS c.low c.high).size (by omega)
    have hg : (toL (textS c))[(rangeS c.low c.high).size]'(by rw [toL_len]; omega) = t := by
      simp only [e]
      rw [List.getElem_append_right (by rw [toL_len]; exact Nat.le_refl _)]
      simp
    rw [hg] at hb
    simp only [letB, Bool.and_eq_true, decide_eq_true_eq]
    omega
  rcases hz with ⟨k, hk, rfl, hk1, hk2⟩ | ⟨rfl, hk⟩
  · have : k = (rangeS c.low c.high).size := by
      rcases Nat.lt_trichotomy k (rangeS c.low c.high).size with h3 | h3 | h3
      · rw [hlt k h3] at hk1; cases hk1
      · exact h3
      · rw [hk2 _ h3] at hat; cases hat
    rw [this]
  · rw [hk _ (by omega)] at hat; cases hat
theorem drop_past {α : Type} (t : α) (b : List α) : ∀ a : List α, (a ++ t :: b).drop (a.length + 1) = b
  | [] => rfl
  | _ :: a => drop_past t b a
theorem parts_text {c : CaseD} (h : caseB c = true) : (textS c).extract 0 (rangeS c.low c.high).size = rangeS c.low c.high ∧ (textS c).extract (rangeS c.low c.high).size ((rangeS c.low c.high).size + 1) = c.target ∧ (textS c).extract ((rangeS c.low c.high).size + 1) (textS c).size = itoaS c.weight ∧ (rangeS c.low c.high).size < (textS c).size := by
  obtain ⟨t, ht, h1, h2⟩ := target_byte h
  have e : toL (textS c) = toL (rangeS c.low c.high) ++ t :: toL (itoaS c.weight) := by
    unfold textS
    rw [toL_app, toL_app, ht, List.append_assoc]
    rfl
  have hl : (textS c).size = (rangeS c.low c.high).size + 1 + (itoaS c.weight).size := by
    rw [← toL_len, e, List.length_append, List.length_cons, toL_len, toL_len]; omega
  have el := toL_len (rangeS c.low c.high)
  refine ⟨toL_inj ?_, toL_inj ?_, toL_inj ?_, by omega⟩
  · rw [toL_extract, e, ← el]; simp
  · rw [toL_extract, e, ← el, ht]; simp [toL]
  · rw [toL_extract, e, ← el, hl]
    rw [← el, drop_past]
    have := toL_len (itoaS c.weight)
    exact List.take_of_length_le (by omega)
theorem cut_range {lo hi : Int} (h0 : 0 ≤ lo) (h1 : lo ≤ 31) (h2 : 0 ≤ hi) (h3 : hi ≤ 31) : cutL (rangeS lo hi) 45 = if lo = hi then [itoaS lo] else [itoaS lo, itoaS hi] := by
  apply map_toL_inj
  have nod : ∀ n : Int, 0 ≤ n → n ≤ 99 → ∀ b ∈ toL (itoaS n), b ≠ UInt8.ofNat 45 := fun n a c b hb => byte_ne (by decide) (by have := itoaS_bytes a c b hb; unfold dgT at this; omega)
  rw [cutL_list _ _ (by decide)]
  unfold rangeS
  by_cases e : lo = hi
  · rw [if_pos e, if_pos e, cutB_none (nod lo h0 (by omega))]; rfl
  · rw [if_neg e, if_neg e, toL_app, toL_app, List.append_assoc]
    show cutB (UInt8.ofNat 45) (toL (itoaS lo) ++ (UInt8.ofNat 45 :: toL (itoaS hi))) = _
    rw [cutB_app _ (nod lo h0 (by omega)), cutB_none (nod hi h2 (by omega))]
    rfl
theorem num_itoa {n : Int} (h0 : 0 ≤ n) (h1 : n ≤ 99) : plainB (itoaS n) ∧ (numTo (itoaS n) (itoaS n).size : Int) = n := by
  obtain ⟨i, rfl⟩ := Int.eq_ofNat_of_zero_le h0
  by_cases h : (i : Int) ≤ 9
  · have e : itoaS (i : Int) = ⟨#[UInt8.ofNat (48 + i)]⟩ := by
      rw [itoaS_one h0 h]; congr 4
    have hb : (UInt8.ofNat (48 + i)).toNat = 48 + i := by simp; omega
    rw [e]
    refine ⟨⟨Nat.le_refl 1, (by show 1 ≤ 17; decide), fun j hj => ?_, fun _ _ => rfl⟩, ?_⟩
    · have : j = 0 := by have : j < 1 := hj; omega
      subst this
      show 48 ≤ (UInt8.ofNat (48 + i)).toNat ∧ (UInt8.ofNat (48 + i)).toNat ≤ 57
      omega
    · show ((numTo _ 1 : Nat) : Int) = _
      have : byteN ⟨#[UInt8.ofNat (48 + i)]⟩ 0 = 48 + i := by simp [byteN]; omega
      simp only [numTo, this]
      omega
  · have e : itoaS (i : Int) = ⟨#[UInt8.ofNat (48 + i / 10), UInt8.ofNat (48 + i % 10)]⟩ := by
      rw [itoaS_two (by omega) h1]
      have a1 : (48 + (i : Int) / 10).toNat = 48 + i / 10 := by omega
      have a2 : (48 + (i : Int) % 10).toNat = 48 + i % 10 := by omega
      rw [a1, a2]
    have hb : (UInt8.ofNat (48 + i / 10)).toNat = 48 + i / 10 := by simp; omega
    have hb2 : (UInt8.ofNat (48 + i % 10)).toNat = 48 + i % 10 := by simp; omega
    rw [e]
    refine ⟨⟨(by show 0 < 2; decide), (by show 2 ≤ 17; decide), fun j hj => ?_, fun _ h3 => ?_⟩, ?_⟩
    · have hj2 : j < 2 := hj
      match j, hj2 with
      | 0, _ => show 48 ≤ (UInt8.ofNat (48 + i / 10)).toNat ∧ (UInt8.ofNat (48 + i / 10)).toNat ≤ 57; omega
      | 1, _ => show 48 ≤ (UInt8.ofNat (48 + i % 10)).toNat ∧ (UInt8.ofNat (48 + i % 10)).toNat ≤ 57; omega
    · exfalso
      have h4 : (UInt8.ofNat (48 + i / 10)).toNat = 48 := h3
      omega
    · show ((numTo _ 2 : Nat) : Int) = _
      have b0 : byteN ⟨#[UInt8.ofNat (48 + i / 10), UInt8.ofNat (48 + i % 10)]⟩ 0 = 48 + i / 10 := by simp [byteN]; omega
      have b1 : byteN ⟨#[UInt8.ofNat (48 + i / 10), UInt8.ofNat (48 + i % 10)]⟩ 1 = 48 + i % 10 := by simp [byteN]; omega
      simp only [numTo, b0, b1]
      omega
end Go.Proofs.YtoiljohaicpncaaDoor
