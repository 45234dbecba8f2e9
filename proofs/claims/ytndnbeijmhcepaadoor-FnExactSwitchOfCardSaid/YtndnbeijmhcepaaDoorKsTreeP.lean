
/- Trees of comparisons: their texts and the reading of these; plain mathematics on lists of bytes. · Reading a tree, the program's leaves: what a target is, numbers, marks. · Reading a tree, the program: what the reader's methods read; where a text doesn't go on so, they panic. -/
import Derived.Lib.AtoiAll
import Derived.Lib.ItoaNum
import Derived.Test.YtndnbeijmhcepaaDoorKsLeaf
import Derived.Test.YtndnbeijmhcepaaDoorKsLay6
import Derived.LoopTactic
import Derived.RangeFuncBox
namespace Go.Proofs.YtndnbeijmhcepaaDoor
open Go.Lib

inductive TreeD where
  | leaf (c : UInt8)
  | cmp (k : Int) (l r : TreeD)
deriving Inhabited

def dgU (c : UInt8) : Bool := decide (48 ≤ c.toNat) && decide (c.toNat ≤ 57)
def tgU (c : UInt8) : Bool := (decide (97 ≤ c.toNat) && decide (c.toNat ≤ 104)) || decide (c.toNat = 122)
def goodT : TreeD → Prop
  | .leaf c => tgU c = true
  | .cmp k l r => (1 ≤ k ∧ k ≤ 31) ∧ goodT l ∧ goodT r
def textL : TreeD → List UInt8
  | .leaf c => [c]
  | .cmp k l r => 40 :: (decDigits k.toNat ++ (textL l ++ (44 :: (textL r ++ [41]))))

/-! reading, whatever reads the numbers -/
def skL (c : UInt8) : List UInt8 → Option (List UInt8)
  | [] => none
  | a :: l => if a = c then some l else none
def rdG (nm : List UInt8 → Option (Int × List UInt8)) : Nat → List UInt8 → Option (TreeD × List UInt8)
  | 0, _ => none
  | _ + 1, [] => none
  | f + 1, a :: l =>
    if a = 40 then
      match nm l with
      | none => none
      | some (k, l1) => match rdG nm f l1 with
        | none => none
        | some (x, l2) => match skL 44 l2 with
          | none => none
          | some l3 => match rdG nm f l3 with
            | none => none
            | some (y, l4) => match skL 41 l4 with
              | none => none
              | some l5 => some (.cmp k x y, l5)
    else if tgU a = true then some (.leaf a, l) else none

theorem skL_some {c : UInt8} {l l' : List UInt8} (h : skL c l = some l') : l = c :: l' := by
  cases l with
  | nil => cases h
  | cons a l => simp only [skL] at h; split at h <;> simp_all
theorem skL_hit (c : UInt8) (l : List UInt8) : skL c (c :: l) = some l := by simp [skL]

/-- Takes a reading of a comparison apart. -/
theorem rdG_cmp {nm : List UInt8 → Option (Int × List UInt8)} {f : Nat} {l : List UInt8} {t : TreeD} {l' : List UInt8} (h : rdG nm (f + 1) (40 :: l) = some (t, l')) :
    ∃ k l1 x l2 y l4, nm l = some (k, l1) ∧ rdG nm f l1 = some (x, 44 :: l2) ∧ rdG nm f l2 = some (y, 41 :: l4) ∧ t = .cmp k x y ∧ l' = l4 := by
  simp only [rdG, if_true] at h
  cases h1 : nm l with
  | none => simp [h1] at h
  | some p =>
    obtain ⟨k, l1⟩ := p
    simp only [h1] at h
    cases h2 : rdG nm f l1 with
    | none => simp [h2] at h
    | some p =>
      obtain ⟨x, l2⟩ := p
      simp only [h2] at h
      cases h3 : skL 44 l2 with
      | none => simp [h3] at h
      | some l3 =>
        simp only [h3] at h
        cases h4 : rdG nm f l3 with
        | none => simp [h4] at h
        | some p =>
          obtain ⟨y, l4⟩ := p
          simp only [h4] at h
          cases h5 : skL 41 l4 with
          | none => simp [h5] at h
          | some l5 =>
            simp only [h5, Option.some.injEq, Prod.mk.injEq] at h
            rw [skL_some h3] at h2
            rw [skL_some h5] at h4
            exact ⟨k, l1, x, l3, y, l5, rfl, h2, h4, h.1.symm, h.2.symm⟩
theorem rdG_leaf {nm : List UInt8 → Option (Int × List UInt8)} {f : Nat} {a : UInt8} {l : List UInt8} {t : TreeD} {l' : List UInt8} (ha : ¬ a = 40) (h : rdG nm (f + 1) (a :: l) = some (t, l')) : tgU a = true ∧ t = .leaf a ∧ l' = l := by
  simp only [rdG, if_neg ha] at h
  split at h
  · rename_i ht; simp only [Option.some.injEq, Prod.mk.injEq] at h; exact ⟨ht, h.1.symm, h.2.symm⟩
  · cases h

theorem decDigits_le {k : Int} (h0 : 1 ≤ k) (h1 : k ≤ 31) : (decDigits k.toNat).length ≤ 2 ∧ 1 ≤ (decDigits k.toNat).length := by
  by_cases h : k.toNat < 10
  · rw [decDigits_one h]; simp
  · rw [decDigits_two h (by omega)]; simp

/-- What is read is good, no longer than twice its text, and something is read. -/
theorem rdG_good {nm : List UInt8 → Option (Int × List UInt8)} (hn : ∀ l k l', nm l = some (k, l') → (1 ≤ k ∧ k ≤ 31) ∧ l'.length < l.length) :
    ∀ (f : Nat) (l : List UInt8) (t : TreeD) (l' : List UInt8), rdG nm f l = some (t, l') → goodT t ∧ (textL t).length + 2 * l'.length ≤ 2 * l.length ∧ l'.length < l.length
  | 0, _, _, _, h => by cases h
  | f + 1, [], _, _, h => by cases h
  | f + 1, a :: l, t, l', h => by
    by_cases ha : a = 40
    · subst ha
      obtain ⟨k, l1, x, l2, y, l4, h1, h2, h3, rfl, rfl⟩ := rdG_cmp h
      obtain ⟨hk, e1⟩ := hn _ _ _ h1
      obtain ⟨g2, s2, e2⟩ := rdG_good hn f _ _ _ h2
      obtain ⟨g3, s3, e3⟩ := rdG_good hn f _ _ _ h3
      have := decDigits_le hk.1 hk.2
      refine ⟨⟨hk, g2, g3⟩, ?_, ?_⟩
      · simp only [textL, List.length_cons, List.length_append, List.length_nil] at s2 s3 e2 e3 ⊢; omega
      · simp only [List.length_cons] at s2 s3 e2 e3 ⊢; omega
    · obtain ⟨ht, rfl, rfl⟩ := rdG_leaf ha h
      exact ⟨ht, by simp [textL]; omega, by simp⟩

/-- What is read has the text that was read, if numbers have. -/
theorem rdG_sound {nm : List UInt8 → Option (Int × List UInt8)} (hn : ∀ l k l', nm l = some (k, l') → l = decDigits k.toNat ++ l') :
    ∀ (f : Nat) (l : List UInt8) (t : TreeD) (l' : List UInt8), rdG nm f l = some (t, l') → l = textL t ++ l'
  | 0, _, _, _, h => by cases h
  | f + 1, [], _, _, h => by cases h
  | f + 1, a :: l, t, l', h => by
    by_cases ha : a = 40
    · subst ha
      obtain ⟨k, l1, x, l2, y, l4, h1, h2, h3, rfl, rfl⟩ := rdG_cmp h
      rw [hn _ _ _ h1, rdG_sound hn f _ _ _ h2, rdG_sound hn f _ _ _ h3]
      simp [textL]
    · obtain ⟨_, rfl, rfl⟩ := rdG_leaf ha h
      simp [textL]

/-- No digit ahead. -/
def noDg (l : List UInt8) : Prop := ∀ c r, l = c :: r → dgU c = false
theorem tgU_noDg {c : UInt8} (h : tgU c = true) : dgU c = false := by
  simp [tgU, dgU] at h ⊢
  omega
theorem textL_noDg {t : TreeD} (h : goodT t) (y : List UInt8) : noDg (textL t ++ y) := by
  intro c r e
  cases t with
  | leaf a => simp [textL] at e; rw [← e.1]; exact tgU_noDg h
  | cmp k l r => simp [textL] at e; rw [← e.1]; decide
/-- Whatever has the text of a tree ahead is read so. -/
theorem rdG_full {nm : List UInt8 → Option (Int × List UInt8)} (hn : ∀ k y, 1 ≤ k → k ≤ 31 → noDg y → nm (decDigits k.toNat ++ y) = some (k, y)) :
    ∀ (t : TreeD) (f : Nat) (y : List UInt8), goodT t → (textL t).length < f + 1 → rdG nm (f + 1) (textL t ++ y) = some (t, y)
  | .leaf c, f, y, h, _ => by
    have hc : ¬ c = 40 := by intro e; subst e; exact absurd (show tgU 40 = true from h) (by decide)
    have h' : tgU c = true := h
    simp [textL, rdG, if_neg hc, h']
  | .cmp k l r, 0, y, h, hf => by simp [textL] at hf
  | .cmp k l r, f + 1, y, h, hf => by
    obtain ⟨hk, hl, hr⟩ := h
    simp only [textL, List.length_cons, List.length_append, List.length_nil] at hf
    have e : textL (.cmp k l r) ++ y = 40 :: (decDigits k.toNat ++ (textL l ++ (44 :: (textL r ++ (41 :: y))))) := by simp [textL]
    rw [e]
    simp only [rdG, if_true]
    rw [hn k _ hk.1 hk.2 (textL_noDg hl _)]
    simp only
    rw [rdG_full hn l f _ hl (by omega)]
    simp only
    rw [skL_hit]
    simp only
    rw [rdG_full hn r f _ hr (by omega)]
    simp only
    rw [skL_hit]

/-! numbers, read by the program -/
def bdL (l : List UInt8) : Option (Int × List UInt8) :=
  match atoiAll (l.takeWhile dgU) with
  | .ok v => if 1 ≤ v ∧ v ≤ 31 then some (v, l.dropWhile dgU) else none
  | _ => none
theorem take_dg {d : List UInt8} (hd : ∀ c ∈ d, dgU c = true) {y : List UInt8} (hy : noDg y) : (d ++ y).takeWhile dgU = d ∧ (d ++ y).dropWhile dgU = y := by
  induction d with
  | nil =>
    cases y with
    | nil => exact ⟨rfl, rfl⟩
    | cons c r => have := hy c r rfl; simp [this]
  | cons a d ih =>
    have h1 := hd a (by simp)
    obtain ⟨i1, i2⟩ := ih fun c hc => hd c (by simp [hc])
    simp [h1, i1, i2]
def tstOne (i : Nat) : Bool := dgU (UInt8.ofNat (48 + i)) && (match atoiAll [UInt8.ofNat (48 + i)] with | .ok v => decide (v = (i : Int)) | _ => false)
theorem one_all : ∀ i : Fin 10, tstOne i.1 = true := by decide +kernel
def tstTwo (i : Nat) : Bool := dgU (UInt8.ofNat (48 + i / 10)) && dgU (UInt8.ofNat (48 + i % 10)) && (match atoiAll [UInt8.ofNat (48 + i / 10), UInt8.ofNat (48 + i % 10)] with | .ok v => decide (v = (i : Int)) | _ => false)
theorem two_all : ∀ i : Fin 32, tstTwo i.1 = true := by decide +kernel
theorem dec_facts {k : Int} (h0 : 1 ≤ k) (h1 : k ≤ 31) : (∀ c ∈ decDigits k.toNat, dgU c = true) ∧ atoiAll (decDigits k.toNat) = .ok k := by
  obtain ⟨i, rfl⟩ := Int.eq_ofNat_of_zero_le (show 0 ≤ k by omega)
  rw [Int.toNat_natCast]
  by_cases h : i < 10
  · have := one_all ⟨i, h⟩
    rw [decDigits_one h]
    simp only [tstOne, Bool.and_eq_true] at this
    obtain ⟨a, b⟩ := this
    refine ⟨fun c hc => ?_, ?_⟩
    · simp only [List.mem_cons, List.not_mem_nil, or_false] at hc
      subst hc
      exact a
    split at b
    · rename_i v hv; rw [hv]; simp at b; rw [b]
    · cases b
  · have := two_all ⟨i, by omega⟩
    rw [decDigits_two h (by omega)]
    simp only [tstTwo, Bool.and_eq_true] at this
    obtain ⟨⟨a, a'⟩, b⟩ := this
    refine ⟨fun c hc => ?_, ?_⟩
    · simp only [List.mem_cons, List.not_mem_nil, or_false] at hc
      rcases hc with rfl | rfl
      · exact a
      · exact a'
    split at b
    · rename_i v hv; rw [hv]; simp at b; rw [b]
    · cases b
theorem bdL_full (k : Int) (y : List UInt8) (h0 : 1 ≤ k) (h1 : k ≤ 31) (hy : noDg y) : bdL (decDigits k.toNat ++ y) = some (k, y) := by
  obtain ⟨a, b⟩ := dec_facts h0 h1
  obtain ⟨c, d⟩ := take_dg a hy
  rw [bdL, c, b, d]
  simp [h0, h1]
theorem bdL_good (l : List UInt8) (k : Int) (l' : List UInt8) (h : bdL l = some (k, l')) : (1 ≤ k ∧ k ≤ 31) ∧ l'.length < l.length := by
  rw [bdL] at h
  split at h
  · rename_i v hv
    split at h
    · rename_i hb
      simp only [Option.some.injEq, Prod.mk.injEq] at h
      obtain ⟨rfl, rfl⟩ := h
      refine ⟨hb, ?_⟩
      cases l with
      | nil => cases hv
      | cons a l =>
        by_cases ha : dgU a = true
        · rw [List.dropWhile_cons, if_pos ha]
          have := (List.dropWhile_suffix dgU (l := l)).length_le
          simp; omega
        · rw [List.takeWhile_cons, if_neg ha] at hv
          cases hv
    · cases h
  · cases h

/-! numbers, read by the model -/
def valL (l : List UInt8) : Nat := l.foldl (fun n c => n * 10 + (c.toNat - 48)) 0
def plainL (d : List UInt8) : Bool := match d with | [] => false | a :: r => !(a == 48) || r.isEmpty
def dsL (l : List UInt8) : List UInt8 := (l.takeWhile dgU).take 3
def okD (d : List UInt8) : Bool := plainL d && decide (1 ≤ valL d) && decide (valL d ≤ 31)
def nmL (l : List UInt8) : Option (Int × List UInt8) := if okD (dsL l) = true then some ((valL (dsL l) : Nat), l.drop (dsL l).length) else none
theorem dsL_prefix (l : List UInt8) : l = dsL l ++ l.drop (dsL l).length := by
  have h1 : dsL l <+: l := (List.take_prefix 3 _).trans (List.takeWhile_prefix dgU)
  obtain ⟨r, hr⟩ := h1
  rw [← hr]
  have e : dsL (dsL l ++ r) = dsL l := by rw [hr]
  rw [e]
  simp
theorem dsL_len (l : List UInt8) : (dsL l).length ≤ 3 := by simp [dsL]; omega
theorem dsL_dg (l : List UInt8) : ∀ c ∈ dsL l, dgU c = true := fun c hc => List.all_eq_true.1 List.all_takeWhile c (List.mem_of_mem_take hc)
theorem ofNat_dg {c : UInt8} (h : dgU c = true) : UInt8.ofNat (48 + (c.toNat - 48)) = c := by
  simp [dgU] at h
  rw [show 48 + (c.toNat - 48) = c.toNat by omega]
  simp
theorem okD_dec {d : List UInt8} (hl : d.length ≤ 3) (hd : ∀ c ∈ d, dgU c = true) (h : okD d = true) : (1 ≤ valL d ∧ valL d ≤ 31) ∧ d = decDigits (valL d) := by
  simp only [okD, Bool.and_eq_true, decide_eq_true_eq] at h
  obtain ⟨⟨hp, h1⟩, h2⟩ := h
  refine ⟨⟨h1, h2⟩, ?_⟩
  match d, hl with
  | [], _ => simp [plainL] at hp
  | [a], _ =>
    have ha := hd a (by simp)
    have hv : valL [a] = a.toNat - 48 := by simp [valL]
    have hb : a.toNat - 48 < 10 := by simp [dgU] at ha; omega
    rw [hv, decDigits_one hb, ofNat_dg ha]
  | [a, b], _ =>
    have ha := hd a (by simp)
    have hb := hd b (by simp)
    have hv : valL [a, b] = (a.toNat - 48) * 10 + (b.toNat - 48) := by simp [valL]
    have hz : ¬ a = 48 := by simpa [plainL] using hp
    have hz2 : ¬ a.toNat = 48 := fun e => hz (UInt8.toNat_inj.1 e)
    have hb' : b.toNat - 48 < 10 := by simp [dgU] at hb; omega
    have ha1 : 48 ≤ a.toNat := by simp [dgU] at ha; omega
    rw [hv] at h2 ⊢
    rw [decDigits_two (by omega) (by omega)]
    have e1 : ((a.toNat - 48) * 10 + (b.toNat - 48)) / 10 = a.toNat - 48 := by omega
    have e2 : ((a.toNat - 48) * 10 + (b.toNat - 48)) % 10 = b.toNat - 48 := by omega
    rw [e1, e2, ofNat_dg ha, ofNat_dg hb]
  | [a, b, c], _ =>
    exfalso
    have ha := hd a (by simp)
    have hz : ¬ a = 48 := by simpa [plainL] using hp
    have hz2 : ¬ a.toNat = 48 := fun e => hz (UInt8.toNat_inj.1 e)
    have ha1 : 48 ≤ a.toNat := by simp [dgU] at ha; omega
    have hv : valL [a, b, c] = ((a.toNat - 48) * 10 + (b.toNat - 48)) * 10 + (c.toNat - 48) := by simp [valL]
    omega
  | _ :: _ :: _ :: _ :: _, h => simp at h
theorem nmL_good (l : List UInt8) (k : Int) (l' : List UInt8) (h : nmL l = some (k, l')) : (1 ≤ k ∧ k ≤ 31) ∧ l = decDigits k.toNat ++ l' := by
  rw [nmL] at h
  split at h
  · rename_i ho
    simp only [Option.some.injEq, Prod.mk.injEq] at h
    obtain ⟨rfl, rfl⟩ := h
    obtain ⟨h1, h2⟩ := okD_dec (dsL_len l) (dsL_dg l) ho
    refine ⟨by omega, ?_⟩
    rw [Int.toNat_natCast, ← h2]
    exact dsL_prefix l
  · cases h
theorem nmL_len (l : List UInt8) (k : Int) (l' : List UInt8) (h : nmL l = some (k, l')) : (1 ≤ k ∧ k ≤ 31) ∧ l'.length < l.length := by
  obtain ⟨h1, h2⟩ := nmL_good l k l' h
  have := decDigits_le h1.1 h1.2
  refine ⟨h1, ?_⟩
  rw [h2, List.length_append]
  omega
def tstN (d : List UInt8) (i : Nat) : Bool := okD d && decide (valL d = i)
theorem one_allN : ∀ i : Fin 10, i.1 = 0 ∨ tstN [UInt8.ofNat (48 + i.1)] i.1 = true := by decide +kernel
theorem two_allN : ∀ i : Fin 32, i.1 < 10 ∨ tstN [UInt8.ofNat (48 + i.1 / 10), UInt8.ofNat (48 + i.1 % 10)] i.1 = true := by decide +kernel
theorem nmL_full (k : Int) (y : List UInt8) (h0 : 1 ≤ k) (h1 : k ≤ 31) (hy : noDg y) : nmL (decDigits k.toNat ++ y) = some (k, y) := by
  obtain ⟨a, _⟩ := dec_facts h0 h1
  obtain ⟨c, _⟩ := take_dg a hy
  have hl := decDigits_le h0 h1
  have e : dsL (decDigits k.toNat ++ y) = decDigits k.toNat := by rw [dsL, c, List.take_of_length_le (by omega)]
  have ht : tstN (decDigits k.toNat) k.toNat = true := by
    by_cases h : k.toNat < 10
    · rw [decDigits_one h]
      exact (one_allN ⟨k.toNat, h⟩).resolve_left (by simp; omega)
    · rw [decDigits_two h (by omega)]
      exact (two_allN ⟨k.toNat, by omega⟩).resolve_left (by simp; omega)
  simp only [tstN, Bool.and_eq_true, decide_eq_true_eq] at ht
  rw [nmL, e, if_pos ht.1, ht.2]
  simp
  omega

/-! texts of trees -/
/-- The tree of a text, as the model reads it. -/
def treeS (s : List UInt8) : Option TreeD :=
  match rdG nmL (s.length + 1) s with
  | some (t, []) => if s.length ≤ 200 then some t else none
  | _ => none
/-- The tree of a text, as the program reads it. -/
def treeI (s : List UInt8) : Option TreeD :=
  if s.length ≤ 200 then
    match rdG bdL (s.length + 1) s with
    | some (t, _) => if textL t = s then some t else none
    | none => none
  else none
theorem treeS_iff {s : List UInt8} {t : TreeD} : treeS s = some t ↔ goodT t ∧ textL t = s ∧ s.length ≤ 200 := by
  constructor
  · intro h
    unfold treeS at h
    split at h
    · rename_i t' hr
      split at h
      · rename_i hl
        cases h
        exact ⟨(rdG_good nmL_len _ _ _ _ hr).1, by simpa using (rdG_sound (fun l k l' h => (nmL_good l k l' h).2) _ _ _ _ hr).symm, hl⟩
      · cases h
    · cases h
  · rintro ⟨hg, rfl, hl⟩
    have := rdG_full nmL_full t (textL t).length [] hg (by omega)
    rw [List.append_nil] at this
    simp [treeS, this, hl]
theorem treeI_iff {s : List UInt8} {t : TreeD} : treeI s = some t ↔ goodT t ∧ textL t = s ∧ s.length ≤ 200 := by
  constructor
  · intro h
    unfold treeI at h
    split at h
    · rename_i hl
      split at h
      · rename_i t' l' hr
        split at h
        · rename_i he
          cases h
          exact ⟨(rdG_good bdL_good _ _ _ _ hr).1, he, hl⟩
        · cases h
      · cases h
    · cases h
  · rintro ⟨hg, rfl, hl⟩
    have := rdG_full bdL_full t (textL t).length [] hg (by omega)
    rw [List.append_nil] at this
    simp [treeI, this, hl]
theorem treeI_eq (s : List UInt8) : treeI s = treeS s := by
  cases h : treeS s with
  | some t => exact treeI_iff.2 (treeS_iff.1 h)
  | none =>
    cases h2 : treeI s with
    | none => rfl
    | some t => rw [treeS_iff.2 (treeI_iff.1 h2)] at h; cases h

/-! what a tree says -/
def trT : TreeD → Int → UInt8 × Nat
  | .leaf c, _ => (c, 0)
  | .cmp k l r, key => if key < k then ((trT l key).1, (trT l key).2 + 1) else ((trT r key).1, (trT r key).2 + 1)
def depthT : TreeD → Nat
  | .leaf _ => 0
  | .cmp _ l r => max (depthT l) (depthT r) + 1
def countT : TreeD → Nat
  | .leaf _ => 0
  | .cmp _ l r => countT l + countT r + 1
theorem count_text (t : TreeD) : countT t ≤ (textL t).length ∧ depthT t ≤ countT t := by
  induction t with
  | leaf c => simp [countT, depthT]
  | cmp k l r h1 h2 => simp only [countT, depthT, textL, List.length_cons, List.length_append, List.length_nil]; omega
theorem run_depth (t : TreeD) (key : Int) : (trT t key).2 ≤ depthT t := by
  induction t with
  | leaf c => simp [trT]
  | cmp k l r h1 h2 => simp only [trT, depthT]; split <;> simp only <;> omega
end Go.Proofs.YtndnbeijmhcepaaDoor

namespace Go.Proofs.YtndnbeijmhcepaaDoor
open Go.RowKit

def tgV (n : Int) : Bool := tgtB n || decide (n = 122)
theorem tgV_tgU (c : UInt8) : tgV (c.toNat : Int) = tgU c := by
  have : ∀ i : Fin 256, tgV (i.1 : Int) = tgU (UInt8.ofNat i.1) := by decide +kernel
  have h := this ⟨c.toNat, c.toNat_lt⟩
  simp only [UInt8.ofNat_toNat] at h
  exact h
set_option maxHeartbeats 400000 in
theorem tvalid_any (n : Int) (w : World) : Calls Tryd.prog 96 #[.int .u8 n] w fun e w' => e = .returned (.bool (tgV n)) ∧ w = w' := by
  by_cases h2 : (n == 122) = true
  · cases h : tgtB n
    all_goals
      go_enter Tryd.func96, Tryd.ntmps96
      go_wp2_with (go_at_call 111; refine (ofCase_any _ _).mono ?_; rintro e w' ⟨rfl, rfl⟩)
      go_ret
      exact ⟨retB (by simp [tgV, h]; try simpa using h2), rfl⟩
  · simp only [Bool.not_eq_true] at h2
    cases h : tgtB n
    all_goals
      go_enter Tryd.func96, Tryd.ntmps96
      go_wp2_with (go_at_call 111; refine (ofCase_any _ _).mono ?_; rintro e w' ⟨rfl, rfl⟩)
      go_ret
      exact ⟨retB (by simp [tgV, h]; try simpa using h2), rfl⟩

/-! digits ahead -/
def ls (s : ByteArray) : List UInt8 := s.data.toList
theorem ls_len (s : ByteArray) : (ls s).length = s.size := Array.length_toList
theorem ls_ext {a b : ByteArray} (h : ls a = ls b) : a = b := ByteArray.ext (Array.toList_inj.1 h)
theorem ls_get (s : ByteArray) (k : Nat) (h : k < s.size) : (ls s)[k]'(by rw [ls_len]; exact h) = s[k] := by
  simp only [ls, Array.getElem_toList]
  rfl
theorem ls_extract (s : ByteArray) (a b : Nat) : ls (s.extract a b) = ((ls s).take b).drop a := by
  simp [ls, ByteArray.data_extract, Array.toList_extract, List.extract_eq_drop_take']
def dgE (s : ByteArray) : Nat := ((ls s).takeWhile dgU).length
theorem dgE_le (s : ByteArray) : dgE s ≤ s.size := by
  have := (List.takeWhile_prefix dgU (l := ls s)).length_le
  rw [ls_len] at this
  exact this
theorem tw_len (l : List UInt8) : (∀ k (h : k < (l.takeWhile dgU).length), ∃ h' : k < l.length, dgU l[k] = true) ∧ (∀ h : (l.takeWhile dgU).length < l.length, dgU l[(l.takeWhile dgU).length] = false) ∧ l.takeWhile dgU = l.take (l.takeWhile dgU).length ∧ l.dropWhile dgU = l.drop (l.takeWhile dgU).length := by
  induction l with
  | nil => simp
  | cons a l ih =>
    by_cases ha : dgU a = true
    · obtain ⟨i1, i2, i3, i4⟩ := ih
      simp only [List.takeWhile_cons, List.dropWhile_cons, if_pos ha, List.length_cons, List.take_succ_cons, List.drop_succ_cons]
      refine ⟨fun k h => ?_, fun h => ?_, by rw [← i3], i4⟩
      · cases k with
        | zero => exact ⟨by omega, by simpa using ha⟩
        | succ k => obtain ⟨h', hd⟩ := i1 k (by omega); exact ⟨by omega, by simpa using hd⟩
      · simpa using i2 (by omega)
    · simp [ha]
theorem dgE_lt (s : ByteArray) (k : Nat) (h : k < dgE s) : ∃ h' : k < s.size, dgU s[k] = true := by
  obtain ⟨h', hd⟩ := (tw_len (ls s)).1 k h
  have h2 : k < s.size := by rw [← ls_len]; exact h'
  exact ⟨h2, by rw [← ls_get s k h2]; exact hd⟩
theorem dgE_end (s : ByteArray) (h : dgE s < s.size) : dgU s[dgE s] = false := by
  rw [← ls_get s _ h]
  exact (tw_len (ls s)).2.1 (by rw [ls_len]; exact h)
theorem dgE_front (s : ByteArray) : ls (s.extract 0 (dgE s)) = (ls s).takeWhile dgU := by
  rw [ls_extract, List.drop_zero]
  exact ((tw_len (ls s)).2.2.1).symm
theorem dgE_back (s : ByteArray) : ls (s.extract (dgE s) s.size) = (ls s).dropWhile dgU := by
  rw [ls_extract, List.take_of_length_le (by rw [ls_len]; exact Nat.le_refl _)]
  exact ((tw_len (ls s)).2.2.2).symm
theorem dgU_iff (c : UInt8) : dgU c = true ↔ (48 : Int) ≤ (c.toNat : Int) ∧ (c.toNat : Int) ≤ 57 := by
  simp [dgU]; omega

/-- What Atoi's errors lie in. -/
def NumErrs (w : World) : Prop := ∃ ev er : Value, w.cell? ⟨6, 0, none⟩ = some ev ∧ (ev = .nilIface ∨ ∃ te pe, ev = .iface te pe) ∧ w.cell? ⟨7, 0, none⟩ = some er ∧ (er = .nilIface ∨ ∃ te pe, er = .iface te pe)
theorem NumErrs.kept {w w' : World} {row : Option Nat} (h : NumErrs w) (hg : w.grownBy w' row) (h1 : row ≠ some 6) (h2 : row ≠ some 7) : NumErrs w' := by
  obtain ⟨ev, er, a, b, c, d⟩ := h
  exact ⟨ev, er, hg.cell a (Ne.symm h1), b, hg.cell c (Ne.symm h2), d⟩

theorem ret3n {a b : Int} {s t : ByteArray} {v : Value} (h1 : a = b) (h2 : s = t) : Ending.returned (.tuple #[.int .i64 a, .string s, v]) = .returned (.tuple #[.int .i64 b, .string t, v]) := by rw [h1, h2]
/-- What readNumber hands back. -/
def NumOut (s : ByteArray) (x : Ending) : Prop :=
  (∃ v, Lib.atoiAll ((ls s).takeWhile dgU) = .ok v ∧ x = .returned (.tuple #[.int .i64 v, .string (s.extract (dgE s) s.size), .nilIface])) ∨
  ((∀ v, Lib.atoiAll ((ls s).takeWhile dgU) ≠ .ok v) ∧ ∃ z T p, x = .returned (.tuple #[.int .i64 z, .string (s.extract (dgE s) s.size), .iface T p]))
/-- What Atoi hands back of the digits ahead. -/
theorem atoi_digits (s : ByteArray) (hs : s.size ≤ 100000) (w : World) (hE : NumErrs w) :
    Calls Tryd.prog 113 #[.string (s.extract 0 (dgE s))] w fun x w' => ((∃ v, Lib.atoiAll ((ls s).takeWhile dgU) = .ok v ∧ x = .returned (.tuple #[.int .i64 v, .nilIface])) ∨
      ((∀ v, Lib.atoiAll ((ls s).takeWhile dgU) ≠ .ok v) ∧ ∃ z T p, x = .returned (.tuple #[.int .i64 z, .iface T p]))) ∧ Below w.heap.size w w' := by
  obtain ⟨ev, er, a, b, c, d⟩ := hE
  have hsz : (s.extract 0 (dgE s)).size ≤ 100000 := by rw [ByteArray.size_extract]; have := dgE_le s; omega
  have hl : (s.extract 0 (dgE s)).data.toList = (ls s).takeWhile dgU := dgE_front s
  cases h : Lib.atoiAll ((ls s).takeWhile dgU)
  · rename_i v
    refine (Any.strconv_Atoi_ok Tryd.lays172 _ (by omega) v (by rw [hl]; exact h) w).mono ?_
    rintro x w' ⟨rfl, hw⟩
    refine ⟨.inl ⟨v, rfl, rfl⟩, ?_⟩
    rcases hw with rfl | ⟨t, rfl⟩
    · exact Below.refl _ _
    · exact Lib.bytesWorld_below _ _ _
  · refine (Any.strconv_Atoi_syntax Tryd.lays172 _ (by omega) (by rw [hl]; exact h) ev w a b).mono ?_
    rintro x w' ⟨N, rfl, _, _, hb⟩
    exact ⟨.inr ⟨(fun v e => by cases e), _, _, _, rfl⟩, hb⟩
  · refine (Any.strconv_Atoi_range Tryd.lays172 _ (by omega) (by rw [hl]; exact h) er w c d).mono ?_
    rintro x w' ⟨N, rfl, _, _, hb⟩
    exact ⟨.inr ⟨(fun v e => by cases e), _, _, _, rfl⟩, hb⟩

set_option maxRecDepth 100000 in
set_option maxHeartbeats 1000000 in
theorem readNumber_any (s : ByteArray) (hs : s.size ≤ 100000) (w : World) (hE : NumErrs w) :
    Calls Tryd.prog 98 #[.string s] w fun x w' => NumOut s x ∧ Below w.heap.size w w' := by
  have HA := Lib.hid (atoi_digits s hs w hE)
  have hle := dgE_le s
  have hsi : (s.size : Int) ≤ 100000 := by omega
  have HLT := Lib.hid (fun k h => dgE_lt s k h)
  have HEND := Lib.hid (fun h => dgE_end s h)
  have HNO := Lib.hid (show ∀ x, NumOut s x ↔ ((∃ v, Lib.atoiAll ((ls s).takeWhile dgU) = .ok v ∧ x = .returned (.tuple #[.int .i64 v, .string (s.extract (dgE s) s.size), .nilIface])) ∨ ((∀ v, Lib.atoiAll ((ls s).takeWhile dgU) ≠ .ok v) ∧ ∃ z T p, x = .returned (.tuple #[.int .i64 z, .string (s.extract (dgE s) s.size), .iface T p]))) from fun _ => Iff.rfl)
  obtain ⟨e, he⟩ : ∃ e, e = dgE s := ⟨_, rfl⟩
  rw [← he] at HA hle HLT HEND HNO
  clear he
  go_enter Tryd.func98, Tryd.ntmps98
  go_wp2_with fail
  go_loopw [5] (fun i wr => ∃ k : Nat, i = .int .i64 k ∧ k ≤ e ∧ wr = w) (fun i _ => e - (intOf i).toNat)
  case atStart => exact ⟨0, rfl, Nat.zero_le _, rfl⟩
  case round =>
    obtain ⟨k, rfl, hk, rfl⟩ := hrel
    by_cases hlt : k < e
    · obtain ⟨h1, hd⟩ := HLT.out k hlt
      have hd2 := (dgU_iff _).1 hd
      obtain ⟨d1, d2⟩ := hd2
      clear hd
      go_wp2_with fail
      go_roundw
      case rel => exact ⟨k + 1, by go_num, by omega, trivial⟩
      case measure => simp [intOf]; omega
    · have hke : k = e := by omega
      subst hke
      have hki : ((k : Nat) : Int) ≤ (s.size : Int) := by omega
      by_cases hsz : k < s.size
      · have hd := HEND.out hsz
        have hd2 : ¬ ((48 : Int) ≤ (s[k].toNat : Int) ∧ (s[k].toNat : Int) ≤ 57) := by rw [← dgU_iff, hd]; exact Bool.false_ne_true
        clear hd
        by_cases d1 : (48 : Int) ≤ (s[k].toNat : Int)
        · have d2 := fun h => hd2 ⟨d1, h⟩
          clear hd2
          go_wp2_with fail
          refine HA.out.mono ?_
          rintro x w1 ⟨hx, hb⟩
          have HB := Lib.hid hb
          have HX := Lib.hid hx
          clear hx hb
          rcases HX.out with ⟨v, hv, rfl⟩ | ⟨hv, z, T, p, rfl⟩
          all_goals
            have HV := Lib.hid hv
            clear hv HX
            go_wp2
            go_quiet (fail)
            go_wp2
          · go_ret3
            exact ⟨(HNO.out _).2 (.inl ⟨v, HV.out, rfl⟩), below_drewN HB.out _⟩
          · go_ret3
            exact ⟨(HNO.out _).2 (.inr ⟨HV.out, z, T, p, rfl⟩), below_drewN HB.out _⟩
        · clear hd2
          go_wp2_with fail
          refine HA.out.mono ?_
          rintro x w1 ⟨hx, hb⟩
          have HB := Lib.hid hb
          have HX := Lib.hid hx
          clear hx hb
          rcases HX.out with ⟨v, hv, rfl⟩ | ⟨hv, z, T, p, rfl⟩
          all_goals
            have HV := Lib.hid hv
            clear hv HX
            go_wp2
            go_quiet (fail)
            go_wp2
          · go_ret3
            exact ⟨(HNO.out _).2 (.inl ⟨v, HV.out, rfl⟩), below_drewN HB.out _⟩
          · go_ret3
            exact ⟨(HNO.out _).2 (.inr ⟨HV.out, z, T, p, rfl⟩), below_drewN HB.out _⟩
      · go_wp2_with fail
        refine HA.out.mono ?_
        rintro x w1 ⟨hx, hb⟩
        have HB := Lib.hid hb
        have HX := Lib.hid hx
        clear hx hb
        rcases HX.out with ⟨v, hv, rfl⟩ | ⟨hv, z, T, p, rfl⟩
        all_goals
          have HV := Lib.hid hv
          clear hv HX
          go_wp2
          go_quiet (fail)
          go_wp2
        · go_ret3
          exact ⟨(HNO.out _).2 (.inl ⟨v, HV.out, rfl⟩), below_drewN HB.out _⟩
        · go_ret3
          exact ⟨(HNO.out _).2 (.inr ⟨HV.out, z, T, p, rfl⟩), below_drewN HB.out _⟩
end Go.Proofs.YtndnbeijmhcepaaDoor

namespace Go.Proofs.YtndnbeijmhcepaaDoor
open Go.RowKit

/-- The variables that reading leans on. -/
structure VarsAt (w : World) : Prop where
  num : NumErrs w
  tree : ∃ T v, w.cell? ⟨0, 0, none⟩ = some (.iface T v)
/-- Block R is none of them. -/
def apartR (R : Nat) : Prop := R ≠ 0 ∧ R ≠ 6 ∧ R ≠ 7
theorem VarsAt.kept {w w' : World} {R : Nat} (h : VarsAt w) (hg : w.grownBy w' (some R)) (hR : apartR R) : VarsAt w' := by
  obtain ⟨hn, T, v, ht⟩ := h
  exact ⟨hn.kept hg (by intro e; cases e; exact hR.2.1 rfl) (by intro e; cases e; exact hR.2.2 rfl), T, v, hg.cell ht (by intro e; cases e; exact hR.1 rfl)⟩
theorem VarsAt.keptN {w w' : World} (h : VarsAt w) (hg : w.grownBy w' none) : VarsAt w' := by
  obtain ⟨hn, T, v, ht⟩ := h
  exact ⟨hn.kept hg (by simp) (by simp), T, v, hg.cell ht (by simp)⟩
theorem grown_of_belowT {w w' : World} (h : Below w.heap.size w w') (row : Option Nat) : w.grownBy w' row := ⟨h.os, h.tape, h.output, h.size, fun k hk _ => h.block k hk⟩

abbrev rdP (R : Nat) : Value := .pointer (some ⟨R, 0, none⟩)
abbrev RdBox (w : World) (R : Nat) (s : ByteArray) : Prop := Boxed w R 102 (.string s)
/-- A panic of the program's own. -/
def Dies (x : Ending) : Prop := ∃ T v, x = .panicked [{ v := .iface T v, recovered := false }]

theorem ls_nil {s : ByteArray} (h : ls s = []) : s.size = 0 := by rw [← ls_len, h]; rfl
theorem ls_cons {s : ByteArray} {a : UInt8} {l : List UInt8} (h : ls s = a :: l) : ∃ h0 : 0 < s.size, s[0] = a ∧ ls (s.extract 1 s.size) = l := by
  have h0 : 0 < s.size := by rw [← ls_len, h]; simp
  refine ⟨h0, ?_, ?_⟩
  · rw [← ls_get s 0 h0]; simp [h]
  · rw [ls_extract, List.take_of_length_le (by rw [ls_len]; exact Nat.le_refl _), h]; rfl

/-! strings.CutPrefix of one byte -/
def oneS (c : UInt8) : ByteArray := ⟨#[c]⟩
theorem hp_one (s : ByteArray) (c : UInt8) : Lib.hasPrefix s.data.toList (oneS c).data.toList = (skL c (ls s)).isSome := by
  show List.isPrefixOf [c] (ls s) = _
  cases ls s with
  | nil => rfl
  | cons a l => by_cases h : a = c <;> simp [skL, h, List.isPrefixOf]; intro e; exact h e.symm
theorem cutp_hit (s : ByteArray) (c : UInt8) (l : List UInt8) (h : skL c (ls s) = some l) (w : World) :
    Calls Tryd.prog 97 #[.string s, .string (oneS c)] w fun x w' => x = .returned (.tuple #[.string (s.extract 1 s.size), .bool true]) ∧ Below w.heap.size w w' := by
  obtain ⟨h0, _, _⟩ := ls_cons (skL_some h)
  have hb := hp_one s c
  rw [h] at hb
  have hb2 : Lib.hasPrefix s.data.toList (oneS c).data.toList = true := hb
  have h1 : (1 : Int) ≤ (s.size : Int) := by omega
  have hz : (oneS c).size = 1 := rfl
  obtain ⟨p, hp⟩ : ∃ p, p = oneS c := ⟨_, rfl⟩
  rw [← hp] at hb2 hz ⊢
  have hz1 : (p.size : Int) = 1 := by omega
  have HP := Lib.hid (fun W => (Any.stringslite_HasPrefix { Tryd.lays99 with } s p W))
  clear hb hp
  go_enter Tryd.func97, Tryd.ntmps97
  go_wp2_with (first | (go_at_call 112; go_in) | (go_at_call 95; refine (HP.out _).mono ?_; rintro e w' ⟨rfl, rfl⟩; rw [hb2]))
  go_ret2
  exact ⟨rfl, Below.refl _ _⟩
theorem cutp_miss (s : ByteArray) (c : UInt8) (h : skL c (ls s) = none) (w : World) :
    Calls Tryd.prog 97 #[.string s, .string (oneS c)] w fun x w' => x = .returned (.tuple #[.string s, .bool false]) ∧ Below w.heap.size w w' := by
  have hb := hp_one s c
  rw [h] at hb
  have hb2 : Lib.hasPrefix s.data.toList (oneS c).data.toList = false := hb
  have hz : (oneS c).size = 1 := rfl
  obtain ⟨p, hp⟩ : ∃ p, p = oneS c := ⟨_, rfl⟩
  rw [← hp] at hb2 hz ⊢
  have hz1 : (p.size : Int) = 1 := by omega
  have HP := Lib.hid (fun W => (Any.stringslite_HasPrefix { Tryd.lays99 with } s p W))
  clear hb hp
  go_enter Tryd.func97, Tryd.ntmps97
  go_wp2_with (first | (go_at_call 112; go_in) | (go_at_call 95; refine (HP.out _).mono ?_; rintro e w' ⟨rfl, rfl⟩; rw [hb2]))
  go_ret2
  exact ⟨rfl, Below.refl _ _⟩

/-! the reader's marks -/
theorem skip_hit (R : Nat) (s : ByteArray) (c : UInt8) (l : List UInt8) (h : skL c (ls s) = some l) (w : World) (hR : RdBox w R s) :
    Calls Tryd.prog 82 #[rdP R, .string (oneS c)] w fun x w' => x = .returned (.tuple #[]) ∧ (∃ y, ls y = l ∧ RdBox w' R y) ∧ w.grownBy w' (some R) := by
  have hc := hR.cell
  have hlt := hR.lt
  have HC := Lib.hid (fun W => cutp_hit s c l h W)
  have HL := Lib.hid (ls_cons (skL_some h)).2.2
  have HR := Lib.hid hR
  obtain ⟨p, hp⟩ : ∃ p, p = oneS c := ⟨_, rfl⟩
  rw [← hp] at HC ⊢
  obtain ⟨y, hy⟩ : ∃ y, y = s.extract 1 s.size := ⟨_, rfl⟩
  rw [← hy] at HC HL
  clear hp h hR hy
  go_enter Tryd.func82, Tryd.ntmps82
  go_wp2_with fail
  refine (HC.out _).mono ?_
  rintro x w1 ⟨rfl, hb⟩
  have hg := grown_of_belowT hb (some R)
  have hR1 : RdBox w1 R s := HR.out.kept (grown_of_belowT hb none) (by simp)
  have HG := Lib.hid hg
  have HR1 := Lib.hid hR1
  have hc1 := hR1.cell
  have hf1 := hR1.frozen
  clear hb hg hR1 hc
  go_wp2
  go_end0
  exact ⟨rfl, ⟨y, HL.out, HR1.out.set _⟩, HG.out.trans (grownBy_setCell' _ _ _)⟩
theorem skip_miss (R : Nat) (s : ByteArray) (c : UInt8) (h : skL c (ls s) = none) (w : World) (hR : RdBox w R s) (hV : VarsAt w) :
    Calls Tryd.prog 82 #[rdP R, .string (oneS c)] w fun x w' => Dies x ∧ w.grownBy w' (some R) := by
  have hc := hR.cell
  have HC := Lib.hid (fun W => cutp_miss s c h W)
  have HV := Lib.hid hV
  obtain ⟨p, hp⟩ : ∃ p, p = oneS c := ⟨_, rfl⟩
  rw [← hp] at HC ⊢
  clear hp h hR hV
  go_enter Tryd.func82, Tryd.ntmps82
  go_wp2_with fail
  refine (HC.out _).mono ?_
  rintro x w1 ⟨rfl, hb⟩
  have HG := Lib.hid (grown_of_belowT hb (some R))
  obtain ⟨T, v, ht⟩ := (HV.out.keptN (grown_of_belowT hb none)).tree
  clear hb hc
  go_wp2
  exact ⟨rfl, ⟨_, _, rfl⟩, HG.out⟩

/-! the reader's numbers -/
theorem keyB_iff (n : Int) : keyB n = true ↔ 0 ≤ n ∧ n ≤ 31 := by simp [keyB]
theorem border_ok (R : Nat) (s : ByteArray) (k : Int) (l : List UInt8) (h : bdL (ls s) = some (k, l)) (w : World) (hs : s.size ≤ 100000) (hR : RdBox w R s) (hV : VarsAt w) :
    Calls Tryd.prog 83 #[rdP R] w fun x w' => x = .returned (.int .i64 k) ∧ (∃ y, ls y = l ∧ RdBox w' R y) ∧ w.grownBy w' (some R) := by
  have hc := hR.cell
  have HC := Lib.hid (readNumber_any s hs w hV.num)
  have HR := Lib.hid hR
  obtain ⟨y, hy⟩ : ∃ y, y = s.extract (dgE s) s.size := ⟨_, rfl⟩
  have hyl : ls y = (ls s).dropWhile dgU := by rw [hy]; exact dgE_back s
  have hv : Lib.atoiAll ((ls s).takeWhile dgU) = .ok k ∧ (1 ≤ k ∧ k ≤ 31) ∧ l = (ls s).dropWhile dgU := by
    rw [bdL] at h
    split at h
    · rename_i v hv
      split at h
      · rename_i hb
        simp only [Option.some.injEq, Prod.mk.injEq] at h
        rw [← h.1]
        exact ⟨hv, hb, h.2.symm⟩
      · cases h
    · cases h
  obtain ⟨h1, ⟨h2, h3⟩, h4⟩ := hv
  have HL := Lib.hid (hyl.trans h4.symm)
  have hk0 : (k == 0) = false := by simp; omega
  have hkb : keyB k = true := (keyB_iff k).2 ⟨by omega, h3⟩
  have HN := Lib.hid (show ∀ x, NumOut s x → x = .returned (.tuple #[.int .i64 k, .string y, .nilIface]) from fun x hx => by
    rcases hx with ⟨v, hv, rfl⟩ | ⟨hv, _⟩
    · rw [h1] at hv; cases hv; rw [hy]
    · exact absurd h1 (hv k))
  clear h hR hV h1 h4 hyl hy h2 h3 hs
  go_enter Tryd.func83, Tryd.ntmps83
  go_wp2_with fail
  refine HC.out.mono ?_
  rintro x w1 ⟨hx, hb⟩
  obtain rfl := HN.out _ hx
  have HG := Lib.hid (grown_of_belowT hb (some R))
  have hR1 : RdBox w1 R s := HR.out.kept (grown_of_belowT hb none) (by simp)
  have HR1 := Lib.hid hR1
  have hc1 := hR1.cell
  have hf1 := hR1.frozen
  clear hb hR1 hx hc
  go_wp2_with (go_at_call 99; refine (isKey_any _ _).mono ?_; rintro e w' ⟨rfl, rfl⟩)
  go_ret
  exact ⟨rfl, ⟨y, HL.out, HR1.out.set _⟩, HG.out.trans (grownBy_setCell' _ _ _)⟩
theorem border_no (R : Nat) (s : ByteArray) (h : bdL (ls s) = none) (w : World) (hs : s.size ≤ 100000) (hR : RdBox w R s) (hV : VarsAt w) :
    Calls Tryd.prog 83 #[rdP R] w fun x w' => Dies x ∧ w.grownBy w' (some R) := by
  have hc := hR.cell
  have HC := Lib.hid (readNumber_any s hs w hV.num)
  have HV := Lib.hid hV
  have HN := Lib.hid (show ∀ v, Lib.atoiAll ((ls s).takeWhile dgU) = .ok v → (v == 0) = true ∨ ((v == 0) = false ∧ keyB v = false) from fun v hv => by
    rw [bdL, hv] at h
    simp only at h
    split at h
    · cases h
    · rename_i hb
      by_cases h0 : v = 0
      · exact .inl (by simp [h0])
      · refine .inr ⟨by simp [h0], ?_⟩
        cases hk : keyB v with
        | false => rfl
        | true => exact absurd ((keyB_iff v).1 hk) (by omega))
  obtain ⟨y, hy⟩ : ∃ y, y = s.extract (dgE s) s.size := ⟨_, rfl⟩
  have HO := Lib.hid (show ∀ x, NumOut s x → (∃ v, Lib.atoiAll ((ls s).takeWhile dgU) = .ok v ∧ x = .returned (.tuple #[.int .i64 v, .string y, .nilIface])) ∨ ∃ z T p, x = .returned (.tuple #[.int .i64 z, .string y, .iface T p]) from fun x hx => by
    rw [hy]
    rcases hx with h | ⟨_, h⟩
    · exact .inl h
    · exact .inr h)
  clear h hR hV hs hy
  go_enter Tryd.func83, Tryd.ntmps83
  go_wp2_with fail
  refine HC.out.mono ?_
  rintro x w1 ⟨hx, hb⟩
  have HG := Lib.hid (grown_of_belowT hb (some R))
  obtain ⟨T, v, ht⟩ := (HV.out.keptN (grown_of_belowT hb none)).tree
  clear hb hc
  rcases HO.out _ hx with ⟨v, hv, rfl⟩ | ⟨z, T, p, rfl⟩
  · rcases HN.out v hv with h0 | ⟨h0, hk⟩
    all_goals
      clear hv hx
      go_wp2_with (go_at_call 99; refine (isKey_any _ _).mono ?_; rintro e w' ⟨rfl, rfl⟩)
      exact ⟨rfl, ⟨_, _, rfl⟩, HG.out⟩
  · clear hx
    go_wp2_with (go_at_call 99; refine (isKey_any _ _).mono ?_; rintro e w' ⟨rfl, rfl⟩)
    exact ⟨rfl, ⟨_, _, rfl⟩, HG.out⟩

/-! the reader's targets -/
theorem target_ok (R : Nat) (s : ByteArray) (a : UInt8) (l : List UInt8) (h : ls s = a :: l) (ht : tgU a = true) (w : World) (hR : RdBox w R s) :
    Calls Tryd.prog 81 #[rdP R] w fun x w' => x = .returned (.int .u8 a.toNat) ∧ (∃ y, ls y = l ∧ RdBox w' R y) ∧ w.grownBy w' (some R) := by
  have hc := hR.cell
  have hf := hR.frozen
  have HR := Lib.hid hR
  obtain ⟨h0, h1, h2⟩ := ls_cons h
  have hne := toList_some h0
  have hv : tgV (s[0].toNat : Int) = true := by rw [h1, tgV_tgU]; exact ht
  have HL := Lib.hid h2
  have HA := Lib.hid h1
  clear h ht hR h1 h2
  go_enter Tryd.func81, Tryd.ntmps81
  go_wp2_with (go_at_call 96; refine (tvalid_any _ _).mono ?_; rintro e w' ⟨rfl, rfl⟩)
  go_ret
  exact ⟨by rw [HA.out]; rfl, ⟨_, HL.out, HR.out.set _⟩, grownBy_setCell' _ _ _⟩
theorem target_no (R : Nat) (s : ByteArray) (h : ∀ a l, ls s = a :: l → tgU a = false) (w : World) (hR : RdBox w R s) (hV : VarsAt w) :
    Calls Tryd.prog 81 #[rdP R] w fun x w' => Dies x ∧ w.grownBy w' (some R) := by
  have hc := hR.cell
  obtain ⟨T, v, ht⟩ := hV.tree
  cases hl : ls s with
  | nil =>
    have hn := toList_nil (ls_nil hl)
    clear h hl hR hV
    go_enter Tryd.func81, Tryd.ntmps81
    go_wp2_with fail
    exact ⟨rfl, ⟨_, _, rfl⟩, World.grownBy.refl _ _⟩
  | cons a l =>
    obtain ⟨h0, h1, h2⟩ := ls_cons hl
    have hne := toList_some h0
    have hv : tgV (s[0].toNat : Int) = false := by rw [h1, tgV_tgU]; exact h a l hl
    clear h hl hR hV h1 h2
    go_enter Tryd.func81, Tryd.ntmps81
    go_wp2_with (go_at_call 96; refine (tvalid_any _ _).mono ?_; rintro e w' ⟨rfl, rfl⟩)
    exact ⟨rfl, ⟨_, _, rfl⟩, World.grownBy.refl _ _⟩
end Go.Proofs.YtndnbeijmhcepaaDoor
