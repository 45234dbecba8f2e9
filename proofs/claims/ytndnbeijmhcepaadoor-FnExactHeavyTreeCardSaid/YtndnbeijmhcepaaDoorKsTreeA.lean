
/- Trees of comparisons: their texts and the reading of these; plain mathematics on lists of bytes. -/
import Derived.Lib.AtoiAll
import Derived.Lib.ItoaNum
namespace Go.Proofs.YtndnbeijmhcepaaDoor
open Go.Lib

inductive TreeD where
  | leaf (c : UInt8)
  | cmp (k : Int) (l r : TreeD)
deriving Inhabited

def dgU (c : UInt8) : Bool := decide (48 ≤ c.toNat) && decide (c.toNat ≤ 57)
def tgU (c : UInt8) : Bool := (decide (97 ≤ c.toNat) && decide (c.toNat ≤ 104)) || decide (c.toNat = 122)
def goodT : TreeD → Prop
  | .leaf c => tgU c = true
  | .cmp k l r => (1 ≤ k ∧ k ≤ 31) ∧ goodT l ∧ goodT r
def textL : TreeD → List UInt8
  | .leaf c => [c]
  | .cmp k l r => 40 :: (decDigits k.toNat ++ (textL l ++ (44 :: (textL r ++ [41]))))

/-! reading, whatever reads the numbers -/
def skL (c : UInt8) : List UInt8 → Option (List UInt8)
  | [] => none
  | a :: l => if a = c then some l else none
def rdG (nm : List UInt8 → Option (Int × List UInt8)) : Nat → List UInt8 → Option (TreeD × List UInt8)
  | 0, _ => none
  | _ + 1, [] => none
  | f + 1, a :: l =>
    if a = 40 then
      match nm l with
      | none => none
      | some (k, l1) => match rdG nm f l1 with
        | none => none
        | some (x, l2) => match skL 44 l2 with
          | none => none
          | some l3 => match rdG nm f l3 with
            | none => none
            | some (y, l4) => match skL 41 l4 with
              | none => none
              | some l5 => some (.cmp k x y, l5)
    else if tgU a = true then some (.leaf a, l) else none

theorem skL_some {c : UInt8} {l l' : List UInt8} (h : skL c l = some l') : l = c :: l' := by
  cases l with
  | nil => cases h
  | cons a l => simp only [skL] at h; split at h <;> simp_all
theorem skL_hit (c : UInt8) (l : List UInt8) : skL c (c :: l) = some l := by simp [skL]

/-- Takes a reading of a comparison apart. -/
theorem rdG_cmp {nm : List UInt8 → Option (Int × List UInt8)} {f : Nat} {l : List UInt8} {t : TreeD} {l' : List UInt8} (h : rdG nm (f + 1) (40 :: l) = some (t, l')) :
    ∃ k l1 x l2 y l4, nm l = some (k, l1) ∧ rdG nm f l1 = some (x, 44 :: l2) ∧ rdG nm f l2 = some (y, 41 :: l4) ∧ t = .cmp k x y ∧ l' = l4 := by
  simp only [rdG, if_true] at h
  cases h1 : nm l with
  | none => simp [h1] at h
  | some p =>
    obtain ⟨k, l1⟩ := p
    simp only [h1] at h
    cases h2 : rdG nm f l1 with
    | none => simp [h2] at h
    | some p =>
      obtain ⟨x, l2⟩ := p
      simp only [h2] at h
      cases h3 : skL 44 l2 with
      | none => simp [h3] at h
      | some l3 =>
        simp only [h3] at h
        cases h4 : rdG nm f l3 with
        | none => simp [h4] at h
        | some p =>
          obtain ⟨y, l4⟩ := p
          simp only [h4] at h
          cases h5 : skL 41 l4 with
          | none => simp [h5] at h
          | some l5 =>
            simp only [h5, Option.some.injEq, Prod.mk.injEq] at h
            rw [skL_some h3] at h2
            rw [skL_some h5] at h4
            exact ⟨k, l1, x, l3, y, l5, rfl, h2, h4, h.1.symm, h.2.symm⟩
theorem rdG_leaf {nm : List UInt8 → Option (Int × List UInt8)} {f : Nat} {a : UInt8} {l : List UInt8} {t : TreeD} {l' : List UInt8} (ha : ¬ a = 40) (h : rdG nm (f + 1) (a :: l) = some (t, l')) : tgU a = true ∧ t = .leaf a ∧ l' = l := by
  simp only [rdG, if_neg ha] at h
  split at h
  · rename_i ht; simp only [Option.some.injEq, Prod.mk.injEq] at h; exact ⟨ht, h.1.symm, h.2.symm⟩
  · cases h

theorem decDigits_le {k : Int} (h0 : 1 ≤ k) (h1 : k ≤ 31) : (decDigits k.toNat).length ≤ 2 ∧ 1 ≤ (decDigits k.toNat).length := by
  by_cases h : k.toNat < 10
  · rw [decDigits_one h]; simp
  · rw [decDigits_two h (by omega)]; simp

/-- What is read is good, no longer than twice its text, and something is read. -/
theorem rdG_good {nm : List UInt8 → Option (Int × List UInt8)} (hn : ∀ l k l', nm l = some (k, l') → (1 ≤ k ∧ k ≤ 31) ∧ l'.length < l.length) :
    ∀ (f : Nat) (l : List UInt8) (t : TreeD) (l' : List UInt8), rdG nm f l = some (t, l') → goodT t ∧ (textL t).length + 2 * l'.length ≤ 2 * l.length ∧ l'.length < l.length
  | 0, _, _, _, h => by cases h
  | f + 1, [], _, _, h => by cases h
  | f + 1, a :: l, t, l', h => by
    by_cases ha : a = 40
    · subst ha
      obtain ⟨k, l1, x, l2, y, l4, h1, h2, h3, rfl, rfl⟩ := rdG_cmp h
      obtain ⟨hk, e1⟩ := hn _ _ _ h1
      obtain ⟨g2, s2, e2⟩ := rdG_good hn f _ _ _ h2
      obtain ⟨g3, s3, e3⟩ := rdG_good hn f _ _ _ h3
      have := decDigits_le hk.1 hk.2
      refine ⟨⟨hk, g2, g3⟩, ?_, ?_⟩
      · simp only [textL, List.length_cons, List.length_append, List.length_nil] at s2 s3 e2 e3 ⊢; omega
      · simp only [List.length_cons] at s2 s3 e2 e3 ⊢; omega
    · obtain ⟨ht, rfl, rfl⟩ := rdG_leaf ha h
      exact ⟨ht, by simp [textL]; omega, by simp⟩

/-- What is read has the text that was read, if numbers have. -/
theorem rdG_sound {nm : List UInt8 → Option (Int × List UInt8)} (hn : ∀ l k l', nm l = some (k, l') → l = decDigits k.toNat ++ l') :
    ∀ (f : Nat) (l : List UInt8) (t : TreeD) (l' : List UInt8), rdG nm f l = some (t, l') → l = textL t ++ l'
  | 0, _, _, _, h => by cases h
  | f + 1, [], _, _, h => by cases h
  | f + 1, a :: l, t, l', h => by
    by_cases ha : a = 40
    · subst ha
      obtain ⟨k, l1, x, l2, y, l4, h1, h2, h3, rfl, rfl⟩ := rdG_cmp h
      rw [hn _ _ _ h1, rdG_sound hn f _ _ _ h2, rdG_sound hn f _ _ _ h3]
      simp [textL]
    · obtain ⟨_, rfl, rfl⟩ := rdG_leaf ha h
      simp [textL]

/-- No digit ahead. -/
def noDg (l : List UInt8) : Prop := ∀ c r, l = c :: r → dgU c = false
theorem tgU_noDg {c : UInt8} (h : tgU c = true) : dgU c = false := by
  simp [tgU, dgU] at h ⊢
  omega
theorem textL_noDg {t : TreeD} (h : goodT t) (y : List UInt8) : noDg (textL t ++ y) := by
  intro c r e
  cases t with
  | leaf a => simp [textL] at e; rw [← e.1]; exact tgU_noDg h
  | cmp k l r => simp [textL] at e; rw [← e.1]; decide
/-- Whatever has the text of a tree ahead is read so. -/
theorem rdG_full {nm : List UInt8 → Option (Int × List UInt8)} (hn : ∀ k y, 1 ≤ k → k ≤ 31 → noDg y → nm (decDigits k.toNat ++ y) = some (k, y)) :
    ∀ (t : TreeD) (f : Nat) (y : List UInt8), goodT t → (textL t).length < f + 1 → rdG nm (f + 1) (textL t ++ y) = some (t, y)
  | .leaf c, f, y, h, _ => by
    have hc : ¬ c = 40 := by intro e; subst e; exact absurd (show tgU 40 = true from h) (by decide)
    have h' : tgU c = true := h
    simp [textL, rdG, if_neg hc, h']
  | .cmp k l r, 0, y, h, hf => by simp [textL] at hf
  | .cmp k l r, f + 1, y, h, hf => by
    obtain ⟨hk, hl, hr⟩ := h
    simp only [textL, List.length_cons, List.length_append, List.length_nil] at hf
    have e : textL (.cmp k l r) ++ y = 40 :: (decDigits k.toNat ++ (textL l ++ (44 :: (textL r ++ (41 :: y))))) := by simp [textL]
    rw [e]
    simp only [rdG, if_true]
    rw [hn k _ hk.1 hk.2 (textL_noDg hl _)]
    simp only
    rw [rdG_full hn l f _ hl (by omega)]
    simp only
    rw [skL_hit]
    simp only
    rw [rdG_full hn r f _ hr (by omega)]
    simp only
    rw [skL_hit]

/-! numbers, read by the program -/
def bdL (l : List UInt8) : Option (Int × List UInt8) :=
  match atoiAll (l.takeWhile dgU) with
  | .ok v => if 1 ≤ v ∧ v ≤ 31 then some (v, l.dropWhile dgU) else none
  | _ => none
theorem take_dg {d : List UInt8} (hd : ∀ c ∈ d, dgU c = true) {y : List UInt8} (hy : noDg y) : (d ++ y).takeWhile dgU = d ∧ (d ++ y).dropWhile dgU = y := by
  induction d with
  | nil =>
    cases y with
    | nil => exact ⟨rfl, rfl⟩
    | cons c r => have := hy c r rfl; simp [this]
  | cons a d ih =>
    have h1 := hd a (by simp)
    obtain ⟨i1, i2⟩ := ih fun c hc => hd c (by simp [hc])
    simp [h1, i1, i2]
def tstOne (i : Nat) : Bool := dgU (UInt8.ofNat (48 + i)) && (match atoiAll [UInt8.ofNat (48 + i)] with | .ok v => decide (v = (i : Int)) | _ => false)
theorem one_all : ∀ i : Fin 10, tstOne i.1 = true := by decide +kernel
def tstTwo (i : Nat) : Bool := dgU (UInt8.ofNat (48 + i / 10)) && dgU (UInt8.ofNat (48 + i % 10)) && (match atoiAll [UInt8.ofNat (48 + i / 10), UInt8.ofNat (48 + i % 10)] with | .ok v => decide (v = (i : Int)) | _ => false)
theorem two_all : ∀ i : Fin 32, tstTwo i.1 = true := by decide +kernel
theorem dec_facts {k : Int} (h0 : 1 ≤ k) (h1 : k ≤ 31) : (∀ c ∈ decDigits k.toNat, dgU c = true) ∧ atoiAll (decDigits k.toNat) = .ok k := by
  obtain ⟨i, rfl⟩ := Int.eq_ofNat_of_zero_le (show 0 ≤ k by omega)
  rw [Int.toNat_natCast]
  by_cases h : i < 10
  · have := one_all ⟨i, h⟩
    rw [decDigits_one h]
    simp only [tstOne, Bool.and_eq_true] at this
    obtain ⟨a, b⟩ := this
    refine ⟨fun c hc => ?_, ?_⟩
    · simp only [List.mem_cons, List.not_mem_nil, or_false] at hc
      subst hc
      exact a
    split at b
    · rename_i v hv; rw [hv]; simp at b; rw [b]
    · cases b
  · have := two_all ⟨i, by omega⟩
    rw [decDigits_two h (by omega)]
    simp only [tstTwo, Bool.and_eq_true] at this
    obtain ⟨⟨a, a'⟩, b⟩ := this
    refine ⟨fun c hc => ?_, ?_⟩
    · simp only [List.mem_cons, List.not_mem_nil, or_false] at hc
      rcases hc with rfl | rfl
      · exact a
      · exact a'
    split at b
    · rename_i v hv; rw [hv]; simp at b; rw [b]
    · cases b
theorem bdL_full (k : Int) (y : List UInt8) (h0 : 1 ≤ k) (h1 : k ≤ 31) (hy : noDg y) : bdL (decDigits k.toNat ++ y) = some (k, y) := by
  obtain ⟨a, b⟩ := dec_facts h0 h1
  obtain ⟨c, d⟩ := take_dg a hy
  rw [bdL, c, b, d]
  simp [h0, h1]
theorem bdL_good (l : List UInt8) (k : Int) (l' : List UInt8) (h : bdL l = some (k, l')) : (1 ≤ k ∧ k ≤ 31) ∧ l'.length < l.length := by
  rw [bdL] at h
  split at h
  · rename_i v hv
    split at h
    · rename_i hb
      simp only [Option.some.injEq, Prod.mk.injEq] at h
      obtain ⟨rfl, rfl⟩ := h
      refine ⟨hb, ?_⟩
      cases l with
      | nil => cases hv
      | cons a l =>
        by_cases ha : dgU a = true
        · rw [List.dropWhile_cons, if_pos ha]
          have := (List.dropWhile_suffix dgU (l := l)).length_le
          simp; omega
        · rw [List.takeWhile_cons, if_neg ha] at hv
          cases hv
    · cases h
  · cases h

/-! numbers, read by the model -/
def valL (l : List UInt8) : Nat := l.foldl (fun n c => n * 10 + (c.toNat - 48)) 0
def plainL (d : List UInt8) : Bool := match d with | [] => false | a :: r => !(a == 48) || r.isEmpty
def dsL (l : List UInt8) : List UInt8 := (l.takeWhile dgU).take 3
def okD (d : List UInt8) : Bool := plainL d && decide (1 ≤ valL d) && decide (valL d ≤ 31)
def nmL (l : List UInt8) : Option (Int × List UInt8) := if okD (dsL l) = true then some ((valL (dsL l) : Nat), l.drop (dsL l).length) else none
theorem dsL_prefix (l : List UInt8) : l = dsL l ++ l.drop (dsL l).length := by
  have h1 : dsL l <+: l := (List.take_prefix 3 _).trans (List.takeWhile_prefix dgU)
  obtain ⟨r, hr⟩ := h1
  rw [← hr]
  have e : dsL (dsL l ++ r) = dsL l := by rw [hr]
  rw [e]
  simp
theorem dsL_len (l : List UInt8) : (dsL l).length ≤ 3 := by simp [dsL]; omega
theorem dsL_dg (l : List UInt8) : ∀ c ∈ dsL l, dgU c = true := fun c hc => List.all_eq_true.1 List.all_takeWhile c (List.mem_of_mem_take hc)
theorem ofNat_dg {c : UInt8} (h : dgU c = true) : UInt8.ofNat (48 + (c.toNat - 48)) = c := by
  simp [dgU] at h
  rw [show 48 + (c.toNat - 48) = c.toNat by omega]
  simp
theorem okD_dec {d : List UInt8} (hl : d.length ≤ 3) (hd : ∀ c ∈ d, dgU c = true) (h : okD d = true) : (1 ≤ valL d ∧ valL d ≤ 31) ∧ d = decDigits (valL d) := by
  simp only [okD, Bool.and_eq_true, decide_eq_true_eq] at h
  obtain ⟨⟨hp, h1⟩, h2⟩ := h
  refine ⟨⟨h1, h2⟩, ?_⟩
  match d, hl with
  | [], _ => simp [plainL] at hp
  | [a], _ =>
    have ha := hd a (by simp)
    have hv : valL [a] = a.toNat - 48 := by simp [valL]
    have hb : a.toNat - 48 < 10 := by simp [dgU] at ha; omega
    rw [hv, decDigits_one hb, ofNat_dg ha]
  | [a, b], _ =>
    have ha := hd a (by simp)
    have hb := hd b (by simp)
    have hv : valL [a, b] = (a.toNat - 48) * 10 + (b.toNat - 48) := by simp [valL]
    have hz : ¬ a = 48 := by simpa [plainL] using hp
    have hz2 : ¬ a.toNat = 48 := fun e => hz (UInt8.toNat_inj.1 e)
    have hb' : b.toNat - 48 < 10 := by simp [dgU] at hb; omega
    have ha1 : 48 ≤ a.toNat := by simp [dgU] at ha; omega
    rw [hv] at h2 ⊢
    rw [decDigits_two (by omega) (by omega)]
    have e1 : ((a.toNat - 48) * 10 + (b.toNat - 48)) / 10 = a.toNat - 48 := by omega
    have e2 : ((a.toNat - 48) * 10 + (b.toNat - 48)) % 10 = b.toNat - 48 := by omega
    rw [e1, e2, ofNat_dg ha, ofNat_dg hb]
  | [a, b, c], _ =>
    exfalso
    have ha := hd a (by simp)
    have hz : ¬ a = 48 := by simpa [plainL] using hp
    have hz2 : ¬ a.toNat = 48 := fun e => hz (UInt8.toNat_inj.1 e)
    have ha1 : 48 ≤ a.toNat := by simp [dgU] at ha; omega
    have hv : valL [a, b, c] = ((a.toNat - 48) * 10 + (b.toNat - 48)) * 10 + (c.toNat - 48) := by simp [valL]
    omega
  | _ :: _ :: _ :: _ :: _, h => simp at h
theorem nmL_good (l : List UInt8) (k : Int) (l' : List UInt8) (h : nmL l = some (k, l')) : (1 ≤ k ∧ k ≤ 31) ∧ l = decDigits k.toNat ++ l' := by
  rw [nmL] at h
  split at h
  · rename_i ho
    simp only [Option.some.injEq, Prod.mk.injEq] at h
    obtain ⟨rfl, rfl⟩ := h
    obtain ⟨h1, h2⟩ := okD_dec (dsL_len l) (dsL_dg l) ho
    refine ⟨by omega, ?_⟩
    rw [Int.toNat_natCast, ← h2]
    exact dsL_prefix l
  · cases h
theorem nmL_len (l : List UInt8) (k : Int) (l' : List UInt8) (h : nmL l = some (k, l')) : (1 ≤ k ∧ k ≤ 31) ∧ l'.length < l.length := by
  obtain ⟨h1, h2⟩ := nmL_good l k l' h
  have := decDigits_le h1.1 h1.2
  refine ⟨h1, ?_⟩
  rw [h2, List.length_append]
  omega
def tstN (d : List UInt8) (i : Nat) : Bool := okD d && decide (valL d = i)
theorem one_allN : ∀ i : Fin 10, i.1 = 0 ∨ tstN [UInt8.ofNat (48 + i.1)] i.1 = true := by decide +kernel
theorem two_allN : ∀ i : Fin 32, i.1 < 10 ∨ tstN [UInt8.ofNat (48 + i.1 / 10), UInt8.ofNat (48 + i.1 % 10)] i.1 = true := by decide +kernel
theorem nmL_full (k : Int) (y : List UInt8) (h0 : 1 ≤ k) (h1 : k ≤ 31) (hy : noDg y) : nmL (decDigits k.toNat ++ y) = some (k, y) := by
  obtain ⟨a, _⟩ := dec_facts h0 h1
  obtain ⟨c, _⟩ := take_dg a hy
  have hl := decDigits_le h0 h1
  have e : dsL (decDigits k.toNat ++ y) = decDigits k.toNat := by rw [dsL, c, List.take_of_length_le (by omega)]
  have ht : tstN (decDigits k.toNat) k.toNat = true := by
    by_cases h : k.toNat < 10
    · rw [decDigits_one h]
      exact (one_allN ⟨k.toNat, h⟩).resolve_left (by simp; omega)
    · rw [decDigits_two h (by omega)]
      exact (two_allN ⟨k.toNat, by omega⟩).resolve_left (by simp; omega)
  simp only [tstN, Bool.and_eq_true, decide_eq_true_eq] at ht
  rw [nmL, e, if_pos ht.1, ht.2]
  simp
  omega

/-! texts of trees -/
/-- The tree of a text, as the model reads it. -/
def treeS (s : List UInt8) : Option TreeD :=
  match rdG nmL (s.length + 1) s with
  | some (t, []) => if s.length ≤ 200 then some t else none
  | _ => none
/-- The tree of a text, as the program reads it. -/
def treeI (s : List UInt8) : Option TreeD :=
  if s.length ≤ 200 then
    match rdG bdL (s.length + 1) s with
    | some (t, _) => if textL t = s then some t else none
    | none => none
  else none
theorem treeS_iff {s : List UInt8} {t : TreeD} : treeS s = some t ↔ goodT t ∧ textL t = s ∧ s.length ≤ 200 := by
  constructor
  · intro h
    unfold treeS at h
    split at h
    · rename_i t' hr
      split at h
      · rename_i hl
        cases h
        exact ⟨(rdG_good nmL_len _ _ _ _ hr).1, by simpa using (rdG_sound (fun l k l' h => (nmL_good l k l' h).2) _ _ _ _ hr).symm, hl⟩
      · cases h
    · cases h
  · rintro ⟨hg, rfl, hl⟩
    have := rdG_full nmL_full t (textL t).length [] hg (by omega)
    rw [List.append_nil] at this
    simp [treeS, this, hl]
theorem treeI_iff {s : List UInt8} {t : TreeD} : treeI s = some t ↔ goodT t ∧ textL t = s ∧ s.length ≤ 200 := by
  constructor
  · intro h
    unfold treeI at h
    split at h
    · rename_i hl
      split at h
      · rename_i t' l' hr
        split at h
        · rename_i he
          cases h
          exact ⟨(rdG_good bdL_good _ _ _ _ hr).1, he, hl⟩
        · cases h
      · cases h
    · cases h
  · rintro ⟨hg, rfl, hl⟩
    have := rdG_full bdL_full t (textL t).length [] hg (by omega)
    rw [List.append_nil] at this
    simp [treeI, this, hl]
theorem treeI_eq (s : List UInt8) : treeI s = treeS s := by
  cases h : treeS s with
  | some t => exact treeI_iff.2 (treeS_iff.1 h)
  | none =>
    cases h2 : treeI s with
    | none => rfl
    | some t => rw [treeS_iff.2 (treeI_iff.1 h2)] at h; cases h

/-! what a tree says -/
def trT : TreeD → Int → UInt8 × Nat
  | .leaf c, _ => (c, 0)
  | .cmp k l r, key => if key < k then ((trT l key).1, (trT l key).2 + 1) else ((trT r key).1, (trT r key).2 + 1)
def depthT : TreeD → Nat
  | .leaf _ => 0
  | .cmp _ l r => max (depthT l) (depthT r) + 1
def countT : TreeD → Nat
  | .leaf _ => 0
  | .cmp _ l r => countT l + countT r + 1
theorem count_text (t : TreeD) : countT t ≤ (textL t).length ∧ depthT t ≤ countT t := by
  induction t with
  | leaf c => simp [countT, depthT]
  | cmp k l r h1 h2 => simp only [countT, depthT, textL, List.length_cons, List.length_append, List.length_nil]; omega
theorem run_depth (t : TreeD) (key : Int) : (trT t key).2 ≤ depthT t := by
  induction t with
  | leaf c => simp [trT]
  | cmp k l r h1 h2 => simp only [trT, depthT]; split <;> simp only <;> omega
end Go.Proofs.YtndnbeijmhcepaaDoor
