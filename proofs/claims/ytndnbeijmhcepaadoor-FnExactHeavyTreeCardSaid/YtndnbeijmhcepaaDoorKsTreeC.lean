
/- Reading a tree, the program: what the reader's methods read; where a text doesn't go on so, they panic. -/
import Derived.Test.YtndnbeijmhcepaaDoorKsTreeB
import Derived.RangeFuncBox
namespace Go.Proofs.YtndnbeijmhcepaaDoor
open Go.RowKit

/-- The variables that reading leans on. -/
structure VarsAt (w : World) : Prop where
  num : NumErrs w
  tree : ∃ T v, w.cell? ⟨0, 0, none⟩ = some (.iface T v)
/-- Block R is none of them. -/
def apartR (R : Nat) : Prop := R ≠ 0 ∧ R ≠ 6 ∧ R ≠ 7
theorem VarsAt.kept {w w' : World} {R : Nat} (h : VarsAt w) (hg : w.grownBy w' (some R)) (hR : apartR R) : VarsAt w' := by
  obtain ⟨hn, T, v, ht⟩ := h
  exact ⟨hn.kept hg (by intro e; cases e; exact hR.2.1 rfl) (by intro e; cases e; exact hR.2.2 rfl), T, v, hg.cell ht (by intro e; cases e; exact hR.1 rfl)⟩
theorem VarsAt.keptN {w w' : World} (h : VarsAt w) (hg : w.grownBy w' none) : VarsAt w' := by
  obtain ⟨hn, T, v, ht⟩ := h
  exact ⟨hn.kept hg (by simp) (by simp), T, v, hg.cell ht (by simp)⟩
theorem grown_of_belowT {w w' : World} (h : Below w.heap.size w w') (row : Option Nat) : w.grownBy w' row := ⟨h.os, h.tape, h.output, h.size, fun k hk _ => h.block k hk⟩

abbrev rdP (R : Nat) : Value := .pointer (some ⟨R, 0, none⟩)
abbrev RdBox (w : World) (R : Nat) (s : ByteArray) : Prop := Boxed w R 102 (.string s)
/-- A panic of the program's own. -/
def Dies (x : Ending) : Prop := ∃ T v, x = .panicked [{ v := .iface T v, recovered := false }]

theorem ls_nil {s : ByteArray} (h : ls s = []) : s.size = 0 := by rw [← ls_len, h]; rfl
theorem ls_cons {s : ByteArray} {a : UInt8} {l : List UInt8} (h : ls s = a :: l) : ∃ h0 : 0 < s.size, s[0] = a ∧ ls (s.extract 1 s.size) = l := by
  have h0 : 0 < s.size := by rw [← ls_len, h]; simp
  refine ⟨h0, ?_, ?_⟩
  · rw [← ls_get s 0 h0]; simp [h]
  · rw [ls_extract, List.take_of_length_le (by rw [ls_len]; exact Nat.le_refl _), h]; rfl

/-! strings.CutPrefix of one byte -/
def oneS (c : UInt8) : ByteArray := ⟨#[c]⟩
theorem hp_one (s : ByteArray) (c : UInt8) : Lib.hasPrefix s.data.toList (oneS c).data.toList = (skL c (ls s)).isSome := by
  show List.isPrefixOf [c] (ls s) = _
  cases ls s with
  | nil => rfl
  | cons a l => by_cases h : a = c <;> simp [skL, h, List.isPrefixOf]; intro e; exact h e.symm
theorem cutp_hit (s : ByteArray) (c : UInt8) (l : List UInt8) (h : skL c (ls s) = some l) (w : World) :
    Calls Tryd.prog 97 #[.string s, .string (oneS c)] w fun x w' => x = .returned (.tuple #[.string (s.extract 1 s.size), .bool true]) ∧ Below w.heap.size w w' := by
  obtain ⟨h0, _, _⟩ := ls_cons (skL_some h)
  have hb := hp_one s c
  rw [h] at hb
  have hb2 : Lib.hasPrefix s.data.toList (oneS c).data.toList = true := hb
  have h1 : (1 : Int) ≤ (s.size : Int) := by omega
  have hz : (oneS c).size = 1 := rfl
  obtain ⟨p, hp⟩ : ∃ p, p = oneS c := ⟨_, rfl⟩
  rw [← hp] at hb2 hz ⊢
  have hz1 : (p.size : Int) = 1 := by omega
  have HP := Lib.hid (fun W => (Any.stringslite_HasPrefix { Tryd.lays99 with } s p W))
  clear hb hp
  go_enter Tryd.func97, Tryd.ntmps97
  go_wp2_with (first | (go_at_call 112; go_in) | (go_at_call 95; refine (HP.out _).mono ?_; rintro e w' ⟨rfl, rfl⟩; rw [hb2]))
  go_ret2
  exact ⟨rfl, Below.refl _ _⟩
theorem cutp_miss (s : ByteArray) (c : UInt8) (h : skL c (ls s) = none) (w : World) :
    Calls Tryd.prog 97 #[.string s, .string (oneS c)] w fun x w' => x = .returned (.tuple #[.string s, .bool false]) ∧ Below w.heap.size w w' := by
  have hb := hp_one s c
  rw [h] at hb
  have hb2 : Lib.hasPrefix s.data.toList (oneS c).data.toList = false := hb
  have hz : (oneS c).size = 1 := rfl
  obtain ⟨p, hp⟩ : ∃ p, p = oneS c := ⟨_, rfl⟩
  rw [← hp] at hb2 hz ⊢
  have hz1 : (p.size : Int) = 1 := by omega
  have HP := Lib.hid (fun W => (Any.stringslite_HasPrefix { Tryd.lays99 with } s p W))
  clear hb hp
  go_enter Tryd.func97, Tryd.ntmps97
  go_wp2_with (first | (go_at_call 112; go_in) | (go_at_call 95; refine (HP.out _).mono ?_; rintro e w' ⟨rfl, rfl⟩; rw [hb2]))
  go_ret2
  exact ⟨rfl, Below.refl _ _⟩

/-! the reader's marks -/
theorem skip_hit (R : Nat) (s : ByteArray) (c : UInt8) (l : List UInt8) (h : skL c (ls s) = some l) (w : World) (hR : RdBox w R s) :
    Calls Tryd.prog 82 #[rdP R, .string (oneS c)] w fun x w' => x = .returned (.tuple #[]) ∧ (∃ y, ls y = l ∧ RdBox w' R y) ∧ w.grownBy w' (some R) := by
  have hc := hR.cell
  have hlt := hR.lt
  have HC := Lib.hid (fun W => cutp_hit s c l h W)
  have HL := Lib.hid (ls_cons (skL_some h)).2.2
  have HR := Lib.hid hR
  obtain ⟨p, hp⟩ : ∃ p, p = oneS c := ⟨_, rfl⟩
  rw [← hp] at HC ⊢
  obtain ⟨y, hy⟩ : ∃ y, y = s.extract 1 s.size := ⟨_, rfl⟩
  rw [← hy] at HC HL
  clear hp h hR hy
  go_enter Tryd.func82, Tryd.ntmps82
  go_wp2_with fail
  refine (HC.out _).mono ?_
  rintro x w1 ⟨rfl, hb⟩
  have hg := grown_of_belowT hb (some R)
  have hR1 : RdBox w1 R s := HR.out.kept (grown_of_belowT hb none) (by simp)
  have HG := Lib.hid hg
  have HR1 := Lib.hid hR1
  have hc1 := hR1.cell
  have hf1 := hR1.frozen
  clear hb hg hR1 hc
  go_wp2
  go_end0
  exact ⟨rfl, ⟨y, HL.out, HR1.out.set _⟩, HG.out.trans (grownBy_setCell' _ _ _)⟩
theorem skip_miss (R : Nat) (s : ByteArray) (c : UInt8) (h : skL c (ls s) = none) (w : World) (hR : RdBox w R s) (hV : VarsAt w) :
    Calls Tryd.prog 82 #[rdP R, .string (oneS c)] w fun x w' => Dies x ∧ w.grownBy w' (some R) := by
  have hc := hR.cell
  have HC := Lib.hid (fun W => cutp_miss s c h W)
  have HV := Lib.hid hV
  obtain ⟨p, hp⟩ : ∃ p, p = oneS c := ⟨_, rfl⟩
  rw [← hp] at HC ⊢
  clear hp h hR hV
  go_enter Tryd.func82, Tryd.ntmps82
  go_wp2_with fail
  refine (HC.out _).mono ?_
  rintro x w1 ⟨rfl, hb⟩
  have HG := Lib.hid (grown_of_belowT hb (some R))
  obtain ⟨T, v, ht⟩ := (HV.out.keptN (grown_of_belowT hb none)).tree
  clear hb hc
  go_wp2
  exact ⟨rfl, ⟨_, _, rfl⟩, HG.out⟩

/-! the reader's numbers -/
theorem keyB_iff (n : Int) : keyB n = true ↔ 0 ≤ n ∧ n ≤ 31 := by simp [keyB]
theorem border_ok (R : Nat) (s : ByteArray) (k : Int) (l : List UInt8) (h : bdL (ls s) = some (k, l)) (w : World) (hs : s.size ≤ 100000) (hR : RdBox w R s) (hV : VarsAt w) :
    Calls Tryd.prog 83 #[rdP R] w fun x w' => x = .returned (.int .i64 k) ∧ (∃ y, ls y = l ∧ RdBox w' R y) ∧ w.grownBy w' (some R) := by
  have hc := hR.cell
  have HC := Lib.hid (readNumber_any s hs w hV.num)
  have HR := Lib.hid hR
  obtain ⟨y, hy⟩ : ∃ y, y = s.extract (dgE s) s.size := ⟨_, rfl⟩
  have hyl : ls y = (ls s).dropWhile dgU := by rw [hy]; exact dgE_back s
  have hv : Lib.atoiAll ((ls s).takeWhile dgU) = .ok k ∧ (1 ≤ k ∧ k ≤ 31) ∧ l = (ls s).dropWhile dgU := by
    rw [bdL] at h
    split at h
    · rename_i v hv
      split at h
      · rename_i hb
        simp only [Option.some.injEq, Prod.mk.injEq] at h
        rw [← h.1]
        exact ⟨hv, hb, h.2.symm⟩
      · cases h
    · cases h
  obtain ⟨h1, ⟨h2, h3⟩, h4⟩ := hv
  have HL := Lib.hid (hyl.trans h4.symm)
  have hk0 : (k == 0) = false := by simp; omega
  have hkb : keyB k = true := (keyB_iff k).2 ⟨by omega, h3⟩
  have HN := Lib.hid (show ∀ x, NumOut s x → x = .returned (.tuple #[.int .i64 k, .string y, .nilIface]) from fun x hx => by
    rcases hx with ⟨v, hv, rfl⟩ | ⟨hv, _⟩
    · rw [h1] at hv; cases hv; rw [hy]
    · exact absurd h1 (hv k))
  clear h hR hV h1 h4 hyl hy h2 h3 hs
  go_enter Tryd.func83, Tryd.ntmps83
  go_wp2_with fail
  refine HC.out.mono ?_
  rintro x w1 ⟨hx, hb⟩
  obtain rfl := HN.out _ hx
  have HG := Lib.hid (grown_of_belowT hb (some R))
  have hR1 : RdBox w1 R s := HR.out.kept (grown_of_belowT hb none) (by simp)
  have HR1 := Lib.hid hR1
  have hc1 := hR1.cell
  have hf1 := hR1.frozen
  clear hb hR1 hx hc
  go_wp2_with (go_at_call 99; refine (isKey_any _ _).mono ?_; rintro e w' ⟨rfl, rfl⟩)
  go_ret
  exact ⟨rfl, ⟨y, HL.out, HR1.out.set _⟩, HG.out.trans (grownBy_setCell' _ _ _)⟩
theorem border_no (R : Nat) (s : ByteArray) (h : bdL (ls s) = none) (w : World) (hs : s.size ≤ 100000) (hR : RdBox w R s) (hV : VarsAt w) :
    Calls Tryd.prog 83 #[rdP R] w fun x w' => Dies x ∧ w.grownBy w' (some R) := by
  have hc := hR.cell
  have HC := Lib.hid (readNumber_any s hs w hV.num)
  have HV := Lib.hid hV
  have HN := Lib.hid (show ∀ v, Lib.atoiAll ((ls s).takeWhile dgU) = .ok v → (v == 0) = true ∨ ((v == 0) = false ∧ keyB v = false) from fun v hv => by
    rw [bdL, hv] at h
    simp only at h
    split at h
    · cases h
    · rename_i hb
      by_cases h0 : v = 0
      · exact .inl (by simp [h0])
      · refine .inr ⟨by simp [h0], ?_⟩
        cases hk : keyB v with
        | false => rfl
        | true => exact absurd ((keyB_iff v).1 hk) (by omega))
  obtain ⟨y, hy⟩ : ∃ y, y = s.extract (dgE s) s.size := ⟨_, rfl⟩
  have HO := Lib.hid (show ∀ x, NumOut s x → (∃ v, Lib.atoiAll ((ls s).takeWhile dgU) = .ok v ∧ x = .returned (.tuple #[.int .i64 v, .string y, .nilIface])) ∨ ∃ z T p, x = .returned (.tuple #[.int .i64 z, .string y, .iface T p]) from fun x hx => by
    rw [hy]
    rcases hx with h | ⟨_, h⟩
    · exact .inl h
    · exact .inr h)
  clear h hR hV hs hy
  go_enter Tryd.func83, Tryd.ntmps83
  go_wp2_with fail
  refine HC.out.mono ?_
  rintro x w1 ⟨hx, hb⟩
  have HG := Lib.hid (grown_of_belowT hb (some R))
  obtain ⟨T, v, ht⟩ := (HV.out.keptN (grown_of_belowT hb none)).tree
  clear hb hc
  rcases HO.out _ hx with ⟨v, hv, rfl⟩ | ⟨z, T, p, rfl⟩
  · rcases HN.out v hv with h0 | ⟨h0, hk⟩
    all_goals
      clear hv hx
      go_wp2_with (go_at_call 99; refine (isKey_any _ _).mono ?_; rintro e w' ⟨rfl, rfl⟩)
      exact ⟨rfl, ⟨_, _, rfl⟩, HG.out⟩
  · clear hx
    go_wp2_with (go_at_call 99; refine (isKey_any _ _).mono ?_; rintro e w' ⟨rfl, rfl⟩)
    exact ⟨rfl, ⟨_, _, rfl⟩, HG.out⟩

/-! the reader's targets -/
theorem target_ok (R : Nat) (s : ByteArray) (a : UInt8) (l : List UInt8) (h : ls s = a :: l) (ht : tgU a = true) (w : World) (hR : RdBox w R s) :
    Calls Tryd.prog 81 #[rdP R] w fun x w' => x = .returned (.int .u8 a.toNat) ∧ (∃ y, ls y = l ∧ RdBox w' R y) ∧ w.grownBy w' (some R) := by
  have hc := hR.cell
  have hf := hR.frozen
  have HR := Lib.hid hR
  obtain ⟨h0, h1, h2⟩ := ls_cons h
  have hne := toList_some h0
  have hv : tgV (s[0].toNat : Int) = true := by rw [h1, tgV_tgU]; exact ht
  have HL := Lib.hid h2
  have HA := Lib.hid h1
  clear h ht hR h1 h2
  go_enter Tryd.func81, Tryd.ntmps81
  go_wp2_with (go_at_call 96; refine (tvalid_any _ _).mono ?_; rintro e w' ⟨rfl, rfl⟩)
  go_ret
  exact ⟨by rw [HA.out]; rfl, ⟨_, HL.out, HR.out.set _⟩, grownBy_setCell' _ _ _⟩
theorem target_no (R : Nat) (s : ByteArray) (h : ∀ a l, ls s = a :: l → tgU a = false) (w : World) (hR : RdBox w R s) (hV : VarsAt w) :
    Calls Tryd.prog 81 #[rdP R] w fun x w' => Dies x ∧ w.grownBy w' (some R) := by
  have hc := hR.cell
  obtain ⟨T, v, ht⟩ := hV.tree
  cases hl : ls s with
  | nil =>
    have hn := toList_nil (ls_nil hl)
    clear h hl hR hV
    go_enter Tryd.func81, Tryd.ntmps81
    go_wp2_with fail
    exact ⟨rfl, ⟨_, _, rfl⟩, World.grownBy.refl _ _⟩
  | cons a l =>
    obtain ⟨h0, h1, h2⟩ := ls_cons hl
    have hne := toList_some h0
    have hv : tgV (s[0].toNat : Int) = false := by rw [h1, tgV_tgU]; exact h a l hl
    clear h hl hR hV h1 h2
    go_enter Tryd.func81, Tryd.ntmps81
    go_wp2_with (go_at_call 96; refine (tvalid_any _ _).mono ?_; rintro e w' ⟨rfl, rfl⟩)
    exact ⟨rfl, ⟨_, _, rfl⟩, World.grownBy.refl _ _⟩
end Go.Proofs.YtndnbeijmhcepaaDoor
