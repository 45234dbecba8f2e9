
/- pullFrom: a function that hands out the segments of a switch one behind the other. -/
import Derived.Test.YtjmfcnblkojejaaDoorKsCollect
import Derived.Test.YtjmfcnblkojejaaDoorKsMark
namespace Go.Proofs.YtjmfcnblkojejaaDoor
open Go.RowKit Go.Shelf Go.Lib Go.Sort

/-- A slice value that reads as a list of cases, in no block of a set. -/
def ReadsC (W : World) (v : Value) (S : Nat → Prop) (l : List CaseD) : Prop :=
  (l = [] ∧ ∃ p c, v = .slice p 0 c) ∨ (0 < l.length ∧ ∃ g off cap, v = .slice (some ⟨g, off, none⟩) l.length cap ∧ l.length ≤ cap ∧ cap ≤ maxLen ∧ RowC W g off l.toArray ∧ ¬ S g)
/-- The box of a pulling function: what is left. -/
def PullAt (W : World) (X : Nat) (S : Nat → Prop) (l : List CaseD) : Prop := ∃ v, Boxed W X 23 v ∧ ReadsC W v S l

theorem RowC.kept {W W' : World} {g off : Nat} {d : Array CaseD} {row : Option Nat} (h : RowC W g off d) (hg : W.grownBy W' row) (hne : some g ≠ row) : RowC W' g off d := by
  have e : ∀ o, W'.cell? ⟨g, o, none⟩ = W.cell? ⟨g, o, none⟩ := fun o => World.cell?_of_block (hg.block g h.old hne)
  exact ⟨Nat.lt_of_lt_of_le h.old hg.size, fun j hj => (e _).trans (h.low j hj), fun j hj => (e _).trans (h.high j hj), fun j hj => (e _).trans (h.target j hj), fun j hj => (e _).trans (h.weight j hj)⟩
theorem PullAt.kept {W W' : World} {X : Nat} {S : Nat → Prop} {l : List CaseD} {row : Option Nat} (h : PullAt W X S l) (hg : W.grownBy W' row) (h1 : some X ≠ row) (h2 : ∀ g, row = some g → S g ∨ W.heap.size ≤ g) : PullAt W' X S l := by
  obtain ⟨v, hb, hr⟩ := h
  refine ⟨v, hb.kept hg h1, ?_⟩
  rcases hr with h0 | ⟨h0, g, off, cap, hv, hc, hm, hR, hS⟩
  · exact .inl h0
  · refine .inr ⟨h0, g, off, cap, hv, hc, hm, hR.kept hg (fun e => ?_), hS⟩
    rcases h2 g e.symm with h | h
    · exact hS h
    · have := hR.old
      omega
theorem row_tail {W : World} {g off : Nat} {c : CaseD} {t : List CaseD} (h : RowC W g off (c :: t).toArray) : RowC W g (off + 4) t.toArray := by
  have e : ∀ j, (c :: t).toArray[j + 1]! = t.toArray[j]! := fun j => by rw [toArray_get, toArray_get]; rfl
  have s : ∀ j, j < t.toArray.size → j + 1 < (c :: t).toArray.size := fun j hj => by simpa using hj
  refine ⟨h.old, fun j hj => ?_, fun j hj => ?_, fun j hj => ?_, fun j hj => ?_⟩
  · have := h.low (j + 1) (s j hj); rw [e] at this; rw [show off + 4 + j * 4 = off + (j + 1) * 4 by omega]; exact this
  · have := h.high (j + 1) (s j hj); rw [e] at this; rw [show off + 4 + j * 4 + 1 = off + (j + 1) * 4 + 1 by omega]; exact this
  · have := h.target (j + 1) (s j hj); rw [e] at this; rw [show off + 4 + j * 4 + 2 = off + (j + 1) * 4 + 2 by omega]; exact this
  · have := h.weight (j + 1) (s j hj); rw [e] at this; rw [show off + 4 + j * 4 + 3 = off + (j + 1) * 4 + 3 by omega]; exact this

def zeroD : CaseD := ⟨0, 0, ⟨#[]⟩, 0⟩
/-- What a pull answers. -/
def PullPost (X : Nat) (S : Nat → Prop) (l : List CaseD) (W : World) (x : Ending) (w' : World) : Prop :=
  x = .returned (.tuple #[aggC (l.headD zeroD), .bool (!l.isEmpty)]) ∧ PullAt w' X S l.tail ∧ W.grownBy w' (some X)

set_option maxRecDepth 100000 in
set_option maxHeartbeats 1000000 in
theorem pull_none (X : Nat) (S : Nat → Prop) (W : World) (h : PullAt W X S []) : Calls Tryd.prog 125 #[.pointer (some ⟨X, 0, none⟩)] W (PullPost X S [] W) := by
  have HP := Lib.hid h
  obtain ⟨v, hb, hr⟩ := h
  rcases hr with ⟨_, p, c, rfl⟩ | ⟨h0, _⟩
  · have cX := hb.cell
    have hX := hb.lt
    clear hb
    go_enter Tryd.func125, Tryd.ntmps125
    go_wp2
    refine bodyPost_ret (v := .tuple #[aggC zeroD, .bool false]) (by simp [results, Tryd.results125, go_sem, aggC, zeroD]) rfl ⟨rfl, ?_, ?_⟩
    · exact HP.out.kept (grown_trans (World.grownBy_alloc W _ none) (World.grownBy_alloc _ _ none)) (by simp) (fun g hg => nomatch hg)
    · exact grown_trans (World.grownBy_alloc W _ _) (World.grownBy_alloc _ _ _)
  · exact absurd h0 (Nat.lt_irrefl 0)

set_option maxRecDepth 100000 in
set_option maxHeartbeats 1000000 in
theorem pull_some (X : Nat) (S : Nat → Prop) (c : CaseD) (t : List CaseD) (W : World) (hSX : S X) (h : PullAt W X S (c :: t)) : Calls Tryd.prog 125 #[.pointer (some ⟨X, 0, none⟩)] W (PullPost X S (c :: t) W) := by
  obtain ⟨v, hb, hr⟩ := h
  rcases hr with ⟨h0, _⟩ | ⟨_, g, off, cap, rfl, hc, hm, hR, hgS⟩
  · cases h0
  · have hgX : g ≠ X := fun e => hgS (e ▸ hSX)
    have HGS := Lib.hid hgS
    clear hgS
    have HB := Lib.hid hb
    have HR := Lib.hid hR
    have cX := hb.cell
    have fX := hb.frozen
    have hX := hb.lt
    have x0 := hR.low 0 (by simp)
    have x1 := hR.high 0 (by simp)
    have x2 := hR.target 0 (by simp)
    have x3 := hR.weight 0 (by simp)
    rw [toArray_get] at x0 x1 x2 x3
    simp only [Nat.zero_mul, Nat.add_zero, List.getElem!_cons_zero] at x0 x1 x2 x3
    have hgl := hR.old
    simp only [List.length_cons] at hc
    unfold maxLen at hm
    clear hb hR
    by_cases h1 : cap = 1
    · subst h1
      go_enter Tryd.func125, Tryd.ntmps125
      go_wp2
      have ht : t = [] := List.eq_nil_of_length_eq_zero (by omega)
      subst ht
      refine bodyPost_ret (v := .tuple #[aggC c, .bool true]) (by simp [results, Tryd.results125, go_sem, aggC]) rfl ⟨rfl, ?_, ?_⟩
      · exact ⟨_, ((HB.out.set _).alloc _).alloc _, .inl ⟨rfl, _, _, rfl⟩⟩
      · exact grown_trans (grown_set W X 0 _) (grown_trans (World.grownBy_alloc _ _ _) (World.grownBy_alloc _ _ _))
    · have hcz : (1 : Int) < (cap : Int) := by omega
      go_enter Tryd.func125, Tryd.ntmps125
      go_wp2
      refine bodyPost_ret (v := .tuple #[aggC c, .bool true]) (by simp [results, Tryd.results125, go_sem, aggC]) rfl ⟨rfl, ?_, ?_⟩
      · refine ⟨_, ((HB.out.set _).alloc _).alloc _, ?_⟩
        show ReadsC _ _ S t
        cases t with
        | nil => exact .inl ⟨rfl, _, _, rfl⟩
        | cons c' t' =>
          refine .inr ⟨by simp, g, off + 4, cap - 1, rfl, by simp at hc ⊢; omega, by unfold maxLen; omega, ?_, HGS.out⟩
          have hgs := grown_set W X 0 (.slice (some ⟨g, off + 4, none⟩) (c' :: t').length (cap - 1))
          exact (((row_tail HR.out).kept hgs (by simp; exact hgX)).below ((Below.refl _ _).alloc (Nat.le_refl _) _)).below ((Below.refl _ _).alloc (Nat.le_refl _) _)
      · exact grown_trans (grown_set W X 0 _) (grown_trans (World.grownBy_alloc _ _ _) (World.grownBy_alloc _ _ _))

theorem pull_any (X : Nat) (S : Nat → Prop) (l : List CaseD) (W : World) (hSX : S X) (h : PullAt W X S l) : Calls Tryd.prog 125 #[.pointer (some ⟨X, 0, none⟩)] W (PullPost X S l W) := by
  cases l with
  | nil => exact pull_none X S W h
  | cons c t => exact pull_some X S c t W hSX h

/-- All segments of a valid switch, collected, wherever the iterator's box lies. -/
theorem collectSegs_gen (B b off cap : Nat) (d : Array CaseD) (rest : Int) (w : World) (c0 : w.cell? ⟨B, 0, none⟩ = some (.slice (some ⟨b, off, none⟩) d.size cap)) (c1 : w.cell? ⟨B, 1, none⟩ = some (.int .i64 rest)) (hR : RowC w b off d) (hok : SwOK d rest) :
    Calls Tryd.prog 48 #[.func (.func 96) #[] #[.pointer (some ⟨B, 0, none⟩)]] w
      fun x w' => ∃ v, x = .returned v ∧ OwnsC w.heap.size v (segs d rest) w' ∧ RowKit.Below w.heap.size w w' := by
  have hB : B < w.heap.size := World.block_lt_of_cell? w _ c0
  have hb3 : RowKit.Below w.heap.size w (w.alloc (.cells #[.slice none 0 0] 23)) := (Below.refl _ _).alloc (Nat.le_refl _) _
  have bX := Boxed.new w 23 (.slice none 0 0)
  have hnp : ∀ j, ¬ Pts (w.alloc (.cells #[.slice none 0 0] 23)) w.heap.size j := fun j ⟨u, hu, hj⟩ => by rw [bX.cell] at hu; cases hu; cases hj
  have hold := hR.old
  exact collect_any 96 _ (segs d rest) w (enters_of Tryd.func96 (by kernel_rfl) rfl)
    (segIn_stops 4 w.heap.size B b off cap d rest _ (by decide) hok ((hb3.cell (p := ⟨B, 0, none⟩) hB).trans c0) ((hb3.cell (p := ⟨B, 1, none⟩) hB).trans c1)
      (hR.below hb3) (by simp) (by simp; omega) (by omega) (by omega) hnp)

set_option maxHeartbeats 1000000 in
/-- pullFrom of the segments of a valid switch. -/
theorem pullFrom_any (B b off cap : Nat) (d : Array CaseD) (rest : Int) (w : World) (c0 : w.cell? ⟨B, 0, none⟩ = some (.slice (some ⟨b, off, none⟩) d.size cap)) (c1 : w.cell? ⟨B, 1, none⟩ = some (.int .i64 rest)) (hR : RowC w b off d) (hok : SwOK d rest) :
    Calls Tryd.prog 105 #[.func (.func 96) #[] #[.pointer (some ⟨B, 0, none⟩)]] w
      fun x w' => ∃ X, x = .returned (.func (.func 125) #[] #[.pointer (some ⟨X, 0, none⟩)]) ∧ (w.heap.size ≤ X ∧ X < w'.heap.size) ∧ (∀ S : Nat → Prop, (∀ g, S g → g < w.heap.size ∨ w'.heap.size ≤ g ∨ g = X) → PullAt w' X S (segs d rest)) ∧ RowKit.Below w.heap.size w w' := by
  have hc := Lib.hid (collectSegs_gen B b off cap d rest w c0 c1 hR hok)
  have hcont := segs_cont hok
  have HPOS := Lib.hid (show (segs d rest).length ≠ 0 from fun e => by rw [List.eq_nil_of_length_eq_zero e] at hcont; simp [endL] at hcont)
  clear hR hok c0 c1 hcont
  go_enter Tryd.func105, Tryd.ntmps105
  go_wp2_with fail
  refine hc.out.mono ?_
  rintro x w1 ⟨v, rfl, ho, hb⟩
  have HO := Lib.hid ho
  have HB := Lib.hid hb
  have hz := hb.size
  clear hb
  rcases ho.2 with ⟨rfl, h0⟩ | ⟨g, cp, cur, rfl, hg, hh, hn, hm, _⟩
  · exact absurd h0 HPOS.out
  · clear ho
    go_wp2
    go_ret
    have hgl := (Array.getElem?_eq_some_iff.1 hh).1
    refine ⟨_, rfl, ⟨by omega, by simp⟩, fun S hS => ⟨_, Boxed.new w1 _ _, ?_⟩, HB.out.alloc hz _⟩
    refine .inr ⟨by have := HPOS.out; omega, g, 0, cp, rfl, hn, hm, (owns_row HO.out).below ((Below.refl _ _).alloc (Nat.le_refl _) _), fun h => ?_⟩
    rcases hS g h with h | h | h
    · omega
    · simp at h
      omega
    · omega
end Go.Proofs.YtjmfcnblkojejaaDoor
