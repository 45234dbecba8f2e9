
/- A slice of integers that comes in: its copy, its equality with itself, its reading as data. -/
import Derived.Test.YtbhamkmiagdimaaKsRowN
import Derived.WideShapes
import Derived.Lib.SmallJoins
import Derived.Deep.Slices
import Derived.Deep.Fields
import Derived.ChangeSlices
namespace Go.Proofs.Ytbhamkmiagdimaa
open Go.ChangeShapes Go.WideShapes Go.ChangeAt Go.RowKit Go.Deep Go.Joins Go.Sort

/-- A slice of integers that came in: nil, or a row. -/
def SliceN (w : World) (v : Value) (o : Array Int) : Prop :=
  (∃ p cap, v = .slice p 0 cap ∧ o = #[]) ∨ ∃ b off cap, v = .slice (some ⟨b, off, none⟩) o.size cap ∧ RowN w b off o
theorem SliceN.below {w w' : World} {v : Value} {o : Array Int} (h : SliceN w v o) (hb : RowKit.Below w.heap.size w w') : SliceN w' v o := by
  rcases h with h | ⟨b, off, cap, h1, h4⟩
  · exact .inl h
  · exact .inr ⟨b, off, cap, h1, h4.below hb⟩
theorem SliceN.form {w : World} {v : Value} {o : Array Int} (h : SliceN w v o) : ∃ a cap, v = .slice a o.size cap := by
  rcases h with ⟨p, cap, h1, rfl⟩ | ⟨b, off, cap, h1, _⟩
  · exact ⟨_, _, h1⟩
  · exact ⟨_, _, h1⟩

set_option maxHeartbeats 400000 in
theorem toIntS_nil (p : Option Addr) (cap : Nat) (w : World) : Calls Try.prog 8 #[.slice p 0 cap] w fun x w' => x = .returned (.slice (some ⟨w.heap.size, 0, none⟩) 0 0) ∧ w' = w.alloc (.cells (madeCells #[.int .i64 0] 0) 3) := by
  have hmk := fun W => run_makeInt 0 (by omega) W
  simp only [Int.natCast_zero] at hmk
  go_enter Try.func8, Try.ntmps8
  go_wp2
  refine wp_loop_rounds 1 ?_
  rw [rounds_succ]
  go_wp2
  go_ret
  exact ⟨rfl, rfl⟩

set_option maxRecDepth 100000 in
set_option maxHeartbeats 1000000 in
theorem toIntS_row (b off cap : Nat) (o : Array Int) (w : World) (hR : RowN w b off o) (hn : o.size ≤ 1048576) :
    Calls Try.prog 8 #[.slice (some ⟨b, off, none⟩) o.size cap] w fun x w' =>
      ∃ g, x = .returned (.slice (some ⟨g, 0, none⟩) o.size o.size) ∧ w.heap.size ≤ g ∧ (g < w'.heap.size ∧ Holds encN w' g 0 o) ∧ RowKit.Below w.heap.size w w' := by
  have HR := Lib.hid hR
  clear hR
  have hn' : (o.size : Int) ≤ 1048576 := by omega
  have hmk := run_makeInt o.size hn
  go_enter Try.func8, Try.ntmps8
  go_wp2
  have hH0 := made_holdsG encN 0 rfl o.size 3 w w.heap.size rfl
  obtain ⟨wa, hwa⟩ : ∃ wa, wa = w.alloc (.cells (madeCells #[.int .i64 0] o.size) 3) := ⟨_, rfl⟩
  rw [← hwa] at hH0
  have hz : w.heap.size < wa.heap.size := by rw [hwa]; simp
  have hba : RowKit.Below w.heap.size w wa := by rw [hwa]; exact (Below.refl _ _).alloc (Nat.le_refl _) _
  rw [← hwa]
  have HH0 := Lib.hid hH0
  have HB := Lib.hid hba
  clear hwa hba hH0 hmk
  obtain ⟨g, hg⟩ : ∃ g, g = w.heap.size := ⟨_, rfl⟩
  rw [← hg] at HH0 hz ⊢
  have HG := Lib.hid hg
  clear hg
  go_loopw [4] (fun i wr => ∃ (k : Nat) (A : Array Int), i = .int .i64 k ∧ k ≤ o.size ∧ Hid (A.size = o.size) ∧ Hid (Holds encN wr g 0 A) ∧ Hid (∀ j, j < k → A[j]! = o[j]!) ∧ Hid (RowKit.Below w.heap.size w wr) ∧ wa.heap.size ≤ wr.heap.size) (fun i _ => o.size - (RowKit.intOf i).toNat)
  case atStart => exact ⟨0, _, rfl, Nat.zero_le _, by simp [Hid], HH0.out, (show Hid _ from fun j hj => absurd hj (Nat.not_lt_zero _)), HB.out, Nat.le_refl _⟩
  case round =>
    obtain ⟨k, A, rfl, hk, HAZ, HH, HM, HW, hw2⟩ := hrel
    by_cases hlt : k < o.size
    · have x0 := (HR.out.below HW.out).cell k hlt
      obtain ⟨x, hxe⟩ : ∃ x, x = o[k]! := ⟨_, rfl⟩
      rw [← hxe] at x0
      have XE := Lib.hid hxe
      have hkA : k < A.size := by rw [HAZ.out]; exact hlt
      have y0 := (HH.out k hkA).1
      have y1 := (HH.out k hkA).2
      simp only [Nat.zero_add] at y0 y1
      have HKA := Lib.hid hkA
      clear hkA hxe
      go_wp2
      go_roundw
      case rel =>
        refine ⟨k + 1, A.setIfInBounds k x, by go_num, by omega, (show _ = _ by simpa using HAZ.out), holds_setG encN HH.out k x HKA.out, (show Hid _ from fun j hj => ?_), HW.out.setCell (p := ⟨g, k, none⟩) (Nat.le_of_eq HG.out.symm) _, by simpa [World.setCell] using hw2⟩
        by_cases e : j = k
        · subst e
          rw [getElem!_set_same _ _ _ HKA.out, XE.out]
        · rw [getElem!_set_other _ _ _ _ e]
          exact HM.out j (by omega)
      case measure => simp [RowKit.intOf]; omega
    · go_wp2
      go_ret
      have e : A = o := Array.ext HAZ.out fun j h1 h2 => by
        have := HM.out j (by omega)
        simpa [h1, h2] using this
      exact ⟨g, rfl, Nat.le_of_eq HG.out.symm, ⟨by omega, e ▸ HH.out⟩, HW.out⟩

/-- The copy: a fresh row of the same numbers. -/
def FreshN (o : Array Int) (w w' : World) (g : Nat) : Prop := w.heap.size ≤ g ∧ RowN w' g 0 o ∧ RowKit.Below w.heap.size w w'
theorem toIntS_hot (v : Value) (o : Array Int) (w : World) (hv : SliceN w v o) (hn : o.size ≤ 1048576) :
    Calls Try.prog 8 #[v] w fun x w' => ∃ g, x = .returned (.slice (some ⟨g, 0, none⟩) o.size o.size) ∧ w.heap.size ≤ g ∧ (g < w'.heap.size ∧ Holds encN w' g 0 o) ∧ RowKit.Below w.heap.size w w' := by
  rcases hv with ⟨p, cap, rfl, rfl⟩ | ⟨b, off, cap, rfl, hR⟩
  · refine (toIntS_nil p cap w).mono fun x w' ⟨h1, h2⟩ => ⟨w.heap.size, h1, Nat.le_refl _, ?_, ?_⟩
    · rw [h2]
      exact ⟨by simp, fun j hj => absurd hj (Nat.not_lt_zero j)⟩
    · rw [h2]
      exact (Below.refl _ _).alloc (Nat.le_refl _) _
  · exact toIntS_row b off cap o w hR hn
theorem toIntS_any (v : Value) (o : Array Int) (w : World) (hv : SliceN w v o) (hn : o.size ≤ 1048576) :
    Calls Try.prog 8 #[v] w fun x w' => ∃ g, x = .returned (.slice (some ⟨g, 0, none⟩) o.size o.size) ∧ FreshN o w w' g :=
  (toIntS_hot v o w hv hn).mono fun x w' ⟨g, h1, h2, h3, h4⟩ => ⟨g, h1, h2, ⟨h3.1, fun j hj => (h3.2 j hj).1⟩, h4⟩

set_option maxRecDepth 100000 in
set_option maxHeartbeats 1000000 in
theorem eqIntS_same (b1 c1 b2 c2 : Nat) (o : Array Int) (w : World) (h1 : RowN w b1 0 o) (h2 : RowN w b2 0 o) (hn : o.size ≤ 1048576) :
    Calls Try.prog 10 #[.slice (some ⟨b1, 0, none⟩) o.size c1, .slice (some ⟨b2, 0, none⟩) o.size c2] w fun x w' => x = .returned (.bool true) ∧ RowKit.Below w.heap.size w w' := by
  have H1 := Lib.hid h1
  have H2 := Lib.hid h2
  have hn' : (o.size : Int) ≤ 1048576 := by omega
  clear h1 h2
  go_enter Try.func10, Try.ntmps10
  go_wp2
  go_loopw [5] (fun i wr => ∃ k : Nat, i = .int .i64 k ∧ k ≤ o.size ∧ Hid (RowKit.Below w.heap.size w wr) ∧ w.heap.size ≤ wr.heap.size) (fun i _ => o.size - (RowKit.intOf i).toNat)
  case atStart => exact ⟨0, rfl, Nat.zero_le _, Below.refl _ _, Nat.le_refl _⟩
  case round =>
    obtain ⟨k, rfl, hk, HW, hw2⟩ := hrel
    by_cases hlt : k < o.size
    · have x0 := (H1.out.below HW.out).cell k hlt
      have y0 := (H2.out.below HW.out).cell k hlt
      obtain ⟨x, hxe⟩ : ∃ x, x = o[k]! := ⟨_, rfl⟩
      rw [← hxe] at x0 y0
      simp only [Nat.zero_add] at x0 y0
      clear hxe
      go_wp2
      go_quiet (fail)
      go_wp2
      go_roundw
      case rel => exact ⟨k + 1, by go_num, by omega, below_drewN HW.out _, by simpa using hw2⟩
      case measure => simp [RowKit.intOf]; omega
    · go_wp2
      go_ret
      exact ⟨rfl, HW.out⟩

section
variable {H : Type} {enc : TypeId × Value → H} {W : World} {base : Nat} {sp : Nat → Bool} {held : Bool}
/-- A slice of integers that can be read. -/
theorem ints_of_trod {n : Nat} {v : Value} {x : DataW H × List MemPlace} (h : DataW.trod enc Try.prog W base sp held n 24 [v] = some x) :
    ∃ o : Array Int, SliceN W v o ∧ o.size ≤ maxLen := by
  rcases open_ints Try.underlying24 Try.underlying3 (by kernel_rfl) h with ⟨hcs, _⟩ | ⟨a, len, cap, zs, hcs, _, hl, hm, hzl, _, hi, _⟩
  · simp only [List.cons.injEq, and_true] at hcs
    exact ⟨#[], .inl ⟨_, _, hcs, rfl⟩, Nat.zero_le _⟩
  · simp only [List.cons.injEq, and_true] at hcs
    subst hcs
    rcases Nat.eq_zero_or_pos len with h0 | h0
    · subst h0
      exact ⟨#[], .inl ⟨_, _, rfl, rfl⟩, Nat.zero_le _⟩
    have hle : len ≤ zs.length := by rw [hzl]; split <;> omega
    have hc := fun i (hi' : i < len) => hi i (by omega)
    have hspot : a.spot = none := by
      have h1 := hc 0 h0
      cases hsp : a.spot with
      | none => rfl
      | some q =>
        exfalso
        simp [World.cell?, Addr.add, hsp] at h1
        split at h1 <;> simp at h1
    obtain ⟨b, off, spot⟩ := a
    simp only at hspot
    subst hspot
    have hcell : ∀ j, j < len → W.cell? ⟨b, off + j, none⟩ = some (.int .i64 (zs.getD j 0)) := fun j hj => by
      have := hc j hj
      rw [Addr.add_lit] at this
      exact this
    have hold : b < W.heap.size := by
      have h1 := hcell 0 h0
      rcases Nat.lt_or_ge b W.heap.size with h' | h'
      · exact h'
      · simp [World.cell?, Array.getElem?_eq_none h'] at h1
    have hsz : (zs.take len).toArray.size = len := by simp; omega
    refine ⟨(zs.take len).toArray, .inr ⟨b, off, cap, by rw [hsz], hold, fun j hj => ?_⟩, by omega⟩
    rw [hsz] at hj
    rw [hcell j hj]
    have : zs.getD j 0 = (zs.take len).toArray[j]! := by
      have h2 : j < zs.length := by omega
      simp [h2, hj]
    rw [this]
end
end Go.Proofs.Ytbhamkmiagdimaa
