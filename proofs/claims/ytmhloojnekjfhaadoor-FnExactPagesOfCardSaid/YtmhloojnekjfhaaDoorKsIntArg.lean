
/- A slice of integers that comes in: its copy, its equality with itself, its reading as data. -/
import Derived.Test.YtmhloojnekjfhaaDoorKsRowN
import Derived.WideShapes
import Derived.Lib.SmallJoins
import Derived.Deep.Slices
import Derived.Deep.Fields
import Derived.ChangeSlices
namespace Go.Proofs.YtmhloojnekjfhaaDoor
open Go.ChangeShapes Go.WideShapes Go.ChangeAt Go.RowKit Go.Deep Go.Joins Go.Sort

/-- A slice of integers that came in: nil, or a row. -/
def SliceN (w : World) (v : Value) (o : Array Int) : Prop :=
  (∃ p cap, v = .slice p 0 cap ∧ o = #[]) ∨ ∃ b off cap, v = .slice (some ⟨b, off, none⟩) o.size cap ∧ RowN w b off o
theorem SliceN.below {w w' : World} {v : Value} {o : Array Int} (h : SliceN w v o) (hb : RowKit.Below w.heap.size w w') : SliceN w' v o := by
  rcases h with h | ⟨b, off, cap, h1, h4⟩
  · exact .inl h
  · exact .inr ⟨b, off, cap, h1, h4.below hb⟩
theorem SliceN.form {w : World} {v : Value} {o : Array Int} (h : SliceN w v o) : ∃ a cap, v = .slice a o.size cap := by
  rcases h with ⟨p, cap, h1, rfl⟩ | ⟨b, off, cap, h1, _⟩
  · exact ⟨_, _, h1⟩
  · exact ⟨_, _, h1⟩

/-- The copy: a fresh row of the same numbers. -/
def FreshN (o : Array Int) (w w' : World) (g : Nat) : Prop := w.heap.size ≤ g ∧ RowN w' g 0 o ∧ RowKit.Below w.heap.size w w'
set_option maxRecDepth 100000 in
set_option maxHeartbeats 1000000 in
theorem eqIntS_same (b1 c1 b2 c2 : Nat) (o : Array Int) (w : World) (h1 : RowN w b1 0 o) (h2 : RowN w b2 0 o) (hn : o.size ≤ 1048576) :
    Calls Tryd.prog 23 #[.slice (some ⟨b1, 0, none⟩) o.size c1, .slice (some ⟨b2, 0, none⟩) o.size c2] w fun x w' => x = .returned (.bool true) ∧ RowKit.Below w.heap.size w w' := by
  have H1 := Lib.hid h1
  have H2 := Lib.hid h2
  have hn' : (o.size : Int) ≤ 1048576 := by omega
  clear h1 h2
  go_enter Tryd.func23, Tryd.ntmps23
  go_wp2
  go_loopw [5] (fun i wr => ∃ k : Nat, i = .int .i64 k ∧ k ≤ o.size ∧ Hid (RowKit.Below w.heap.size w wr) ∧ w.heap.size ≤ wr.heap.size) (fun i _ => o.size - (RowKit.intOf i).toNat)
  case atStart => exact ⟨0, rfl, Nat.zero_le _, Below.refl _ _, Nat.le_refl _⟩
  case round =>
    obtain ⟨k, rfl, hk, HW, hw2⟩ := hrel
    by_cases hlt : k < o.size
    · have x0 := (H1.out.below HW.out).cell k hlt
      have y0 := (H2.out.below HW.out).cell k hlt
      obtain ⟨x, hxe⟩ : ∃ x, x = o[k]! := ⟨_, rfl⟩
      rw [← hxe] at x0 y0
      simp only [Nat.zero_add] at x0 y0
      clear hxe
      go_wp2
      go_quiet (fail)
      go_wp2
      go_roundw
      case rel => exact ⟨k + 1, by go_num, by omega, below_drewN HW.out _, by simpa using hw2⟩
      case measure => simp [RowKit.intOf]; omega
    · go_wp2
      go_ret
      exact ⟨rfl, HW.out⟩

section
variable {H : Type} {enc : TypeId × Value → H} {W : World} {base : Nat} {sp : Nat → Bool} {held : Bool}
/-- A slice of integers that can be read. -/
theorem ints_of_trod {n : Nat} {v : Value} {x : DataW H × List MemPlace} (h : DataW.trod enc Tryd.prog W base sp held n 29 [v] = some x) :
    ∃ o : Array Int, SliceN W v o ∧ o.size ≤ maxLen := by
  rcases open_ints Tryd.underlying29 Tryd.underlying3 (by kernel_rfl) h with ⟨hcs, _⟩ | ⟨a, len, cap, zs, hcs, _, hl, hm, hzl, _, hi, _⟩
  · simp only [List.cons.injEq, and_true] at hcs
    exact ⟨#[], .inl ⟨_, _, hcs, rfl⟩, Nat.zero_le _⟩
  · simp only [List.cons.injEq, and_true] at hcs
    subst hcs
    rcases Nat.eq_zero_or_pos len with h0 | h0
    · subst h0
      exact ⟨#[], .inl ⟨_, _, rfl, rfl⟩, Nat.zero_le _⟩
    have hle : len ≤ zs.length := by rw [hzl]; split <;> omega
    have hc := fun i (hi' : i < len) => hi i (by omega)
    have hspot : a.spot = none := by
      have h1 := hc 0 h0
      cases hsp : a.spot with
      | none => rfl
      | some q =>
        exfalso
        simp [World.cell?, Addr.add, hsp] at h1
        split at h1 <;> simp at h1
    obtain ⟨b, off, spot⟩ := a
    simp only at hspot
    subst hspot
    have hcell : ∀ j, j < len → W.cell? ⟨b, off + j, none⟩ = some (.int .i64 (zs.getD j 0)) := fun j hj => by
      have := hc j hj
      rw [Addr.add_lit] at this
      exact this
    have hold : b < W.heap.size := by
      have h1 := hcell 0 h0
      rcases Nat.lt_or_ge b W.heap.size with h' | h'
      · exact h'
      · simp [World.cell?, Array.getElem?_eq_none h'] at h1
    have hsz : (zs.take len).toArray.size = len := by simp; omega
    refine ⟨(zs.take len).toArray, .inr ⟨b, off, cap, by rw [hsz], hold, fun j hj => ?_⟩, by omega⟩
    rw [hsz] at hj
    rw [hcell j hj]
    have : zs.getD j 0 = (zs.take len).toArray[j]! := by
      have h2 : j < zs.length := by omega
      simp [h2, hj]
    rw [this]
end
end Go.Proofs.YtmhloojnekjfhaaDoor
