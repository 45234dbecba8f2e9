
/- A slice of strings that comes in: its measure, its copy, its equality with itself, its reading as data. -/
import Derived.Test.YtmhloojnekjfhaaDoorKsRowN
import Derived.WideShapes
import Derived.Lib.SmallJoins
import Derived.Deep.Slices
import Derived.Deep.Fields
import Derived.SliceStrings
namespace Go.Proofs.YtmhloojnekjfhaaDoor
open Go.ChangeShapes Go.WideShapes Go.ChangeAt Go.RowKit Go.Deep Go.Joins Go.Sort

/-- A row of strings in memory. -/
structure RowT (w : World) (b off : Nat) (o : Array ByteArray) : Prop where
  old : b < w.heap.size
  cell : ∀ j, j < o.size → w.cell? ⟨b, off + j, none⟩ = some (.string o[j]!)
theorem RowT.below {w w' : World} {b off : Nat} {o : Array ByteArray} (h : RowT w b off o) (hb : RowKit.Below w.heap.size w w') : RowT w' b off o :=
  ⟨Nat.lt_of_lt_of_le h.old hb.size, fun j hj => (hb.cell (p := ⟨b, off + j, none⟩) h.old).trans (h.cell j hj)⟩
abbrev encT : ByteArray → Value := Value.string
theorem run_makeStr (n : Nat) (hn : n ≤ 1048576) (W : World) :
    (Instr.makeSlice 28 (.int .i64 (n : Int)) (.int .i64 (n : Int))).run Tryd.prog W = .ok (.slice (some ⟨W.heap.size, 0, none⟩) n n) (W.alloc (.cells (madeCells #[.string ⟨#[]⟩] n) 9)) := by
  obtain ⟨i0, hi, hz0, hz1, hz2⟩ := info_parts (show (Tryd.prog.info? 9).map (fun i => (i.zero, i.size, i.bytes)) = some (some (.string ⟨#[]⟩), 1, 16) by kernel_rfl)
  have h := run_make (P := Tryd.prog) W 28 9 i0 _ Tryd.underlying28 hi hz0 .i64 .i64 (n : Int) (n : Int) (by omega) (by omega) (by rw [hz2]; omega) (by omega)
  rw [hz1] at h
  simp only [Int.toNat_natCast, Nat.mul_one] at h
  exact h

/-- A slice of strings that came in: nil, or a row. -/
def SliceT (w : World) (v : Value) (o : Array ByteArray) : Prop :=
  (∃ p cap, v = .slice p 0 cap ∧ o = #[]) ∨ ∃ b off cap, v = .slice (some ⟨b, off, none⟩) o.size cap ∧ RowT w b off o
theorem SliceT.below {w w' : World} {v : Value} {o : Array ByteArray} (h : SliceT w v o) (hb : RowKit.Below w.heap.size w w') : SliceT w' v o := by
  rcases h with h | ⟨b, off, cap, h1, h4⟩
  · exact .inl h
  · exact .inr ⟨b, off, cap, h1, h4.below hb⟩
theorem SliceT.form {w : World} {v : Value} {o : Array ByteArray} (h : SliceT w v o) : ∃ a cap, v = .slice a o.size cap := by
  rcases h with ⟨p, cap, h1, rfl⟩ | ⟨b, off, cap, h1, _⟩
  · exact ⟨_, _, h1⟩
  · exact ⟨_, _, h1⟩

/-- The copy: a fresh row of the same strings. -/
def FreshT (o : Array ByteArray) (w w' : World) (g : Nat) : Prop := w.heap.size ≤ g ∧ RowT w' g 0 o ∧ RowKit.Below w.heap.size w w'
set_option maxRecDepth 100000 in
set_option maxHeartbeats 1000000 in
theorem eqStringS_same (b1 c1 b2 c2 : Nat) (o : Array ByteArray) (w : World) (h1 : RowT w b1 0 o) (h2 : RowT w b2 0 o) (hn : o.size ≤ 1048576) :
    Calls Tryd.prog 22 #[.slice (some ⟨b1, 0, none⟩) o.size c1, .slice (some ⟨b2, 0, none⟩) o.size c2] w fun x w' => x = .returned (.bool true) ∧ RowKit.Below w.heap.size w w' := by
  have H1 := Lib.hid h1
  have H2 := Lib.hid h2
  have hn' : (o.size : Int) ≤ 1048576 := by omega
  clear h1 h2
  go_enter Tryd.func22, Tryd.ntmps22
  go_wp2
  go_loopw [5] (fun i wr => ∃ k : Nat, i = .int .i64 k ∧ k ≤ o.size ∧ Hid (RowKit.Below w.heap.size w wr) ∧ w.heap.size ≤ wr.heap.size) (fun i _ => o.size - (RowKit.intOf i).toNat)
  case atStart => exact ⟨0, rfl, Nat.zero_le _, Below.refl _ _, Nat.le_refl _⟩
  case round =>
    obtain ⟨k, rfl, hk, HW, hw2⟩ := hrel
    by_cases hlt : k < o.size
    · have x0 := (H1.out.below HW.out).cell k hlt
      have y0 := (H2.out.below HW.out).cell k hlt
      obtain ⟨x, hxe⟩ : ∃ x, x = o[k]! := ⟨_, rfl⟩
      rw [← hxe] at x0 y0
      simp only [Nat.zero_add] at x0 y0
      clear hxe
      go_wp2
      go_quiet (fail)
      go_wp2
      go_roundw
      case rel => exact ⟨k + 1, by go_num, by omega, below_drewN HW.out _, by simpa using hw2⟩
      case measure => simp [RowKit.intOf]; omega
    · go_wp2
      go_ret
      exact ⟨rfl, HW.out⟩


/-- What a measure tells: nothing where it is below nought. -/
def SzT (o : Array ByteArray) (x : Ending) : Prop := ∃ r : Int, x = .returned (.int .i64 r) ∧ (0 ≤ r → o.size ≤ 1048576 ∧ ∀ j, j < o.size → o[j]!.size ≤ 1048576)
theorem SzT.no (o : Array ByteArray) : SzT o (.returned (.int .i64 (-1))) := ⟨-1, rfl, fun h => by omega⟩
theorem SzT.yes {o : Array ByteArray} {r : Int} (h1 : o.size ≤ 1048576) (h2 : ∀ j, j < o.size → o[j]!.size ≤ 1048576) : SzT o (.returned (.int .i64 r)) := ⟨r, rfl, fun _ => ⟨h1, h2⟩⟩
section
variable {H : Type} {enc : TypeId × Value → H} {W : World} {base : Nat} {sp : Nat → Bool} {held : Bool}
/-- A slice of strings that can be read. -/
theorem strs_of_trod {n : Nat} {v : Value} {x : DataW H × List MemPlace} (h : DataW.trod enc Tryd.prog W base sp held n 28 [v] = some x) :
    ∃ o : Array ByteArray, SliceT W v o ∧ (∀ j, j < o.size → o[j]!.size ≤ maxLen) ∧ o.size ≤ maxLen := by
  rcases open_strings Tryd.underlying28 Tryd.underlying9 (by kernel_rfl) h with ⟨hcs, _⟩ | ⟨a, len, cap, zs, hcs, _, hl, hm, hzl, _, hi, hsz⟩
  · simp only [List.cons.injEq, and_true] at hcs
    exact ⟨#[], .inl ⟨_, _, hcs, rfl⟩, fun j hj => absurd hj (Nat.not_lt_zero j), Nat.zero_le _⟩
  · simp only [List.cons.injEq, and_true] at hcs
    subst hcs
    rcases Nat.eq_zero_or_pos len with h0 | h0
    · subst h0
      exact ⟨#[], .inl ⟨_, _, rfl, rfl⟩, fun j hj => absurd hj (Nat.not_lt_zero j), Nat.zero_le _⟩
    have hle : len ≤ zs.length := by rw [hzl]; split <;> omega
    have hc := fun i (hi' : i < len) => hi i (by omega)
    have hspot : a.spot = none := by
      have h1 := hc 0 h0
      cases hsp : a.spot with
      | none => rfl
      | some q =>
        exfalso
        simp [World.cell?, Addr.add, hsp] at h1
        split at h1 <;> simp at h1
    obtain ⟨b, off, spot⟩ := a
    simp only at hspot
    subst hspot
    have hcell : ∀ j, j < len → W.cell? ⟨b, off + j, none⟩ = some (.string (zs.getD j ByteArray.empty)) := fun j hj => by
      have := hc j hj
      rw [Addr.add_lit] at this
      exact this
    have hold : b < W.heap.size := by
      have h1 := hcell 0 h0
      rcases Nat.lt_or_ge b W.heap.size with h' | h'
      · exact h'
      · simp [World.cell?, Array.getElem?_eq_none h'] at h1
    have hss : (zs.take len).toArray.size = len := by simp; omega
    have hget : ∀ j, j < len → zs.getD j ByteArray.empty = (zs.take len).toArray[j]! := fun j hj => by
      have h2 : j < zs.length := by omega
      simp [h2, hj]
    refine ⟨(zs.take len).toArray, .inr ⟨b, off, cap, by rw [hss], hold, fun j hj => ?_⟩, fun j hj => ?_, by omega⟩
    · rw [hss] at hj
      rw [hcell j hj, hget j hj]
    · rw [hss] at hj
      rw [← hget j hj]
      have h2 : j < zs.length := by omega
      refine hsz _ ?_
      simp [h2]
end
end Go.Proofs.YtmhloojnekjfhaaDoor
