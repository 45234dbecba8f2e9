
/- A slice of strings that comes in: its measure, its copy, its equality with itself, its reading as data. -/
import Derived.Test.YtbbejkimgkpfkaaKsRowN
import Derived.WideShapes
import Derived.Lib.SmallJoins
import Derived.Deep.Slices
import Derived.Deep.Fields
import Derived.SliceStrings
namespace Go.Proofs.Ytbbejkimgkpfkaa
open Go.ChangeShapes Go.WideShapes Go.ChangeAt Go.RowKit Go.Deep Go.Joins Go.Sort

/-- A row of strings in memory. -/
structure RowT (w : World) (b off : Nat) (o : Array ByteArray) : Prop where
  old : b < w.heap.size
  cell : ∀ j, j < o.size → w.cell? ⟨b, off + j, none⟩ = some (.string o[j]!)
theorem RowT.below {w w' : World} {b off : Nat} {o : Array ByteArray} (h : RowT w b off o) (hb : RowKit.Below w.heap.size w w') : RowT w' b off o :=
  ⟨Nat.lt_of_lt_of_le h.old hb.size, fun j hj => (hb.cell (p := ⟨b, off + j, none⟩) h.old).trans (h.cell j hj)⟩
abbrev encT : ByteArray → Value := Value.string
theorem run_makeStr (n : Nat) (hn : n ≤ 1048576) (W : World) :
    (Instr.makeSlice 25 (.int .i64 (n : Int)) (.int .i64 (n : Int))).run Try.prog W = .ok (.slice (some ⟨W.heap.size, 0, none⟩) n n) (W.alloc (.cells (madeCells #[.string ⟨#[]⟩] n) 9)) := by
  obtain ⟨i0, hi, hz0, hz1, hz2⟩ := info_parts (show (Try.prog.info? 9).map (fun i => (i.zero, i.size, i.bytes)) = some (some (.string ⟨#[]⟩), 1, 16) by kernel_rfl)
  have h := run_make (P := Try.prog) W 25 9 i0 _ Try.underlying25 hi hz0 .i64 .i64 (n : Int) (n : Int) (by omega) (by omega) (by rw [hz2]; omega) (by omega)
  rw [hz1] at h
  simp only [Int.toNat_natCast, Nat.mul_one] at h
  exact h

/-- A slice of strings that came in: nil, or a row. -/
def SliceT (w : World) (v : Value) (o : Array ByteArray) : Prop :=
  (∃ p cap, v = .slice p 0 cap ∧ o = #[]) ∨ ∃ b off cap, v = .slice (some ⟨b, off, none⟩) o.size cap ∧ RowT w b off o
theorem SliceT.below {w w' : World} {v : Value} {o : Array ByteArray} (h : SliceT w v o) (hb : RowKit.Below w.heap.size w w') : SliceT w' v o := by
  rcases h with h | ⟨b, off, cap, h1, h4⟩
  · exact .inl h
  · exact .inr ⟨b, off, cap, h1, h4.below hb⟩
theorem SliceT.form {w : World} {v : Value} {o : Array ByteArray} (h : SliceT w v o) : ∃ a cap, v = .slice a o.size cap := by
  rcases h with ⟨p, cap, h1, rfl⟩ | ⟨b, off, cap, h1, _⟩
  · exact ⟨_, _, h1⟩
  · exact ⟨_, _, h1⟩

set_option maxHeartbeats 400000 in
theorem toStringS_nil (p : Option Addr) (cap : Nat) (w : World) : Calls Try.prog 9 #[.slice p 0 cap] w fun x w' => x = .returned (.slice (some ⟨w.heap.size, 0, none⟩) 0 0) ∧ w' = w.alloc (.cells (madeCells #[.string ⟨#[]⟩] 0) 9) := by
  have hmk := fun W => run_makeStr 0 (by omega) W
  simp only [Int.natCast_zero] at hmk
  go_enter Try.func9, Try.ntmps9
  go_wp2
  refine wp_loop_rounds 1 ?_
  rw [rounds_succ]
  go_wp2
  go_ret
  exact ⟨rfl, rfl⟩

set_option maxRecDepth 100000 in
set_option maxHeartbeats 1000000 in
theorem toStringS_row (b off cap : Nat) (o : Array ByteArray) (w : World) (hR : RowT w b off o) (hn : o.size ≤ 1048576) :
    Calls Try.prog 9 #[.slice (some ⟨b, off, none⟩) o.size cap] w fun x w' =>
      ∃ g, x = .returned (.slice (some ⟨g, 0, none⟩) o.size o.size) ∧ w.heap.size ≤ g ∧ (g < w'.heap.size ∧ Holds encT w' g 0 o) ∧ RowKit.Below w.heap.size w w' := by
  have HR := Lib.hid hR
  clear hR
  have hn' : (o.size : Int) ≤ 1048576 := by omega
  have hmk := run_makeStr o.size hn
  go_enter Try.func9, Try.ntmps9
  go_wp2
  have hH0 := made_holdsG encT ⟨#[]⟩ rfl o.size 9 w w.heap.size rfl
  obtain ⟨wa, hwa⟩ : ∃ wa, wa = w.alloc (.cells (madeCells #[.string ⟨#[]⟩] o.size) 9) := ⟨_, rfl⟩
  rw [← hwa] at hH0
  have hz : w.heap.size < wa.heap.size := by rw [hwa]; simp
  have hba : RowKit.Below w.heap.size w wa := by rw [hwa]; exact (Below.refl _ _).alloc (Nat.le_refl _) _
  rw [← hwa]
  have HH0 := Lib.hid hH0
  have HB := Lib.hid hba
  clear hwa hba hH0 hmk
  obtain ⟨g, hg⟩ : ∃ g, g = w.heap.size := ⟨_, rfl⟩
  rw [← hg] at HH0 hz ⊢
  have HG := Lib.hid hg
  clear hg
  go_loopw [4] (fun i wr => ∃ (k : Nat) (A : Array ByteArray), i = .int .i64 k ∧ k ≤ o.size ∧ Hid (A.size = o.size) ∧ Hid (Holds encT wr g 0 A) ∧ Hid (∀ j, j < k → A[j]! = o[j]!) ∧ Hid (RowKit.Below w.heap.size w wr) ∧ wa.heap.size ≤ wr.heap.size) (fun i _ => o.size - (RowKit.intOf i).toNat)
  case atStart => exact ⟨0, _, rfl, Nat.zero_le _, by simp [Hid], HH0.out, (show Hid _ from fun j hj => absurd hj (Nat.not_lt_zero _)), HB.out, Nat.le_refl _⟩
  case round =>
    obtain ⟨k, A, rfl, hk, HAZ, HH, HM, HW, hw2⟩ := hrel
    by_cases hlt : k < o.size
    · have x0 := (HR.out.below HW.out).cell k hlt
      obtain ⟨x, hxe⟩ : ∃ x, x = o[k]! := ⟨_, rfl⟩
      rw [← hxe] at x0
      have XE := Lib.hid hxe
      have hkA : k < A.size := by rw [HAZ.out]; exact hlt
      have y0 := (HH.out k hkA).1
      have y1 := (HH.out k hkA).2
      simp only [Nat.zero_add] at y0 y1
      have HKA := Lib.hid hkA
      clear hkA hxe
      go_wp2
      go_roundw
      case rel =>
        refine ⟨k + 1, A.setIfInBounds k x, by go_num, by omega, (show _ = _ by simpa using HAZ.out), holds_setG encT HH.out k x HKA.out, (show Hid _ from fun j hj => ?_), HW.out.setCell (p := ⟨g, k, none⟩) (Nat.le_of_eq HG.out.symm) _, by simpa [World.setCell] using hw2⟩
        by_cases e : j = k
        · subst e
          rw [getElem!_set_same _ _ _ HKA.out, XE.out]
        · rw [getElem!_set_other _ _ _ _ e]
          exact HM.out j (by omega)
      case measure => simp [RowKit.intOf]; omega
    · go_wp2
      go_ret
      have e : A = o := Array.ext HAZ.out fun j h1 h2 => by
        have := HM.out j (by omega)
        simpa [h1, h2] using this
      exact ⟨g, rfl, Nat.le_of_eq HG.out.symm, ⟨by omega, e ▸ HH.out⟩, HW.out⟩

/-- The copy: a fresh row of the same strings. -/
def FreshT (o : Array ByteArray) (w w' : World) (g : Nat) : Prop := w.heap.size ≤ g ∧ RowT w' g 0 o ∧ RowKit.Below w.heap.size w w'
theorem toStringS_hot (v : Value) (o : Array ByteArray) (w : World) (hv : SliceT w v o) (hn : o.size ≤ 1048576) :
    Calls Try.prog 9 #[v] w fun x w' => ∃ g, x = .returned (.slice (some ⟨g, 0, none⟩) o.size o.size) ∧ w.heap.size ≤ g ∧ (g < w'.heap.size ∧ Holds encT w' g 0 o) ∧ RowKit.Below w.heap.size w w' := by
  rcases hv with ⟨p, cap, rfl, rfl⟩ | ⟨b, off, cap, rfl, hR⟩
  · refine (toStringS_nil p cap w).mono fun x w' ⟨h1, h2⟩ => ⟨w.heap.size, h1, Nat.le_refl _, ?_, ?_⟩
    · rw [h2]
      exact ⟨by simp, fun j hj => absurd hj (Nat.not_lt_zero j)⟩
    · rw [h2]
      exact (Below.refl _ _).alloc (Nat.le_refl _) _
  · exact toStringS_row b off cap o w hR hn
theorem toStringS_any (v : Value) (o : Array ByteArray) (w : World) (hv : SliceT w v o) (hn : o.size ≤ 1048576) :
    Calls Try.prog 9 #[v] w fun x w' => ∃ g, x = .returned (.slice (some ⟨g, 0, none⟩) o.size o.size) ∧ FreshT o w w' g :=
  (toStringS_hot v o w hv hn).mono fun x w' ⟨g, h1, h2, h3, h4⟩ => ⟨g, h1, h2, ⟨h3.1, fun j hj => (h3.2 j hj).1⟩, h4⟩

set_option maxRecDepth 100000 in
set_option maxHeartbeats 1000000 in
theorem eqStringS_same (b1 c1 b2 c2 : Nat) (o : Array ByteArray) (w : World) (h1 : RowT w b1 0 o) (h2 : RowT w b2 0 o) (hn : o.size ≤ 1048576) :
    Calls Try.prog 12 #[.slice (some ⟨b1, 0, none⟩) o.size c1, .slice (some ⟨b2, 0, none⟩) o.size c2] w fun x w' => x = .returned (.bool true) ∧ RowKit.Below w.heap.size w w' := by
  have H1 := Lib.hid h1
  have H2 := Lib.hid h2
  have hn' : (o.size : Int) ≤ 1048576 := by omega
  clear h1 h2
  go_enter Try.func12, Try.ntmps12
  go_wp2
  go_loopw [5] (fun i wr => ∃ k : Nat, i = .int .i64 k ∧ k ≤ o.size ∧ Hid (RowKit.Below w.heap.size w wr) ∧ w.heap.size ≤ wr.heap.size) (fun i _ => o.size - (RowKit.intOf i).toNat)
  case atStart => exact ⟨0, rfl, Nat.zero_le _, Below.refl _ _, Nat.le_refl _⟩
  case round =>
    obtain ⟨k, rfl, hk, HW, hw2⟩ := hrel
    by_cases hlt : k < o.size
    · have x0 := (H1.out.below HW.out).cell k hlt
      have y0 := (H2.out.below HW.out).cell k hlt
      obtain ⟨x, hxe⟩ : ∃ x, x = o[k]! := ⟨_, rfl⟩
      rw [← hxe] at x0 y0
      simp only [Nat.zero_add] at x0 y0
      clear hxe
      go_wp2
      go_quiet (fail)
      go_wp2
      go_roundw
      case rel => exact ⟨k + 1, by go_num, by omega, below_drewN HW.out _, by simpa using hw2⟩
      case measure => simp [RowKit.intOf]; omega
    · go_wp2
      go_ret
      exact ⟨rfl, HW.out⟩


/-- What a measure tells: nothing where it is below nought. -/
def SzT (o : Array ByteArray) (x : Ending) : Prop := ∃ r : Int, x = .returned (.int .i64 r) ∧ (0 ≤ r → o.size ≤ 1048576 ∧ ∀ j, j < o.size → o[j]!.size ≤ 1048576)
theorem SzT.no (o : Array ByteArray) : SzT o (.returned (.int .i64 (-1))) := ⟨-1, rfl, fun h => by omega⟩
theorem SzT.yes {o : Array ByteArray} {r : Int} (h1 : o.size ≤ 1048576) (h2 : ∀ j, j < o.size → o[j]!.size ≤ 1048576) : SzT o (.returned (.int .i64 r)) := ⟨r, rfl, fun _ => ⟨h1, h2⟩⟩
set_option maxRecDepth 100000 in
set_option maxHeartbeats 1000000 in
theorem szStringS_row (b off cap : Nat) (o : Array ByteArray) (w : World) (hR : RowT w b off o) (hs : ∀ j, j < o.size → o[j]!.size ≤ maxLen) (hn : o.size ≤ maxLen) :
    Calls Try.prog 7 #[.slice (some ⟨b, off, none⟩) o.size cap, .int .i64 1048576] w fun x w' => SzT o x ∧ w' = w := by
  have HR := Lib.hid hR
  have HS := Lib.hid hs
  unfold maxLen at hn
  clear hR hs
  by_cases hbig : 1048576 < o.size
  · go_enter Try.func7, Try.ntmps7
    go_wp2
    go_ret
    exact ⟨SzT.no o, rfl⟩
  · have hm : o.size ≤ 1048576 := by omega
    have hmi : (o.size : Int) ≤ 1048576 := by omega
    clear hbig
    go_enter Try.func7, Try.ntmps7
    go_wp2_with fail
    go_loop [1, 5] (fun l i => ∃ (k : Nat) (z : Int), i = .int .i64 k ∧ l = .int .i64 z ∧ k ≤ o.size ∧ 0 ≤ z ∧ z ≤ 1048576 ∧ Hid (∀ j, j < k → o[j]!.size ≤ 1048576)) (fun _ i => o.size - (RowKit.intOf i).toNat)
    case atStart => exact ⟨0, _, rfl, rfl, Nat.zero_le _, by omega, by omega, fun j hj => absurd hj (Nat.not_lt_zero _)⟩
    case round =>
      obtain ⟨k, z, rfl, rfl, hk, hz0, hz1, HJ⟩ := hrel
      by_cases hlt : k < o.size
      · have x0 := HR.out.cell k hlt
        have hsz := HS.out k hlt
        unfold maxLen at hsz
        obtain ⟨s, hse⟩ : ∃ s, s = o[k]! := ⟨_, rfl⟩
        rw [← hse] at x0 hsz
        have XE := Lib.hid hse
        have hki : (k : Int) < (o.size : Int) := by omega
        clear hse
        by_cases hq : z < (s.size : Int)
        · have hq2 : z - (s.size : Int) < 0 := by omega
          go_wp2_with fail
          go_ret
          exact ⟨SzT.no o, rfl⟩
        · have hq2 : ¬ z - (s.size : Int) < 0 := by omega
          go_wp2_with fail
          go_round
          case rel =>
            refine ⟨k + 1, z - s.size, by go_num, rfl, by omega, by omega, by omega, fun j hj => ?_⟩
            by_cases e : j = k
            · subst e; rw [← XE.out]; omega
            · exact HJ.out j (by omega)
          case measure => simp [RowKit.intOf]; omega
      · have hki : ¬ (k : Int) < (o.size : Int) := by omega
        go_wp2_with fail
        go_ret
        exact ⟨SzT.yes hm fun j hj => HJ.out j (by omega), rfl⟩
theorem szStringS_nil (p : Option Addr) (cap : Nat) (w : World) : Calls Try.prog 7 #[.slice p 0 cap, .int .i64 1048576] w fun x w' => SzT #[] x ∧ w' = w := by
  go_enter Try.func7, Try.ntmps7
  go_wp2
  refine wp_loop_rounds 1 ?_
  rw [rounds_succ]
  go_wp2
  go_ret
  exact ⟨SzT.yes (by simp) fun j hj => absurd hj (Nat.not_lt_zero j), rfl⟩
theorem szStringS_any (v : Value) (o : Array ByteArray) (w : World) (hv : SliceT w v o) (hs : ∀ j, j < o.size → o[j]!.size ≤ maxLen) (hn : o.size ≤ maxLen) :
    Calls Try.prog 7 #[v, .int .i64 1048576] w fun x w' => SzT o x ∧ w' = w := by
  rcases hv with ⟨p, cap, rfl, rfl⟩ | ⟨b, off, cap, rfl, hR⟩
  · exact szStringS_nil p cap w
  · exact szStringS_row b off cap o w hR hs hn

section
variable {H : Type} {enc : TypeId × Value → H} {W : World} {base : Nat} {sp : Nat → Bool} {held : Bool}
/-- A slice of strings that can be read. -/
theorem strs_of_trod {n : Nat} {v : Value} {x : DataW H × List MemPlace} (h : DataW.trod enc Try.prog W base sp held n 25 [v] = some x) :
    ∃ o : Array ByteArray, SliceT W v o ∧ (∀ j, j < o.size → o[j]!.size ≤ maxLen) ∧ o.size ≤ maxLen := by
  rcases open_strings Try.underlying25 Try.underlying9 (by kernel_rfl) h with ⟨hcs, _⟩ | ⟨a, len, cap, zs, hcs, _, hl, hm, hzl, _, hi, hsz⟩
  · simp only [List.cons.injEq, and_true] at hcs
    exact ⟨#[], .inl ⟨_, _, hcs, rfl⟩, fun j hj => absurd hj (Nat.not_lt_zero j), Nat.zero_le _⟩
  · simp only [List.cons.injEq, and_true] at hcs
    subst hcs
    rcases Nat.eq_zero_or_pos len with h0 | h0
    · subst h0
      exact ⟨#[], .inl ⟨_, _, rfl, rfl⟩, fun j hj => absurd hj (Nat.not_lt_zero j), Nat.zero_le _⟩
    have hle : len ≤ zs.length := by rw [hzl]; split <;> omega
    have hc := fun i (hi' : i < len) => hi i (by omega)
    have hspot : a.spot = none := by
      have h1 := hc 0 h0
      cases hsp : a.spot with
      | none => rfl
      | some q =>
        exfalso
        simp [World.cell?, Addr.add, hsp] at h1
        split at h1 <;> simp at h1
    obtain ⟨b, off, spot⟩ := a
    simp only at hspot
    subst hspot
    have hcell : ∀ j, j < len → W.cell? ⟨b, off + j, none⟩ = some (.string (zs.getD j ByteArray.empty)) := fun j hj => by
      have := hc j hj
      rw [Addr.add_lit] at this
      exact this
    have hold : b < W.heap.size := by
      have h1 := hcell 0 h0
      rcases Nat.lt_or_ge b W.heap.size with h' | h'
      · exact h'
      · simp [World.cell?, Array.getElem?_eq_none h'] at h1
    have hss : (zs.take len).toArray.size = len := by simp; omega
    have hget : ∀ j, j < len → zs.getD j ByteArray.empty = (zs.take len).toArray[j]! := fun j hj => by
      have h2 : j < zs.length := by omega
      simp [h2, hj]
    refine ⟨(zs.take len).toArray, .inr ⟨b, off, cap, by rw [hss], hold, fun j hj => ?_⟩, fun j hj => ?_, by omega⟩
    · rw [hss] at hj
      rw [hcell j hj, hget j hj]
    · rw [hss] at hj
      rw [← hget j hj]
      have h2 : j < zs.length := by omega
      refine hsz _ ?_
      simp [h2]
end
end Go.Proofs.Ytbbejkimgkpfkaa
