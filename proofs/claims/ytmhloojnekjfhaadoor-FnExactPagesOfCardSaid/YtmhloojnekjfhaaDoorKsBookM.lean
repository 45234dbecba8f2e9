
/- The book's map: what a lookup of a row finds. -/
import Derived.Test.YtmhloojnekjfhaaDoorKsBookP
import Derived.Maps.OwnSet
import Derived.Maps.Views
namespace Go.Proofs.YtmhloojnekjfhaaDoor
open Go.RowKit

theorem plain_int_of {P : Program} {e : TypeId} {H : Type} (hu : P.underlying e = some (.int .i64)) {v : Value} {k : Int} {ps : List MemPlace} (h : plainElem (H := H) P e v = some (.lit (.int .i64 k), ps)) : v = .int .i64 k := by
  unfold plainElem at h
  rw [hu] at h
  cases v <;> simp at h
  case int q a =>
    obtain ⟨⟨h1, h2⟩, h3, _⟩ := h
    rw [h1, h3]
theorem plain_int_at {P : Program} {e : TypeId} {H : Type} (hu : P.underlying e = some (.int .i64)) {k : Nat} (h : k ≤ 1000) : plainElem (H := H) P e (.int .i64 k) = some (.lit (.int .i64 k), []) := by
  unfold plainElem
  rw [hu]
  have hw : (Lit.int .i64 (k : Int)).wf = true := by
    simp only [Lit.wf, Bool.and_eq_true, decide_eq_true_eq]
    exact ⟨by show (-9223372036854775808 : Int) ≤ (k : Int); omega, by show (k : Int) ≤ 9223372036854775807; omega⟩
  simp [hw]
noncomputable abbrev intE : Value → Option (DataW Unit × List MemPlace) := plainElem Tryd.prog 3
theorem intE_of {v : Value} {k : Int} {ps : List MemPlace} (h : intE v = some (.lit (.int .i64 k), ps)) : v = .int .i64 k := plain_int_of Tryd.underlying3 h
theorem intE_at {k : Nat} (h : k ≤ 1000) : intE (.int .i64 k) = some (.lit (.int .i64 k), []) := plain_int_at Tryd.underlying3 h
/-- A map of the rows, each to its place. -/
def MapAt (W : World) (M : Nat) (rows : List (Nat → Int)) : Prop := ∃ D : DataW Unit, W.ownsMap Tryd.prog 60 intE M rows.length D ∧ Maps.IsMap D ∧
  (∀ k, k < rows.length → D.atKey (keyR rows[k]!) (.lit (.int .i64 0)) = .lit (.int .i64 k)) ∧ (∀ f, ByteF f → (Maps.has D (keyR f) = true ↔ ∃ k, k < rows.length ∧ sameRow rows[k]! f = true))
theorem sameRow_key {f g : Nat → Int} (h : sameRow f g = true) : keyR f = keyR g := by
  have := rowA_congr ((sameRow_iff f g).1 h)
  rw [keyR, keyR, this]
theorem mapT : Tryd.prog.underlying 62 = some (.map 60 3) := by kernel_rfl
theorem zeroInt (w : World) : (zeroValue 3).run Tryd.prog w = .ok (.int .i64 0) w := by kernel_rfl
theorem MapAt.look_yes {W : World} {M : Nat} {rows : List (Nat → Int)} (h : MapAt W M rows) {f : Nat → Int} (hf : ByteF f) {k : Nat} (hk : k < rows.length) (hs : sameRow rows[k]! f = true) :
    (Instr.lookup 62 (.map (some M)) (.agg (rowA f)) true).run Tryd.prog W = .ok (.tuple #[.int .i64 k, .bool true]) W := by
  obtain ⟨D, h1, h2, h3, h4⟩ := h
  obtain ⟨v, ps, h5, h6⟩ := h1.look_ok rowKeyed mapT (zeroInt W) (intE_at (Nat.zero_le _)) (keyR_of hf)
  rw [(h4 f hf).2 ⟨k, hk, hs⟩] at h5
  rw [← sameRow_key hs] at h6
  have h7 := h3 k hk
  rw [show ((0 : Nat) : Int) = 0 from rfl, h7] at h6
  rw [h5, intE_of h6]
theorem MapAt.look_no {W : World} {M : Nat} {rows : List (Nat → Int)} (h : MapAt W M rows) {f : Nat → Int} (hf : ByteF f) (hs : ∀ k, k < rows.length → sameRow rows[k]! f = false) :
    (Instr.lookup 62 (.map (some M)) (.agg (rowA f)) true).run Tryd.prog W = .ok (.tuple #[.int .i64 0, .bool false]) W := by
  obtain ⟨D, h1, h2, h3, h4⟩ := h
  obtain ⟨v, ps, h5, h6⟩ := h1.look_ok rowKeyed mapT (zeroInt W) (intE_at (Nat.zero_le _)) (keyR_of hf)
  have h7 : Maps.has D (keyR f) = false := by
    cases hq : Maps.has D (keyR f) with
    | false => rfl
    | true =>
      obtain ⟨k, hk, hsk⟩ := (h4 f hf).1 hq
      rw [hs k hk] at hsk
      cases hsk
  rw [h7] at h5
  rw [show ((0 : Nat) : Int) = 0 from rfl, Maps.atKey_of_not_has h7] at h6
  rw [h5, intE_of h6]
theorem MapAt.new (W : World) : MapAt (W.alloc (.map #[] 0)) W.heap.size [] :=
  ⟨.map [], World.ownsMap_made W _ _ _, by simp [Maps.IsMap], fun k hk => absurd hk (Nat.not_lt_zero _), fun f _ => ⟨fun h => by simp [Maps.has] at h, fun ⟨k, hk, _⟩ => absurd hk (Nat.not_lt_zero _)⟩⟩
theorem get_last {rows : List (Nat → Int)} {f : Nat → Int} : (rows ++ [f])[rows.length]! = f := by simp
theorem get_before {rows : List (Nat → Int)} {f : Nat → Int} {k : Nat} (h : k < rows.length) : (rows ++ [f])[k]! = rows[k]! := by
  simp [List.getElem!_eq_getElem?_getD, List.getElem?_append_left h]
set_option maxRecDepth 100000 in
theorem MapAt.put {W : World} {M : Nat} {rows : List (Nat → Int)} (h : MapAt W M rows) {f : Nat → Int} (hf : ByteF f) (hall : ∀ k, k < rows.length → ByteF rows[k]!) (hno : ∀ k, k < rows.length → sameRow rows[k]! f = false) (hl : rows.length ≤ 100) :
    ∃ W', (Instr.mapUpdate 62 (.map (some M)) (.agg (rowA f)) (.int .i64 rows.length)).run Tryd.prog W = .ok () W' ∧ MapAt W' M (rows ++ [f]) ∧ W.grownBy W' (some M) := by
  obtain ⟨D, h1, h2, h3, h4⟩ := h
  obtain ⟨W', h5, h6, h7⟩ := h1.update (val := .int .i64 rows.length) (d := .lit (.int .i64 rows.length)) (ps := []) rowKeyed mapT (show rows.length < maxLen by unfold maxLen; omega) (keyR_of hf) (intE_at (k := rows.length) (by omega))
  have hkl := rowKeyed.key (keyR_of hf)
  refine ⟨W', h5, ⟨D.put (keyR f) (.lit (.int .i64 rows.length)), ?_, ?_, ?_, ?_⟩, h7⟩
  · simpa using h6
  · exact h2.put _ _
  · intro k hk
    rcases Nat.lt_or_ge k rows.length with h8 | h8
    · rw [get_before h8, Maps.atKey_put_other (fun e => ?_), h3 k h8]
      have := keyR_inj (hall k h8) hf e
      rw [hno k h8] at this
      cases this
    · obtain rfl : k = rows.length := by simp at hk; omega
      rw [get_last, Maps.atKey_put_same h2 hkl]
  · intro g hg
    by_cases he : keyR g = keyR f
    · rw [he, Maps.has_put_same h2 hkl]
      refine ⟨fun _ => ⟨rows.length, by simp, by rw [get_last]; exact keyR_inj hf hg he.symm⟩, fun _ => rfl⟩
    · rw [Maps.has_put_other he, h4 g hg]
      constructor
      · rintro ⟨k, hk, hs⟩
        exact ⟨k, by simp; omega, by rw [get_before hk]; exact hs⟩
      · rintro ⟨k, hk, hs⟩
        rcases Nat.lt_or_ge k rows.length with h8 | h8
        · exact ⟨k, h8, by rw [get_before h8] at hs; exact hs⟩
        · obtain rfl : k = rows.length := by simp at hk; omega
          rw [get_last] at hs
          exact absurd (sameRow_key hs).symm he
theorem MapAt.below {W W' : World} {M : Nat} {rows : List (Nat → Int)} (h : MapAt W M rows) (hb : RowKit.Below W.heap.size W W') : MapAt W' M rows := by
  obtain ⟨D, ⟨es, clock, h1, h2, h3, h4⟩, h5⟩ := h
  exact ⟨D, ⟨es, clock, (hb.block M (Array.getElem?_eq_some_iff.1 h1).1).trans h1, h2, h3, h4⟩, h5⟩
theorem MapAt.kept {W W' : World} {M : Nat} {rows : List (Nat → Int)} {row : Option Nat} (h : MapAt W M rows) (hg : W.grownBy W' row) (hne : some M ≠ row) : MapAt W' M rows := by
  obtain ⟨D, ⟨es, clock, h1, h2, h3, h4⟩, h5⟩ := h
  exact ⟨D, ⟨es, clock, (hg.block M (Array.getElem?_eq_some_iff.1 h1).1 hne).trans h1, h2, h3, h4⟩, h5⟩
end Go.Proofs.YtmhloojnekjfhaaDoor
