
/- The rows of pages, plain; placeOf of the program for a page, whatever it is. -/
import Derived.Test.YtmhloojnekjfhaaDoorKsBookN
import Derived.Test.YtmhloojnekjfhaaDoorKsPagP
namespace Go.Proofs.YtmhloojnekjfhaaDoor
open Go.RowKit Go.Shelf Go.Lib Go.Sort

theorem ofNat_injP {x y : Int} (h0 : 0 ≤ x) (h1 : x ≤ 255) (h2 : 0 ≤ y) (h3 : y ≤ 255) (h : UInt8.ofNat x.toNat = UInt8.ofNat y.toNat) : x = y := by
  have e := congrArg UInt8.toNat h
  rw [UInt8.toNat_ofNat', UInt8.toNat_ofNat'] at e
  have a1 : x.toNat % 2 ^ 8 = x.toNat := Nat.mod_eq_of_lt (by omega)
  have a2 : y.toNat % 2 ^ 8 = y.toNat := Nat.mod_eq_of_lt (by omega)
  omega
/-- A page in a row of its own: zeros behind it. -/
def padR (d : Array CaseD) (ln sz : Nat) : Nat → Int := fun i => if i < sz then goB d (ln + i) else 0
theorem padR_byte {d : Array CaseD} {rest : Int} (h : SwOK d rest) (ln sz : Nat) : ByteF (padR d ln sz) := fun i _ => by
  unfold padR
  split
  · have := goB_range h (ln + i); omega
  · omega
theorem tabS_get {d : Array CaseD} {ln sz i : Nat} (hi : i < sz) : (tabS d ln sz).data.toList[i]? = some (UInt8.ofNat (goB d (ln + i)).toNat) := by
  simp [tabS, tabL, hi]
theorem pad_same {d : Array CaseD} {rest : Int} (h : SwOK d rest) {a c sz : Nat} (hs : sz ≤ 32) : sameRow (padR d a sz) (padR d c sz) = true ↔ tabS d a sz = tabS d c sz := by
  rw [sameRow_iff]
  constructor
  · intro hr
    apply ByteArray.ext
    apply Array.ext'
    show tabL d a sz = tabL d c sz
    unfold tabL
    refine List.map_congr_left fun i hi => ?_
    have hi' := List.mem_range.1 hi
    have := hr i (by omega)
    unfold padR at this
    rw [if_pos hi', if_pos hi'] at this
    rw [this]
  · intro he i _
    unfold padR
    split
    · next hi =>
      have e1 := tabS_get (d := d) (ln := a) hi
      have e2 := tabS_get (d := d) (ln := c) hi
      rw [he, e2] at e1
      have h1 := goB_range h (a + i)
      have h2 := goB_range h (c + i)
      exact (ofNat_injP (by omega) (by omega) (by omega) (by omega) (Option.some.inj e1)).symm
    · rfl
theorem pad_zero {d : Array CaseD} {rest : Int} (h : SwOK d rest) {ln sz : Nat} (hs : 0 < sz) : sameRow (padR d ln sz) (fun _ => 0) = false := by
  cases hb : sameRow (padR d ln sz) (fun _ => 0) with
  | false => rfl
  | true =>
    have := (sameRow_iff _ _).1 hb 0 (by omega)
    unfold padR at this
    rw [if_pos hs] at this
    have := goB_range h (ln + 0)
    omega
/-- The rows are those of the pages. -/
def RepR (d : Array CaseD) (sz : Nat) (L : List ByteArray) (rows : List (Nat → Int)) : Prop := rows.length = L.length ∧ ∀ k, k < L.length → ∃ ln, rows[k]! = padR d ln sz ∧ L[k]! = tabS d ln sz
theorem RepR.byte {d : Array CaseD} {rest : Int} (h : SwOK d rest) {sz : Nat} {L : List ByteArray} {rows : List (Nat → Int)} (hr : RepR d sz L rows) : ∀ k, k < rows.length → ByteF rows[k]! := fun k hk => by
  obtain ⟨ln, e, _⟩ := hr.2 k (by rw [← hr.1]; exact hk)
  rw [e]
  exact padR_byte h ln sz
theorem RepR.same {d : Array CaseD} {rest : Int} (h : SwOK d rest) {sz : Nat} (hs : sz ≤ 32) {L : List ByteArray} {rows : List (Nat → Int)} (hr : RepR d sz L rows) {k : Nat} (hk : k < L.length) (ln : Nat) : sameRow rows[k]! (padR d ln sz) = true ↔ L[k]! = tabS d ln sz := by
  obtain ⟨l2, e, e2⟩ := hr.2 k hk
  rw [e, e2]
  exact pad_same h hs
theorem RepR.snoc {d : Array CaseD} {sz : Nat} {L : List ByteArray} {rows : List (Nat → Int)} (hr : RepR d sz L rows) (ln : Nat) : RepR d sz (L ++ [tabS d ln sz]) (rows ++ [padR d ln sz]) := by
  refine ⟨by simp [hr.1], fun k hk => ?_⟩
  by_cases e : k = L.length
  · subst e
    refine ⟨ln, ?_, ?_⟩
    · rw [← hr.1]; exact get_last
    · simp
  · have hk' : k < L.length := by simp at hk; omega
    obtain ⟨l2, e1, e2⟩ := hr.2 k hk'
    refine ⟨l2, by rw [get_before (by rw [hr.1]; exact hk')]; exact e1, ?_⟩
    rw [← e2]
    simp [List.getElem!_eq_getElem?_getD, List.getElem?_append_left hk']
theorem placeOf_addP (l : List ByteArray) (p : ByteArray) : placeOf (addP l p) p = placeOf l p := by
  have hle := placeOf_le p l
  by_cases h : placeOf l p < l.length
  · rw [addP_old h]
  · have e : placeOf l p = l.length := by omega
    rw [addP_new e, e]
    refine placeOf_is (by simp) (fun j hj => ?_) (fun _ => by simp)
    have := placeOf_not p l j (by omega)
    rwa [List.getElem!_eq_getElem?_getD, List.getElem?_append_left hj, ← List.getElem!_eq_getElem?_getD]
theorem addP_has (l : List ByteArray) (p : ByteArray) : placeOf (addP l p) p < (addP l p).length := by
  rw [placeOf_addP]
  have hle := placeOf_le p l
  by_cases h : placeOf l p < l.length
  · rw [addP_old h]; exact h
  · rw [addP_new (by omega)]; simp; omega
/-- The row that the book has last. -/
def lastF (d : Array CaseD) (sz : Nat) : Nat → (Nat → Int)
  | 0 => fun _ => 0
  | j + 1 => padR d (sz * j) sz
/-- All that the book holds behind j pages. -/
structure PgInv (W : World) (base B M A : Nat) (d : Array CaseD) (sz j : Nat) (pv u : Value) (rows : List (Nat → Int)) : Prop where
  book : BookAt W B pv u M (lastF d sz j)
  pages : OwnsT base pv (pagesTo d sz j) W
  index : W.ownsRow base 3 1 u (indexTo d sz j).length ((indexTo d sz j).map encN)
  map : MapAt W M rows
  rep : RepR d sz (pagesTo d sz j) rows
  row : RowU W A (goB d)
  pB : pv.ownBlock ≠ some B
  pM : pv.ownBlock ≠ some M
  pA : pv.ownBlock ≠ some A
  uB : u.ownBlock ≠ some B
  uM : u.ownBlock ≠ some M
  uA : u.ownBlock ≠ some A
  up : u.ownBlock = none ∨ u.ownBlock ≠ pv.ownBlock
theorem MapAt.lt {W : World} {M : Nat} {rows : List (Nat → Int)} (h : MapAt W M rows) : M < W.heap.size := by
  obtain ⟨D, ⟨es, clock, h1, _⟩, _⟩ := h
  exact (Array.getElem?_eq_some_iff.1 h1).1
theorem owns_lt {w : World} {base size n : Nat} {e : TypeId} {v : Value} {xs : List Value} (h : w.ownsRow base e size v n xs) {g : Nat} (hg : v.ownBlock = some g) : base ≤ g ∧ g < w.heap.size := h.lt g hg
theorem PgInv.below {W W' : World} {base B M A : Nat} {d : Array CaseD} {sz j : Nat} {pv u : Value} {rows : List (Nat → Int)} (h : PgInv W base B M A d sz j pv u rows) (hb : RowKit.Below W.heap.size W W') : PgInv W' base B M A d sz j pv u rows :=
  ⟨h.book.below hb, owns_below h.pages hb, owns_below h.index hb, h.map.below hb, h.rep, h.row.below hb, h.pB, h.pM, h.pA, h.uB, h.uM, h.uA, h.up⟩

end Go.Proofs.YtmhloojnekjfhaaDoor
