
/- The book: placeOf of whatever page comes next. -/
import Derived.Test.YtmhloojnekjfhaaDoorKsPagR
namespace Go.Proofs.YtmhloojnekjfhaaDoor
open Go.RowKit Go.Shelf Go.Lib Go.Sort

theorem owns_frm {S : Nat → Prop} {W W' : World} {base size n : Nat} {e : TypeId} {v : Value} {xs : List Value} (h : W.ownsRow base e size v n xs) (hf : Frm S W W') (hn : ∀ g, v.ownBlock = some g → ¬ S g) : W'.ownsRow base e size v n xs := by
  refine ⟨h.1, ?_⟩
  rcases h.2 with h0 | ⟨g, cap, cur, rfl, hb, hg, hr⟩
  · exact .inl h0
  · exact .inr ⟨g, cap, cur, rfl, hb, (hf.block g (Array.getElem?_eq_some_iff.1 hg).1 (hn g rfl)).trans hg, hr⟩
/-- What placeOf leaves behind for the next page. -/
structure PlOut (W W' : World) (base B M A : Nat) (d : Array CaseD) (sz j : Nat) (pv u pv' : Value) (rows' : List (Nat → Int)) : Prop where
  book : BookAt W' B pv' u M (lastF d sz j)
  pages : OwnsT base pv' (pagesTo d sz (j + 1)) W'
  index : W'.ownsRow base 3 1 u (indexTo d sz j).length ((indexTo d sz j).map encN)
  map : MapAt W' M rows'
  rep : RepR d sz (pagesTo d sz (j + 1)) rows'
  row : RowU W' A (goB d)
  pB : pv'.ownBlock ≠ some B
  pM : pv'.ownBlock ≠ some M
  pA : pv'.ownBlock ≠ some A
  up : u.ownBlock = none ∨ u.ownBlock ≠ pv'.ownBlock
  frm : Frm (fun g => g = M ∨ g = B ∨ pv.ownBlock = some g) W W'
theorem PlOut.of_below {W W' : World} {base B M A : Nat} {d : Array CaseD} {sz j : Nat} {pv u : Value} {rows : List (Nat → Int)} (h : PgInv W base B M A d sz j pv u rows) (hb : RowKit.Below W.heap.size W W') (he : pagesTo d sz (j + 1) = pagesTo d sz j) : PlOut W W' base B M A d sz j pv u pv rows := by
  have h2 := h.below hb
  exact ⟨h2.book, by rw [he]; exact h2.pages, h2.index, h2.map, by rw [he]; exact h2.rep, h2.row, h.pB, h.pM, h.pA, h.up, Frm.of_below hb⟩
theorem int_last {w : World} {base n : Nat} {u : Value} {l : List Int} {z : Int} (h : w.ownsRow base 3 1 u (l ++ [z]).length ((l ++ [z]).map encN)) (hn : l.length = n) : ∃ g cap, u = .slice (some ⟨g, 0, none⟩) (n + 1) cap ∧ w.cell? ⟨g, n, none⟩ = some (.int .i64 z) ∧ g < w.heap.size := by
  rcases h.2 with ⟨_, h1⟩ | ⟨g, cap, cur, h0, _, hh, _⟩
  · simp at h1
  · subst h0
    refine ⟨g, cap, by simp [hn], ?_, (Array.getElem?_eq_some_iff.1 hh).1⟩
    have := World.ownsRow.cellAt h n (by simp; omega)
    rw [this]
    simp [hn]

set_option maxHeartbeats 1000000 in
theorem place_any (base B M A : Nat) (d : Array CaseD) (rest : Int) (sz j cp : Nat) (pv u : Value) (rows : List (Nat → Int)) (w : World) (hI : PgInv w base B M A d sz j pv u rows) (hok : SwOK d rest) (hs1 : 0 < sz) (hs : sz * j + sz ≤ 32) (hMB : M ≠ B) (hAM : A ≠ M) (hAB : A ≠ B) (hb : base ≤ w.heap.size) :
    Calls Tryd.prog 69 #[.pointer (some ⟨B, 0, none⟩), .agg (rowA (padR d (sz * j) sz)), .slice (some ⟨A, sz * j, none⟩) sz cp] w fun x w' => x = .returned (.int .i64 (placeOf (pagesTo d sz j) (tabS d (sz * j) sz) : Int)) ∧ ∃ pv' rows', PlOut w w' base B M A d sz j pv u pv' rows' := by
  have hpg : pagesTo d sz (j + 1) = addP (pagesTo d sz j) (tabS d (sz * j) sz) := rfl
  have hj32 : j ≤ 32 := by
    have : 1 * j ≤ sz * j := Nat.mul_le_mul_right _ hs1
    omega
  cases h1 : sameRow (padR d (sz * j) sz) (lastF d sz j) with
  | true =>
    cases j with
    | zero =>
      have := pad_zero hok (ln := sz * 0) hs1
      rw [show lastF d sz 0 = fun _ => 0 from rfl, this] at h1
      cases h1
    | succ j =>
      have he : tabS d (sz * (j + 1)) sz = tabS d (sz * j) sz := (pad_same hok (by omega)).1 h1
      have hidx := hI.index
      rw [show indexTo d sz (j + 1) = indexTo d sz j ++ [(placeOf (pagesTo d sz j) (tabS d (sz * j) sz) : Int)] from rfl] at hidx
      obtain ⟨g, cap, rfl, hz, hg⟩ := int_last hidx (indexTo_length d sz j)
      have hpl : placeOf (pagesTo d sz (j + 1)) (tabS d (sz * (j + 1)) sz) = placeOf (pagesTo d sz j) (tabS d (sz * j) sz) := by
        rw [he, show pagesTo d sz (j + 1) = addP (pagesTo d sz j) (tabS d (sz * j) sz) from rfl, placeOf_addP]
      rw [hpl]
      refine (placeOf_old B M pv (lastF d sz (j + 1)) (padR d (sz * (j + 1)) sz) g j cap _ w hI.book h1 _ (by omega) hz hg).mono ?_
      rintro x w' ⟨rfl, hb'⟩
      refine ⟨rfl, pv, rows, PlOut.of_below hI hb' ?_⟩
      rw [hpg, addP_old]
      rw [he]
      exact addP_has _ _
  | false =>
    by_cases h2 : placeOf (pagesTo d sz j) (tabS d (sz * j) sz) < (pagesTo d sz j).length
    · have hk : placeOf (pagesTo d sz j) (tabS d (sz * j) sz) < rows.length := by rw [hI.rep.1]; exact h2
      refine (placeOf_known B M pv u (lastF d sz j) (padR d (sz * j) sz) rows _ _ w hI.book h1 hI.map (padR_byte hok _ _) hk ((hI.rep.same hok (by omega) h2 _).2 (placeOf_at _ _ h2))).mono ?_
      rintro x w' ⟨rfl, hb'⟩
      exact ⟨rfl, pv, rows, PlOut.of_below hI hb' (by rw [hpg, addP_old h2])⟩
    · have hle := placeOf_le (tabS d (sz * j) sz) (pagesTo d sz j)
      have he : placeOf (pagesTo d sz j) (tabS d (sz * j) sz) = (pagesTo d sz j).length := by omega
      obtain ⟨a, c, rfl⟩ := slice_of_owns hI.pages
      have hno : ∀ k, k < rows.length → sameRow rows[k]! (padR d (sz * j) sz) = false := fun k hk => by
        have hk' : k < (pagesTo d sz j).length := by rw [← hI.rep.1]; exact hk
        cases hq : sameRow rows[k]! (padR d (sz * j) sz) with
        | false => rfl
        | true => exact absurd ((hI.rep.same hok (by omega) hk' _).1 hq) (placeOf_not _ _ _ (by omega))
      have hl32 := pagesTo_length d sz j
      rw [he]
      refine (placeOf_new B M A base (sz * j) sz cp a u c d (pagesTo d sz j) (lastF d sz j) (padR d (sz * j) sz) rows w hI.book h1 hI.map (padR_byte hok _ _) (hI.rep.byte hok) hno hI.rep.1 (by omega) hMB hI.pages hb hI.pM hI.pB hI.row hAM hs).mono ?_
      rintro x w' ⟨rfl, v', hO, hM, hB, hV, hF⟩
      have hBl := hI.book.lt
      have hMl := hI.map.lt
      have hAl := hI.row.lt
      have hfresh : ∀ g, g < w.heap.size → (Value.slice a (pagesTo d sz j).length c).ownBlock ≠ some g → v'.ownBlock ≠ some g := fun g hg hne e => by
        rcases hV with h | ⟨z, hz, h⟩
        · exact hne (by rw [← h]; exact e)
        · rw [h] at e
          cases e
          omega
      refine ⟨rfl, v', rows ++ [padR d (sz * j) sz], ⟨hB, by rw [hpg, addP_new he]; exact hO, owns_frm hI.index hF ?_, hM, by rw [hpg, addP_new he]; exact hI.rep.snoc _, ?_, hfresh B hBl hI.pB, hfresh M hMl hI.pM, hfresh A hAl hI.pA, ?_, hF⟩⟩
      · intro g hg
        rintro (e | e | e)
        · subst e; exact hI.uM hg
        · subst e; exact hI.uB hg
        · rcases hI.up with h | h
          · rw [h] at hg; cases hg
          · exact h (hg.trans e.symm)
      · refine (hF.block A hAl ?_).trans hI.row
        rintro (e | e | e)
        · exact hAM e
        · exact hAB e
        · exact hI.pA e
      · rcases hI.up with h | h
        · exact .inl h
        · cases hu : u.ownBlock with
          | none => exact .inl rfl
          | some q =>
            right
            have hq := (owns_lt hI.index hu).2
            exact fun e => hfresh q hq (fun e2 => h (hu.trans e2.symm)) e.symm
end Go.Proofs.YtmhloojnekjfhaaDoor
