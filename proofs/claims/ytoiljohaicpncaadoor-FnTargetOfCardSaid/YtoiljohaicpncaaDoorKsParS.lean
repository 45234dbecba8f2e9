
/- ParseSwitch of the model, of any text; of a valid switch's text that switch. -/
import Derived.Test.YtoiljohaicpncaaDoorKsRead
import Derived.Test.YtoiljohaicpncaaDoorKsFormat
import Derived.Test.YtoiljohaicpncaaDoorKsBoxS
import Derived.Deep.DeepCutAuto
namespace Go.Proofs.YtoiljohaicpncaaDoor
open Go.RowKit Go.Shelf Go.Lib Go.Sort

/-- What a text reads as. -/
def ParsesTo (s : ByteArray) (d : Array CaseD) (rest : Int) : Prop := SwOK d rest ∧ fmtN d rest = s
/-- Two results: the switch of a text, if there is one. -/
def Parse2 (s : ByteArray) (base : Nat) (w : World) (x : Ending) (w' : World) : Prop :=
  (∃ (d : Array CaseD) (rest : Int) (v : Value), ParsesTo s d rest ∧ x = .returned (.tuple #[.agg #[v, .int .i64 rest], .bool true]) ∧ OwnsC base v d.toList w' ∧ v ≠ .slice none 0 0 ∧ RowKit.Below base w w') ∨
  ((∀ d rest, ¬ ParsesTo s d rest) ∧ x = .returned (.tuple #[.agg #[.slice none 0 0, .int .i64 0], .bool false]) ∧ RowKit.Below base w w')
theorem fmtN_on {d : Array CaseD} {rest : Int} (h : SwOK d rest) : fmtN d rest = (fmtTo d d.size ++ semiS) ++ itoaS rest := by rw [fmtN, if_pos ((swB_iff _ _).2 h)]
theorem fmtN_pos {d : Array CaseD} {rest : Int} (h : SwOK d rest) : 0 < (fmtN d rest).size := by
  rw [fmtN_on h, size_app, size_app]
  have : semiS.size = 1 := rfl
  omega
theorem fmtTo_pos {d : Array CaseD} {rest : Int} (h : SwOK d rest) : ∀ n, 0 < n → n ≤ d.size → 0 < (fmtTo d n).size
  | 1, _, hn => by have := (parts_text (h.case 0 (by omega))).2.2.2; show 0 < (textS d[0]!).size; omega
  | n + 2, _, hn => by
    show 0 < ((fmtTo d (n + 1) ++ commaS) ++ textS d[n + 1]!).size
    rw [size_app, size_app]
    have : commaS.size = 1 := rfl
    omega
theorem texts_get (d : Array CaseD) (n j : Nat) (h : j < n) : (texts d n)[j]'(by simp [texts]; exact h) = textS d[j]! := by simp [texts]
theorem texts_len (d : Array CaseD) (n : Nat) : (texts d n).length = n := by simp [texts]

/-- The pieces of a text between commas, read up to k: as many cases; those of a switch whose text it is. -/
def ReadsTo (L : List ByteArray) (D : Array CaseD) (k : Nat) : Prop := D.size = k ∧ ∀ j (hj : j < L.length), j < k → ∀ cc, caseB cc = true → L[j] = textS cc → D[j]! = cc

theorem BoxS.set1 {W : World} {B : Nat} {v : Value} {rest : Int} (h : BoxS W B v rest) (z : Int) : BoxS (W.setCell ⟨B, 1, none⟩ (.int .i64 z)) B v z := by
  obtain ⟨hlt, hk⟩ := Array.getElem?_eq_some_iff.1 h
  show (W.heap.modify B _)[B]? = _
  rw [Array.getElem?_eq_getElem (by rw [Array.size_modify]; exact hlt), Array.getElem_modify_self, hk]
  simp

set_option maxRecDepth 100000 in
set_option maxHeartbeats 4000000 in
theorem specParse_any (s : ByteArray) (hs : s.size ≤ 1100000) (w : World) : Calls Tryd.prog 168 #[.string s] w (Parse2 s w.heap.size w) := by
  obtain ⟨i0, hi, hi0, hi1, hi2⟩ := info_parts infoC
  obtain ⟨wa, hwa⟩ : ∃ wa, wa = w.alloc (.cells #[.slice none 0 0, .int .i64 0] 25) := ⟨_, rfl⟩
  have hRX : BoxS wa w.heap.size (.slice none 0 0) 0 := by rw [hwa]; exact BoxS.new _ _ _
  have hba : RowKit.Below w.heap.size w wa := by rw [hwa]; exact (Below.refl _ _).alloc (Nat.le_refl _) _
  have hz : w.heap.size < wa.heap.size := by rw [hwa]; simp
  have HWA := Lib.hid hwa
  have HBA := Lib.hid hba
  have HCUT := Lib.hid (cut_any s 59 (by decide) (by omega) wa)
  have hml := (cutSt_le s 59 (s.size + 1)).2
  have hmb : (cutL s 59).length ≤ 1100001 := by
    have : (cutL s 59).length ≤ s.size + 1 := hml
    omega
  have hmlS : (cutL s 59).length ≤ s.size + 1 := hml
  have hsz := cutL_sizes s 59
  obtain ⟨m, hm⟩ := cutL_pos s 59
  -- a switch's text has two pieces
  have HX := Lib.hid (fun d rest (h : ParsesTo s d rest) => (by
    have e := h.2
    rw [fmtN_on h.1] at e
    rw [← e]
    exact cut_fmt h.1 : cutL s 59 = [fmtTo d d.size, itoaS rest]))
  obtain ⟨PL, hPL⟩ : ∃ PL, PL = cutL s 59 := ⟨_, rfl⟩
  rw [← hPL] at HCUT hsz hm HX hmb hmlS
  clear hwa hba hml hPL
  go_enter Tryd.func168, Tryd.ntmps168
  go_wp2_with fail
  rw [← HWA.out]
  refine HCUT.out.mono ?_
  rintro x w1 ⟨v, rfl, ho, hb1⟩
  obtain ⟨g, cp, rfl, hg, hgl, hcell⟩ := strs_row ho hm
  have RX1 := Lib.hid (hRX.kept (grown_of_below hb1) (by simp))
  have HB1 := Lib.hid (HBA.out.trans (hb1.mono HBA.out.size))
  have hz1 : w.heap.size < w1.heap.size := Nat.lt_of_lt_of_le hz hb1.size
  clear ho hb1 hRX
  by_cases hm1 : m = 1
  · subst hm1
    have x0 := hcell 0 (by omega)
    have x1 := hcell 1 (by omega)
    have hs0 := hsz _ (List.getElem_mem (show 0 < PL.length by omega))
    have hs1 := hsz _ (List.getElem_mem (show 1 < PL.length by omega))
    obtain ⟨p0, hp0⟩ : ∃ p, p = PL[0]'(by omega) := ⟨_, rfl⟩
    obtain ⟨p1, hp1⟩ : ∃ p, p = PL[1]'(by omega) := ⟨_, rfl⟩
    rw [← hp0] at x0 hs0
    rw [← hp1] at x1 hs1
    have HX2 := Lib.hid (fun d rest (h : ParsesTo s d rest) => by
      have e := HX.out d rest h
      exact (⟨by rw [hp0]; simp only [e]; rfl, by rw [hp1]; simp only [e]; rfl⟩ : p0 = fmtTo d d.size ∧ p1 = itoaS rest))
    have hspos : 0 < s.size := by
      have : PL.length ≤ s.size + 1 := hmlS
      omega
    clear hcell hsz hm HX hp0 hp1 hmb hmlS
    obtain ⟨w2, hw2⟩ : ∃ w2, w2 = (w1.alloc (.cells #[] 35)).alloc (.cells #[.slice (some ⟨w1.heap.size, 0, none⟩) 0 0, .int .i64 0] 25) := ⟨_, rfl⟩
    have hSX : BoxS w2 (w1.heap.size + 1) (.slice (some ⟨w1.heap.size, 0, none⟩) 0 0) 0 := by
      have := BoxS.new (w1.alloc (.cells #[] 35)) (.slice (some ⟨w1.heap.size, 0, none⟩) 0 0) 0
      rw [World.size_alloc] at this
      rw [hw2]
      exact this
    have hOW : OwnsC w1.heap.size (.slice (some ⟨w1.heap.size, 0, none⟩) 0 0) [] w2 := by
      have := World.ownsRow_made (base := w1.heap.size) (e := 35) (size := 4) w1 #[] 0 (Nat.le_refl _) (by unfold maxLen; omega) rfl
      rw [hw2]
      exact World.ownsRow.alloc (xs := []) this _
    have hb2 : RowKit.Below w1.heap.size w1 w2 := by rw [hw2]; exact ((Below.refl _ _).alloc (Nat.le_refl _) _).alloc (by simp) _
    have hz2 : w1.heap.size + 2 ≤ w2.heap.size := by rw [hw2]; simp
    have y0 := (hb2.cell (p := ⟨g, 0, none⟩) hgl).trans x0
    have y1 := (hb2.cell (p := ⟨g, 1, none⟩) hgl).trans x1
    have HW2 := Lib.hid hw2
    have HSX := Lib.hid hSX
    have HOW := Lib.hid hOW
    have HB2 := Lib.hid hb2
    clear hw2 hSX hOW hb2
    go_upto_if 23 with fail
    rw [← HW2.out]
    go_cut [] (fun wx => ∃ (D : Array CaseD) (v : Value), Hid (BoxS wx (w1.heap.size + 1) v 0) ∧ Hid (OwnsC w1.heap.size v D.toList wx) ∧ Hid (∀ d rest, ParsesTo s d rest → D = d) ∧ D.size ≤ 1100001 ∧ Hid (v ≠ .slice none 0 0) ∧ Hid (RowKit.Below w1.heap.size w1 wx))
    case first =>
      by_cases hp : p0.size = 0
      · have he : p0.toList.isEmpty = true := by
          rw [ByteArray.toList_eq, List.isEmpty_iff]
          exact List.eq_nil_of_length_eq_zero ((toL_len p0).trans hp)
        have HDD := Lib.hid (show ∀ d rest, ParsesTo s d rest → (#[] : Array CaseD) = d from fun d rest h => by
          have e := (HX2.out d rest h).1
          rcases Nat.eq_zero_or_pos d.size with h0 | h0
          · exact (Array.eq_empty_of_size_eq_zero h0).symm
          · have := fmtTo_pos h.1 d.size h0 (Nat.le_refl _)
            rw [← e] at this
            omega)
        simp only [he, Bool.not_true]
        go_wp2_with fail
        go_meet
        exact ⟨#[], _, HSX.out, HOW.out, HDD.out, by simp, Lib.hid (by simp), HB2.out⟩
      · have he : p0.toList.isEmpty = false := by
          rw [ByteArray.toList_eq]
          cases hh : p0.data.toList with
          | nil => have := toL_len p0; rw [toL, hh] at this; simp at this; omega
          | cons a l => rfl
        have hs0' : p0.size ≤ 2000000 := by omega
        have HCUT2 := Lib.hid (cut_any p0 44 (by decide) hs0' w2)
        have hsz2 := cutL_sizes p0 44
        obtain ⟨n, hn⟩ := cutL_pos p0 44
        have hnb : (cutL p0 44).length ≤ p0.size + 1 := (cutSt_le p0 44 (p0.size + 1)).2
        have HX3 := Lib.hid (show ∀ d rest, ParsesTo s d rest → cutL p0 44 = texts d d.size ∧ SwOK d rest from fun d rest h => by
          have e := (HX2.out d rest h).1
          rcases Nat.eq_zero_or_pos d.size with h0 | h0
          · exfalso
            rw [h0] at e
            exact hp (by rw [e]; rfl)
          · obtain ⟨q, hq⟩ : ∃ q, d.size = q + 1 := ⟨d.size - 1, by omega⟩
            refine ⟨?_, h.1⟩
            rw [e, hq]
            exact cut_list h.1 q (by omega))
        obtain ⟨PL2, hPL2⟩ : ∃ PL2, PL2 = cutL p0 44 := ⟨_, rfl⟩
        rw [← hPL2] at HCUT2 hsz2 hn hnb HX3
        have HSZ := Lib.hid hsz2
        have HNL := Lib.hid hn
        have hni : (n : Int) ≤ 2000000 := by omega
        clear hsz2 hPL2 hp
        simp only [he, Bool.not_false]
        go_wp2_with fail
        refine HCUT2.out.mono ?_
        rintro x w3 ⟨v3, rfl, ho3, hb3⟩
        obtain ⟨g3, cp3, rfl, hg3, hgl3, hcell3⟩ := strs_row ho3 HNL.out
        obtain ⟨cur3, hcur3⟩ := strs_type ho3
        have HC3 := Lib.hid hcell3
        have HCU := Lib.hid hcur3
        have HSX3 := Lib.hid (HSX.out.kept (grown_of_below hb3) (by simp))
        have HOW3 := Lib.hid (owns_below HOW.out hb3)
        have HB3 := Lib.hid (HB2.out.trans (hb3.mono (by omega)))
        have hz3 := hb3.size
        clear ho3 hb3 hcell3 hcur3
        go_wp2_with fail
        go_loopw [29] (fun i wr => ∃ (k : Nat) (D : Array CaseD) (v : Value), i = .int .i64 k ∧ k ≤ n + 1 ∧ Hid (BoxS wr (w1.heap.size + 1) v 0) ∧ Hid (OwnsC w1.heap.size v D.toList wr) ∧ Hid (ReadsTo PL2 D k) ∧ Hid (wr.heap[g3]? = w3.heap[g3]?) ∧ Hid (RowKit.Below w1.heap.size w1 wr) ∧ w3.heap.size ≤ wr.heap.size ∧ Hid (v ≠ .slice none 0 0)) (fun i _ => n + 2 - (intOf i).toNat)
        case atStart => exact ⟨0, #[], _, rfl, Nat.zero_le _, HSX3.out, HOW3.out, Lib.hid ⟨rfl, fun j hj hk => absurd hk (Nat.not_lt_zero j)⟩, rfl, HB3.out, Nat.le_refl _, Lib.hid (by simp)⟩
        case round =>
          obtain ⟨k, D, v, rfl, hk, HSk, HOk, HRk, HGk, HWk, hwz, HNk⟩ := hrel
          by_cases hlt : k < n + 1
          · have hkP : k < PL2.length := by have := HNL.out; omega
            have xk : wr.cell? ⟨g3, k, none⟩ = some (.string PL2[k]) := (World.cell?_of_block (a := ⟨g3, k, none⟩) HGk.out).trans (HC3.out k hkP)
            have hsk := HSZ.out _ (List.getElem_mem hkP)
            have HRD := Lib.hid (l1Read_any PL2[k] (by omega) wr)
            have HPR := Lib.hid (show ∀ c ok, ReadOf PL2[k] c ok → (∀ cc, caseB cc = true → PL2[k] = textS cc → c = cc ∧ ok = true) from fun c ok h => h.2)
            obtain ⟨pk, hpk⟩ : ∃ p, p = PL2[k] := ⟨_, rfl⟩
            have HPK := Lib.hid hpk
            rw [← hpk] at xk HRD HPR
            obtain ⟨av, cv, rfl⟩ := row_slice HOk.out
            have hDk := HRk.out.1
            have hDl : D.toList.length = k := by rw [Array.length_toList]; exact hDk
            rw [hDl] at HSk HOk
            have hki : (k : Int) < (n : Int) + 1 := by omega
            have hki0 : (0 : Int) ≤ (k : Int) := by omega
            have hgw : g3 < wr.heap.size := by omega
            clear hsk hpk
            go_wp2_with fail
            refine HRD.out.mono ?_
            rintro e w4 ⟨c, ok, rfl, hro, hb4⟩
            have HRO := Lib.hid (HPR.out c ok hro)
            have S4 := Lib.hid (HSk.out.kept (grown_of_below hb4) (by simp))
            have O4 := Lib.hid (owns_below HOk.out hb4)
            have G4 := Lib.hid ((hb4.block g3 hgw).trans HGk.out)
            have W4 := Lib.hid (HWk.out.trans (hb4.mono (by omega)))
            have RX4 := Lib.hid (show BoxS w4 w.heap.size (.slice none 0 0) 0 from (W4.out.block _ hz1).trans RX1.out)
            have hz4 := hb4.size
            have b4 := S4.out.c0
            have z4 := S4.out.z 0
            have r0 := RX4.out.c0
            have r1 := RX4.out.c1
            have f0 := RX4.out.z 0
            have f1 := RX4.out.z 1
            have hRl : w.heap.size < w4.heap.size := by omega
            have hSl : w1.heap.size + 1 < w4.heap.size := by omega
            clear hb4 hro
            obtain ⟨lo, hi', tc, wt⟩ := c
            cases ok with
            | false =>
              have HNO := Lib.hid (show ∀ d rest, ¬ ParsesTo s d rest from fun d rest h => by
                obtain ⟨e1, e2⟩ := HX3.out d rest h
                have hkd : k < d.size := by have := congrArg List.length e1; rw [texts_len] at this; omega
                have e3 : pk = textS d[k]! := by rw [HPK.out]; simp only [e1]; exact texts_get d d.size k hkd
                have := (HRO.out d[k]! (e2.case k hkd) e3).2
                cases this)
              unfold aggC
              go_wp2_with fail
              obtain ⟨q0, q1⟩ := two_cells RX4.out.c0 RX4.out.c1 (.slice none 0 0) (.int .i64 0)
              have hwl : w.heap.size < ((w4.setCell ⟨w.heap.size, 0, none⟩ (.slice none 0 0)).setCell ⟨w.heap.size, 1, none⟩ (.int .i64 0)).heap.size := by simp [World.setCell]; omega
              have q2 := fun o : Obj => (World.cell?_alloc_lt ((w4.setCell ⟨w.heap.size, 0, none⟩ (.slice none 0 0)).setCell ⟨w.heap.size, 1, none⟩ (.int .i64 0)) o ⟨w.heap.size, 0, none⟩ hwl).trans q0
              have q3 := fun o : Obj => (World.cell?_alloc_lt ((w4.setCell ⟨w.heap.size, 0, none⟩ (.slice none 0 0)).setCell ⟨w.heap.size, 1, none⟩ (.int .i64 0)) o ⟨w.heap.size, 1, none⟩ hwl).trans q1
              refine bodyPost_ret (v := .tuple #[.agg #[.slice none 0 0, .int .i64 0], .bool false]) (by simp [results, Tryd.results168, go_sem, q2, q3]) rfl (.inr ⟨HNO.out, rfl, (((HB1.out.trans (W4.out.mono HB1.out.size)).setCell (p := ⟨w.heap.size, 0, none⟩) (Nat.le_refl _) _).setCell (p := ⟨w.heap.size, 1, none⟩) (Nat.le_refl _) _).alloc (by simp [World.setCell]; omega) _⟩)
            | true =>
              unfold aggC
              go_wp2_with (first
                | (at_builtin; refine wpList_append_at _ rfl (.tmp 42) (.tmp 44) 23 rfl w1.heap.size 35 i0 zeroC 4 40 Tryd.underlying23 hi hi0 hi1 hi2 rfl (by decide) _ _ _ rfl (World.ownsRow.alloc (World.ownsRow.alloc O4.out _) _) ⟨w4.heap.size + 1, 0, none⟩ 1 1 (encC ⟨lo, hi', tc, wt⟩) rfl rfl ?c1 (encC_one _) (by unfold maxLen; omega) (by omega) (by simp; omega) (by decide) ?_)
                | fail)
              case c1 => exact cells_at (by simp)
              intro v1 w6 hown1 hgrow1 hat1
              rw [flatL_snoc] at hown1
              have hne3 : some g3 ≠ (Value.slice av k cv).ownBlock := fun e => strs_apart (G4.out.trans HCU.out) O4.out e.symm
              have HB6 := Lib.hid (below_append (W4.out.alloc (by omega) (.cells #[.int .i64 lo, .int .i64 hi', .string tc, .int .i64 wt] 35)) (by simp; omega) hgrow1 (World.ownsRow.alloc O4.out _) (Nat.le_refl _))
              have BX6 := Lib.hid (((S4.out.kept (row := none) (World.grownBy_alloc w4 (.cells #[.int .i64 lo, .int .i64 hi', .string tc, .int .i64 wt] 35) none) (by simp)).kept (row := none) (World.grownBy_alloc _ (.cells #[.int .i64 lo, .int .i64 hi', .string tc, .int .i64 wt] 35) none) (by simp)).kept hgrow1 (Ne.symm (S4.out.not_row O4.out)))
              have hg34 : g3 < w4.heap.size := by omega
              have G6 := Lib.hid (((hgrow1.block g3 (by simp; omega) hne3).trans (((Below.refl (w4.alloc (.cells #[.int .i64 lo, .int .i64 hi', .string tc, .int .i64 wt] 35)).heap.size _).alloc (Nat.le_refl _) _).block g3 (by simp; omega))).trans ((((Below.refl w4.heap.size w4).alloc (Nat.le_refl _) _).block g3 hg34).trans G4.out))
              have hz6 : w4.heap.size + 2 ≤ w6.heap.size := by have := hgrow1.size; simpa using this
              have c6 := BX6.out.c0
              have f6 := BX6.out.z 0
              have HO6 := Lib.hid hown1
              obtain ⟨g1, cap1, rfl⟩ := ownsRow_succ hown1
              have HRD2 := Lib.hid (show ReadsTo PL2 (D.push ⟨lo, hi', tc, wt⟩) (k + 1) from ⟨by simp [hDk], fun j hj hjk cc hcc e => by
                by_cases ejk : j = k
                · subst ejk
                  have h1 : (D.push (⟨lo, hi', tc, wt⟩ : CaseD))[j]! = ⟨lo, hi', tc, wt⟩ := by rw [← hDk]; simp
                  rw [h1]
                  exact (HRO.out cc hcc (HPK.out.trans e)).1
                · have hjk' : j < D.size := by omega
                  have h1 : (D.push (⟨lo, hi', tc, wt⟩ : CaseD))[j]! = D[j]! := by simp [Array.getElem_push, hjk', Nat.lt_succ_of_lt hjk']
                  rw [h1]
                  exact HRk.out.2 j hj (by omega) cc hcc e⟩)
              clear hown1 hgrow1 hat1 b4 z4 r0 r1 f0 f1
              go_wp2_with fail
              go_roundw
              case rel =>
                refine ⟨k + 1, D.push ⟨lo, hi', tc, wt⟩, _, by go_num, by omega, BX6.out.set _, ?_, HRD2.out, Lib.hid (((grown_set w6 (w1.heap.size + 1) 0 _).block g3 (by omega) (by simp; omega)).trans G6.out), HB6.out.setCell (p := ⟨w1.heap.size + 1, 0, none⟩) (Nat.le_succ _) _, by simp [World.setCell]; omega, Lib.hid (by simp)⟩
                show OwnsC _ _ _ _
                have h5 := fun u => World.ownsRow.kept HO6.out (grown_set w6 (w1.heap.size + 1) 0 u) (.inr (BX6.out.not_row HO6.out))
                unfold OwnsC
                rw [Array.toList_push, List.length_append, hDl]
                simpa using h5 _
              case measure => simp [intOf]; omega
          · have hkn : k = n + 1 := by omega
            have HDD := Lib.hid (show ∀ d rest, ParsesTo s d rest → D = d from fun d rest h => by
              obtain ⟨e1, e2⟩ := HX3.out d rest h
              have hl : d.size = n + 1 := by have := congrArg List.length e1; rw [texts_len, HNL.out] at this; exact this.symm
              have hDs := HRk.out.1
              apply Array.ext
              · omega
              · intro j h1 h2
                have h3 := HRk.out.2 j (by have := HNL.out; omega) (by omega) d[j]! (e2.case j h2) (by simp only [e1]; exact texts_get d d.size j h2)
                rw [getElem!_pos D j h1, getElem!_pos d j h2] at h3
                exact h3)
            have hkni : ¬ (k : Int) < (n : Int) + 1 := by omega
            have hDs : D.size ≤ 1100001 := by have := HRk.out.1; have := HNL.out; omega
            go_wp2_with fail
            go_meet
            exact ⟨D, v, HSk.out, HOk.out, HDD.out, hDs, HNk.out, HWk.out⟩
    case rest =>
      obtain ⟨D, v, HSX, HOW, HD, hDs, HNN, HWX⟩ := hcut
      obtain ⟨gd, cd, rfl, hgd, hcd, hmd⟩ := owns_form HOW.out HNN.out
      have hDl : D.toList.length = D.size := Array.length_toList
      rw [hDl] at HSX HOW hcd
      have y1 := (HWX.out.cell (p := ⟨g, 1, none⟩) hgl).trans x1
      have hzw : w1.heap.size ≤ wc.heap.size := HWX.out.size
      have hSl := HSX.out.lt
      have RXc := Lib.hid (show BoxS wc w.heap.size (.slice none 0 0) 0 from (HWX.out.block _ hz1).trans RX1.out)
      have HN := Lib.hid (num_both p1 (by omega) wc)
      have hgw : g < wc.heap.size := by omega
      clear x0 x1 y0
      go_wp2_with fail
      refine HN.out.mono ?_
      rintro e w5 ⟨z, b, rfl, hnum, rfl⟩
      have HNUM := Lib.hid hnum
      have b0 := HSX.out.c0
      have b1 := HSX.out.c1
      have z1 := HSX.out.z 1
      have r0 := RXc.out.c0
      have r1 := RXc.out.c1
      have f0 := RXc.out.z 0
      have f1 := RXc.out.z 1
      have hRl : w.heap.size < w5.heap.size := RXc.out.lt
      clear hnum
      cases b with
      | false =>
        have HNO := Lib.hid (show ∀ d rest, ¬ ParsesTo s d rest from fun d rest h => by
          have hr := h.1.rest
          simp only [wgtB, decide_eq_true_eq] at hr
          have := (HNUM.out rest hr.1 hr.2 (HX2.out d rest h).2).2
          cases this)
        have RX6 := Lib.hid (RXc.out.kept (grown_set w5 (w1.heap.size + 1) 1 (.int .i64 z)) (by simp; omega))
        go_wp2_with fail
        obtain ⟨q0, q1⟩ := two_cells RX6.out.c0 RX6.out.c1 (.slice none 0 0) (.int .i64 0)
        refine bodyPost_ret (v := .tuple #[.agg #[.slice none 0 0, .int .i64 0], .bool false]) (by simp [results, Tryd.results168, go_sem, q0, q1]) rfl (.inr ⟨HNO.out, rfl, (((HB1.out.trans (HWX.out.mono HB1.out.size)).setCell (p := ⟨w1.heap.size + 1, 1, none⟩) (by simp; omega) _).setCell (p := ⟨w.heap.size, 0, none⟩) (Nat.le_refl _) _).setCell (p := ⟨w.heap.size, 1, none⟩) (Nat.le_refl _) _⟩)
      | true =>
        have RX6 := Lib.hid (RXc.out.kept (grown_set w5 (w1.heap.size + 1) 1 (.int .i64 z)) (by simp; omega))
        have SX6 := Lib.hid (HSX.out.set1 z)
        have O6 := Lib.hid (show OwnsC w1.heap.size (.slice (some ⟨gd, 0, none⟩) D.size cd) D.toList (w5.setCell ⟨w1.heap.size + 1, 1, none⟩ (.int .i64 z)) from World.ownsRow.kept HOW.out (grown_set w5 (w1.heap.size + 1) 1 (.int .i64 z)) (.inr (HSX.out.not_row HOW.out)))
        have R6 : RowC (w5.setCell ⟨w1.heap.size + 1, 1, none⟩ (.int .i64 z)) gd 0 D := by
          have := owns_row (n := D.size) (l := D.toList) O6.out
          rwa [Array.toArray_toList] at this
        have HF := Lib.hid (specFormat_any gd 0 cd D z _ R6 hcd hmd)
        have W6 := Lib.hid ((HB1.out.trans (HWX.out.mono HB1.out.size)).setCell (p := ⟨w1.heap.size + 1, 1, none⟩) (by simp; omega) (.int .i64 z))
        have hz6 : w.heap.size ≤ (w5.setCell ⟨w1.heap.size + 1, 1, none⟩ (.int .i64 z)).heap.size := by have := W6.out.size; exact this
        have hz6' : w1.heap.size ≤ (w5.setCell ⟨w1.heap.size + 1, 1, none⟩ (.int .i64 z)).heap.size := by simp [World.setCell]; omega
        clear R6
        go_wp2_with fail
        refine HF.out.mono ?_
        rintro x w7 ⟨rfl, hb7⟩
        have RX7 := Lib.hid (RX6.out.kept (grown_of_below hb7) (by simp))
        have SX7 := Lib.hid (SX6.out.kept (grown_of_below hb7) (by simp))
        have O7 := Lib.hid (owns_below O6.out hb7)
        have W7 := Lib.hid (W6.out.trans (hb7.mono hz6))
        have s0 := SX7.out.c0
        have s1 := SX7.out.c1
        have t0 := RX7.out.c0
        have t1 := RX7.out.c1
        have g0 := RX7.out.z 0
        have g1 := RX7.out.z 1
        clear b0 b1 z1 r0 r1 f0 f1 hb7
        by_cases he : fmtN D z = s
        · have hSW : SwOK D z := (swB_iff _ _).1 (Decidable.byContradiction fun hn => by
            have e2 := he
            rw [fmtN, if_neg hn] at e2
            rw [← e2] at hspos
            exact absurd hspos (by decide))
          have HOK := Lib.hid (show ParsesTo s D z from ⟨hSW, he⟩)
          go_wp2_with fail
          obtain ⟨q0, q1⟩ := two_cells RX7.out.c0 RX7.out.c1 (.slice (some ⟨gd, 0, none⟩) D.size cd) (.int .i64 z)
          have O8 := fun u => World.ownsRow.kept O7.out (grown_set w7 w.heap.size 0 u) (.inr (RX7.out.not_row O7.out))
          have O9 := fun u u' => World.ownsRow.kept (O8 u) (grown_set (w7.setCell ⟨w.heap.size, 0, none⟩ u) w.heap.size 1 u') (.inr (RX7.out.not_row O7.out))
          refine bodyPost_ret (v := .tuple #[.agg #[.slice (some ⟨gd, 0, none⟩) D.size cd, .int .i64 z], .bool true]) (by simp [results, Tryd.results168, go_sem, q0, q1]) rfl (.inl ⟨D, z, _, HOK.out, rfl, owns_base (O9 _ _) (Nat.le_of_lt hz1), by simp, (W7.out.setCell (p := ⟨w.heap.size, 0, none⟩) (Nat.le_refl _) _).setCell (p := ⟨w.heap.size, 1, none⟩) (Nat.le_refl _) _⟩)
        · have HNO := Lib.hid (show ∀ d rest, ¬ ParsesTo s d rest from fun d rest h => by
            have hr := h.1.rest
            simp only [wgtB, decide_eq_true_eq] at hr
            have e1 := (HNUM.out rest hr.1 hr.2 (HX2.out d rest h).2).1
            have e2 := HD.out d rest h
            exact he (by rw [e1, e2]; exact h.2))
          have hnl : ((fmtN D z).toList == s.toList) = false := by
            cases hq : (fmtN D z).toList == s.toList with
            | false => rfl
            | true =>
              have hq' := eq_of_beq hq
              rw [ByteArray.toList_eq, ByteArray.toList_eq] at hq'
              exact absurd (ByteArray.ext (Array.ext' hq')) he
          go_wp2_with fail
          obtain ⟨q0, q1⟩ := two_cells RX7.out.c0 RX7.out.c1 (.slice none 0 0) (.int .i64 0)
          refine bodyPost_ret (v := .tuple #[.agg #[.slice none 0 0, .int .i64 0], .bool false]) (by simp [results, Tryd.results168, go_sem, q0, q1]) rfl (.inr ⟨HNO.out, rfl, (W7.out.setCell (p := ⟨w.heap.size, 0, none⟩) (Nat.le_refl _) _).setCell (p := ⟨w.heap.size, 1, none⟩) (Nat.le_refl _) _⟩)
  · have HNO := Lib.hid (show ∀ d rest, ¬ ParsesTo s d rest from fun d rest h => by
      have e := HX.out d rest h
      rw [e] at hm
      simp at hm
      omega)
    have hmn : ¬ ((m : Int) + 1 = 2) := by omega
    have hmn2 : ((m : Int) + 1 == 2) = false := by simpa using hmn
    have r0 := RX1.out.c0
    have r1 := RX1.out.c1
    have f0 := RX1.out.z 0
    have f1 := RX1.out.z 1
    clear hcell hmlS
    go_wp2_with fail
    obtain ⟨q0, q1⟩ := two_cells r0 r1 (.slice none 0 0) (.int .i64 0)
    refine bodyPost_ret (v := .tuple #[.agg #[.slice none 0 0, .int .i64 0], .bool false]) (by simp [results, Tryd.results168, go_sem, q0, q1]) rfl (.inr ⟨HNO.out, rfl, (HB1.out.setCell (p := ⟨w.heap.size, 0, none⟩) (Nat.le_refl _) _).setCell (p := ⟨w.heap.size, 1, none⟩) (Nat.le_refl _) _⟩)
end Go.Proofs.YtoiljohaicpncaaDoor
