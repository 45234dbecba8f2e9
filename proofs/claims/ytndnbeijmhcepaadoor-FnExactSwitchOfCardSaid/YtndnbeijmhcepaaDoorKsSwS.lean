
/- SwitchOf of the model. -/
import Derived.Test.YtndnbeijmhcepaaDoorKsSwC
import Derived.Test.YtndnbeijmhcepaaDoorKsTrFn
import Derived.IntWalk
namespace Go.Proofs.YtndnbeijmhcepaaDoor
open Go.RowKit Go.Shelf Go.Lib Go.Sort

theorem swTo_z {t : TreeD} {k : Nat} (h : goS t k = 122) : swTo t (k + 1) = swTo t k := by rw [swTo, if_pos h]
theorem swTo_new {t : TreeD} {k : Nat} (h : goS t k ≠ 122) (h2 : goS t k ≠ befS t k) : swTo t (k + 1) = swTo t k ++ [keyC t k] := by rw [swTo, if_neg h, if_neg h2]
theorem swTo_on {t : TreeD} {k n : Nat} (h : goS t k ≠ 122) (h2 : goS t k = befS t k) (hn : (swTo t k).length = n + 1) : swTo t (k + 1) = (swTo t k).set n { (swTo t k)[n]! with high := (k : Int) } := by
  rw [swTo, if_neg h, if_pos h2, hn, Nat.add_sub_cancel]
theorem befS_succ (t : TreeD) (k : Nat) : befS t (k + 1) = goS t k := by simp [befS]

set_option maxRecDepth 100000 in
set_option maxHeartbeats 4000000 in
theorem specSwitchOf_any (s : ByteArray) (hs : s.size ≤ 2000000) (w : World) : Calls Tryd.prog 20 #[.string s] w (SwOf2 w.heap.size (treeS (ls s)) w) := by
  obtain ⟨i0, hi, hi0, hi1, hi2⟩ := info_parts infoC
  obtain ⟨wa, hwa⟩ : ∃ wa, wa = w.alloc (.cells #[.slice none 0 0, .int .i64 0] 35) := ⟨_, rfl⟩
  have hRX : BoxS wa w.heap.size (.slice none 0 0) 0 := by rw [hwa]; exact BoxS.new _ _ _
  have hba : RowKit.Below w.heap.size w wa := by rw [hwa]; exact (Below.refl _ _).alloc (Nat.le_refl _) _
  have HC := Lib.hid (specRead_any s hs wa)
  have HA := Lib.hid hba
  have HWA := Lib.hid hwa
  have RXA := Lib.hid hRX
  have hz := hRX.lt
  clear hwa hba hRX hs
  cases ho : treeS (ls s) with
  | none =>
    rw [ho] at HC
    go_enter Tryd.func20, Tryd.ntmps20
    go_wp2_with fail
    rw [← HWA.out]
    refine HC.out.mono ?_
    rintro x w1 ⟨hx, hb⟩
    obtain rfl : x = .returned (.tuple #[.agg #[.string ⟨#[]⟩, .int .i64 0, .slice none 0 0], .bool false]) := hx
    have RX1 := Lib.hid ((RXA.out.kept (grown_of_below hb) (by simp)).kept (row := none) (World.grownBy_alloc w1 (.cells #[.string ⟨#[]⟩, .int .i64 0, .slice none 0 0] 59) none) (by simp))
    have HWB := Lib.hid ((HA.out.trans (hb.mono (by omega))).alloc (by have := hb.size; omega) (.cells #[.string ⟨#[]⟩, .int .i64 0, .slice none 0 0] 59))
    obtain ⟨w2, hw2⟩ : ∃ w2, w2 = w1.alloc (.cells #[.string ⟨#[]⟩, .int .i64 0, .slice none 0 0] 59) := ⟨_, rfl⟩
    rw [← hw2] at RX1 HWB
    have r0 := RX1.out.c0
    have r1 := RX1.out.c1
    have f0 := RX1.out.z 0
    have f1 := RX1.out.z 1
    have HW2 := Lib.hid hw2
    clear hb
    rw [hw2] at r0 r1 f0 f1
    clear hw2
    go_wp2_with fail
    rw [← HW2.out]
    rw [← HW2.out] at r0 r1
    obtain ⟨q0, q1⟩ := two_cells r0 r1 (.slice none 0 0) (.int .i64 0)
    refine bodyPost_ret (v := .tuple #[.agg #[.slice none 0 0, .int .i64 0], .bool false]) (by simp [results, Tryd.results20, go_sem, q0, q1]) rfl ⟨_, rfl, ?_, (HWB.out.setCell (p := ⟨w.heap.size, 0, none⟩) (Nat.le_refl _) _).setCell (p := ⟨w.heap.size, 1, none⟩) (Nat.le_refl _) _⟩
    exact World.ownsRow_nil _ _ _ _
  | some t =>
    rw [ho] at HC
    have hct := treeS_count ho
    have HRUN := Lib.hid (fun key b W tg k sd h => run_any key t (by omega) b W tg k sd h)
    clear hct
    go_enter Tryd.func20, Tryd.ntmps20
    go_wp2_with fail
    rw [← HWA.out]
    refine HC.out.mono ?_
    rintro x w1 ⟨⟨tg, kk, sd, rfl, ht⟩, hb⟩
    obtain ⟨a, n, c, rfl⟩ := ht.slice
    have HWB := Lib.hid (HA.out.trans (hb.mono (by omega)))
    have RX1 := Lib.hid (RXA.out.kept (grown_of_below hb) (by simp))
    have hz1 : w.heap.size < w1.heap.size := by have := hb.size; omega
    have HT := Lib.hid ht
    clear hb ht
    obtain ⟨w2, hw2⟩ : ∃ w2, w2 = ((w1.alloc (.cells #[.string tg, .int .i64 kk, .slice a n c] 59)).alloc (.cells #[] 47)).alloc (.cells #[.slice (some ⟨w1.heap.size + 1, 0, none⟩) 0 0, .int .i64 0] 35) := ⟨_, rfl⟩
    have hz2 : w2.heap.size = w1.heap.size + 3 := by rw [hw2]; simp
    have hSX : BoxS w2 (w1.heap.size + 1 + 1) (.slice (some ⟨w1.heap.size + 1, 0, none⟩) 0 0) 0 := by
      have := BoxS.new ((w1.alloc (.cells #[.string tg, .int .i64 kk, .slice a n c] 59)).alloc (.cells #[] 47)) (.slice (some ⟨w1.heap.size + 1, 0, none⟩) 0 0) 0
      rw [hw2]
      simpa using this
    have hOW : OwnsC (w1.heap.size + 1) (.slice (some ⟨w1.heap.size + 1, 0, none⟩) 0 0) [] w2 := by
      have := World.ownsRow_made (base := w1.heap.size + 1) (e := 47) (size := 4) (w1.alloc (.cells #[.string tg, .int .i64 kk, .slice a n c] 59)) #[] 0 (by simp) (by unfold maxLen; omega) rfl
      rw [World.size_alloc] at this
      rw [hw2]
      exact World.ownsRow.alloc (xs := []) this _
    have hX : Box3 w2 w1.heap.size 59 (.string tg) (.int .i64 kk) (.slice a n c) := by
      rw [hw2]
      exact ((Box3.new w1 59 (.string tg) (.int .i64 kk) (.slice a n c)).alloc _).alloc _
    have hb2 : RowKit.Below w1.heap.size w1 w2 := by rw [hw2]; exact (((Below.refl _ _).alloc (Nat.le_refl _) _).alloc (by simp) _).alloc (by simp; omega) _
    have HW2 := Lib.hid hw2
    have HSX := Lib.hid hSX
    have HOW := Lib.hid hOW
    have HX := Lib.hid hX
    have HB2 := Lib.hid hb2
    have HZ2 := Lib.hid hz2
    clear hw2 hSX hOW hX hb2 hz2
    go_wp2_with fail
    rw [← HW2.out]
    go_loopw [7, 8] (fun bf i wr => ∃ (k : Nat) (v : Value), i = .int .i64 k ∧ bf = .string (strS (befS t k)) ∧ k ≤ 32 ∧ Hid (BoxS wr (w1.heap.size + 1 + 1) v 0) ∧ Hid (OwnsC (w1.heap.size + 1) v (swTo t k) wr) ∧ Hid (RowKit.Below (w1.heap.size + 1) w2 wr) ∧ w1.heap.size + 3 ≤ wr.heap.size) (fun _ i _ => 32 - (intOf i).toNat)
    case atStart => exact ⟨0, _, rfl, rfl, Nat.zero_le _, HSX.out, HOW.out, Below.refl _ _, by have := HZ2.out; omega⟩
    case round =>
      obtain ⟨k, v, rfl, rfl, hk, HSk, HOk, HW, hwz⟩ := hrel
      have hz2 := HZ2.out
      have HW1 := Lib.hid (HB2.out.trans (HW.out.mono (by omega : w1.heap.size ≤ w1.heap.size + 1)))
      obtain ⟨av, cv, rfl⟩ := row_slice HOk.out
      have hbl := befS_succ t k
      have HBS := Lib.hid hbl
      have hlen := swTo_len t k
      have hSl : w1.heap.size + 1 + 1 < wr.heap.size := by omega
      clear hbl hz2
      by_cases hlt : k < 32
      · have hlz := fun h => swTo_z (t := t) (k := k) h
        have hln := fun h1 h2 => swTo_new (t := t) (k := k) h1 h2
        have hlo := fun n h1 h2 h3 => swTo_on (t := t) (k := k) (n := n) h1 h2 h3
        have hla := swTo_last t k
        have hkc : keyC t k = ⟨(k : Int), (k : Int), strS (goS t k), 0⟩ := rfl
        have hgo : (trT t (k : Int)).1 = goS t k := rfl
        have HRk := Lib.hid (HRUN.out (k : Int) _ wr tg kk (.slice a n c) (HT.out.below HW1.out))
        rw [hgo] at HRk
        obtain ⟨L, hL⟩ : ∃ L, L = swTo t k := ⟨_, rfl⟩
        obtain ⟨L', hL'⟩ : ∃ L', L' = swTo t (k + 1) := ⟨_, rfl⟩
        rw [← hL] at hlz hln hlo hla HOk HSk hlen
        rw [← hL'] at hlz hln hlo
        have HL' := Lib.hid hL'
        obtain ⟨g, hg⟩ : ∃ g, g = goS t k := ⟨_, rfl⟩
        rw [← hg] at hlz hln hlo hkc HBS HRk
        obtain ⟨bf, hbf⟩ : ∃ bf, bf = befS t k := ⟨_, rfl⟩
        rw [← hbf] at hln hlo hla ⊢
        obtain ⟨st, hst⟩ : ∃ st, st = (trT t (k : Int)).2 := ⟨_, rfl⟩
        rw [← hst] at HRk
        have HLZ := Lib.hid hlz
        have HLN := Lib.hid hln
        have HLO := Lib.hid hlo
        have HLA := Lib.hid hla
        have HKC := Lib.hid hkc
        have hki : (k : Int) ≤ 31 := by omega
        have hLi : (L.length : Int) ≤ 32 := by omega
        have b0 := HSk.out.c0
        have z0 := HSk.out.z 0
        have hXk : Box3 wr w1.heap.size 59 (.string tg) (.int .i64 kk) (.slice a n c) := (HW.out.block w1.heap.size (by omega)).trans HX.out
        have n0 := hXk.c0
        have n1 := hXk.c1
        have n2 := hXk.c2
        have hXl := hXk.lt
        have SB1 := Lib.hid HSk.out
        clear hlz hln hlo hla hkc hL' hg hbf hst hgo hL
        go_wp2_with fail
        refine HRk.out.mono ?_
        rintro e w3 ⟨rfl, hb3⟩
        have SX3 := Lib.hid (HSk.out.kept (grown_of_below hb3) (by simp))
        have O3 := Lib.hid (owns_below HOk.out hb3)
        have W3 := Lib.hid (HW.out.trans (hb3.mono (by omega)))
        have hz3 := hb3.size
        have b3 := SX3.out.c0
        have z3 := SX3.out.z 0
        have hSl3 : w1.heap.size + 1 + 1 < w3.heap.size := by omega
        clear hb3 n0 n1 n2 hXk hXl b0 z0 hSl
        obtain ⟨sg, hsg⟩ : ∃ sg, sg = strS g := ⟨_, rfl⟩
        obtain ⟨sb, hsb⟩ : ∃ sb, sb = strS bf := ⟨_, rfl⟩
        rw [show ({ data := #[g] } : ByteArray) = sg from hsg.symm, ← hsb]
        have HSG := Lib.hid hsg
        have HSB := Lib.hid hsb
        clear hsg hsb
        have hqz : (sg.toList == [122]) = decide (g = 122) := by
          have := strS_beq g 122
          rw [show (strS 122).toList = [122] by rw [strS, ByteArray.toList_eq], ← HSG.out] at this
          exact this
        have hqb : (sg.toList == sb.toList) = decide (g = bf) := by
          rw [HSG.out, HSB.out]
          exact strS_beq g bf
        by_cases hz : g = 122
        · have q1 : (sg.toList == [122]) = true := by rw [hqz]; simpa using hz
          have HL2 := Lib.hid (HLZ.out hz)
          clear hqz hqb
          go_wp2_with fail
          go_roundw
          case rel =>
            refine ⟨k + 1, _, by go_num, by rw [HBS.out, HSG.out], by omega, SX3.out, ?_, W3.out, by omega⟩
            rw [← HL'.out, HL2.out]
            exact O3.out
          case measure => simp [intOf]; omega
        · have q1 : (sg.toList == [122]) = false := by rw [hqz]; simpa using hz
          by_cases hb : g = bf
          · have q2 : (sg.toList == sb.toList) = true := by rw [hqb]; simpa using hb
            obtain ⟨l, lo, hlast⟩ := HLA.out (by rw [← hb]; exact hz)
            have hln : L.length = l.length + 1 := by rw [hlast]; simp
            obtain ⟨n, hn⟩ : ∃ n, n = l.length := ⟨_, rfl⟩
            have hget : L[n]! = ⟨lo, (k : Int) - 1, strS bf, 0⟩ := by
              rw [getElem!_pos L n (by omega)]
              simp [hlast, hn]
            rw [← hn] at hln
            have HL2 := Lib.hid (HLO.out n hz hb hln)
            rw [hget] at HL2
            have HFL := Lib.hid (flatL_set L n ⟨lo, (k : Int), strS bf, 0⟩ (by omega))
            have hOWR := O3.out
            unfold OwnsC at hOWR
            rw [hln] at hOWR b3
            obtain ⟨g0, cap', e⟩ := ownsRow_succ hOWR
            simp only [Value.slice.injEq] at e
            obtain ⟨rfl, _, _⟩ := e
            have hlt4 : n < L.length := by omega
            have hcell : ∀ r (hr : r < 4), w3.cell? ⟨g0, n * 4 + r, none⟩ = (encC L[n]!)[r]? := fun r hr => by
              have := World.ownsRow.cellAt hOWR (n * 4 + r) (by omega)
              rw [this, flatL_get L n r hr, List.getElem?_eq_getElem hlt4]
              simp only [Option.bind_some]
              rw [getElem!_pos L n hlt4]
            rw [hget, ← HSB.out] at hcell
            rw [← HSB.out] at HL2 HFL
            have e0 : w3.cell? ⟨g0, n * 4, none⟩ = some (.int .i64 lo) := hcell 0 (by omega)
            have e1 : w3.cell? ⟨g0, n * 4 + 1, none⟩ = some (.int .i64 ((k : Int) - 1)) := hcell 1 (by omega)
            have e2 : w3.cell? ⟨g0, n * 4 + 2, none⟩ = some (.string sb) := hcell 2 (by omega)
            have e3 : w3.cell? ⟨g0, n * 4 + 3, none⟩ = some (.int .i64 0) := hcell 3 (by omega)
            have hgl : g0 < w3.heap.size := (World.ownsRow.lt hOWR g0 rfl).2
            have hgb : w1.heap.size + 1 ≤ g0 := (World.ownsRow.lt hOWR g0 rfl).1
            have g0' := World.ownsRow.frozenAt hOWR (n * 4)
            have g1' := World.ownsRow.frozenAt hOWR (n * 4 + 1)
            have g2' := World.ownsRow.frozenAt hOWR (n * 4 + 2)
            have g3' := World.ownsRow.frozenAt hOWR (n * 4 + 3)
            have HOWR := Lib.hid hOWR
            have hgl1 : g0 < w3.heap.size + 1 := by omega
            have hnN : (0 : Int) ≤ (n : Int) := by omega
            have hnN1 : (n : Int) < (n : Int) + 1 := by omega
            have hn32 : (n : Int) ≤ 31 := by omega
            have hnr : some (w1.heap.size + 1 + 1) ≠ some g0 := Ne.symm (SX3.out.not_row HOWR.out)
            have HLN1 := Lib.hid hln
            clear hqz hqb hlast hn hOWR hcell hget hln
            go_wp2_with fail
            have S1 := Lib.hid (World.ownsRow.stored HOWR.out (n * 4) (.int .i64 lo))
            have S2 := Lib.hid (World.ownsRow.stored S1.out.1 (n * 4 + 1) (.int .i64 (k : Int)))
            have S3 := Lib.hid (World.ownsRow.stored S2.out.1 (n * 4 + 2) (.string sb))
            have S4 := Lib.hid (World.ownsRow.stored S3.out.1 (n * 4 + 3) (.int .i64 0))
            have BX4 := Lib.hid ((((SX3.out.kept S1.out.2 hnr).kept S2.out.2 hnr).kept S3.out.2 hnr).kept S4.out.2 hnr)
            go_roundw
            case rel =>
              refine ⟨k + 1, _, by go_num, by rw [HBS.out, HSG.out], by omega, BX4.out.kept (row := none) (World.grownBy_alloc _ _ none) (by simp), ?_, ((((W3.out.setCell (p := ⟨g0, n * 4, none⟩) hgb _).setCell (p := ⟨g0, n * 4 + 1, none⟩) hgb _).setCell (p := ⟨g0, n * 4 + 2, none⟩) hgb _).setCell (p := ⟨g0, n * 4 + 3, none⟩) hgb _).alloc (by simp [World.setCell]; omega) _, by simp [World.setCell]; omega⟩
              show OwnsC _ _ _ _
              unfold OwnsC
              rw [← HL'.out, HL2.out, List.length_set, HLN1.out, HFL.out]
              exact World.ownsRow.alloc S4.out.1 _
            case measure => simp [intOf]; omega
          · have q2 : (sg.toList == sb.toList) = false := by rw [hqb]; simpa using hb
            have HL2 := Lib.hid (HLN.out hz hb)
            rw [HKC.out, ← HSG.out] at HL2
            clear hqz hqb
            go_wp2_with (first
              | (at_builtin; refine wpList_append_at _ rfl (.tmp 38) (.tmp 43) 25 rfl (w1.heap.size + 1) 47 i0 zeroC 4 40 Tryd.underlying25 hi hi0 hi1 hi2 rfl (by decide) _ _ _ rfl (World.ownsRow.alloc O3.out _) ⟨w3.heap.size, 0, none⟩ 1 1 (encC ⟨(k : Int), (k : Int), sg, 0⟩) rfl rfl ?c1 (encC_one _) (by unfold maxLen; omega) (by omega) (by simp; omega) (by decide) ?_)
              | fail)
            case c1 => exact cells_at rfl
            intro v1 w6 hown1 hgrow1 hat1
            rw [flatL_snoc] at hown1
            have HB6 := Lib.hid (below_append W3.out (by omega) hgrow1 O3.out (Nat.le_refl _))
            have BX6 := Lib.hid ((SX3.out.kept (row := none) (World.grownBy_alloc w3 (.cells #[.int .i64 (k : Int), .int .i64 (k : Int), .string sg, .int .i64 0] 47) none) (by simp)).kept hgrow1 (Ne.symm (SX3.out.not_row O3.out)))
            have hz6 : w3.heap.size + 1 ≤ w6.heap.size := by have := hgrow1.size; simpa using this
            have c6 := BX6.out.c0
            have f6 := BX6.out.z 0
            have HO6 := Lib.hid hown1
            obtain ⟨g1, cap1, rfl⟩ := ownsRow_succ hown1
            clear hown1 hgrow1 hat1 b3 z3
            go_wp2_with fail
            go_roundw
            case rel =>
              refine ⟨k + 1, _, by go_num, by rw [HBS.out, HSG.out], by omega, BX6.out.set _, ?_, HB6.out.setCell (p := ⟨w1.heap.size + 1 + 1, 0, none⟩) (Nat.le_succ _) _, by simp [World.setCell]; omega⟩
              show OwnsC _ _ _ _
              have h5 := fun u => World.ownsRow.kept HO6.out (grown_set w6 (w1.heap.size + 1 + 1) 0 u) (.inr (BX6.out.not_row HO6.out))
              unfold OwnsC
              rw [← HL'.out, HL2.out, List.length_append]
              simpa using h5 _
            case measure => simp [intOf]; omega
      · have hke : k = 32 := by omega
        subst hke
        have b0 := HSk.out.c0
        have b1 := HSk.out.c1
        have RXr := Lib.hid (show BoxS wr w.heap.size (.slice none 0 0) 0 from (HW1.out.block _ hz1).trans RX1.out)
        have r0 := RXr.out.c0
        have r1 := RXr.out.c1
        have f0 := RXr.out.z 0
        have f1 := RXr.out.z 1
        have hRl : w.heap.size < wr.heap.size := by omega
        have HWr := Lib.hid (HWB.out.trans (HW1.out.mono (by omega)))
        obtain ⟨L, hL⟩ : ∃ L, L = swTo t 32 := ⟨_, rfl⟩
        have HSN := Lib.hid (show swN (some t) = if L.length ≤ 8 then L else [] by rw [hL]; rfl)
        have HSK := Lib.hid (show swK (some t) = decide (L.length ≤ 8) by rw [hL]; rfl)
        rw [← hL] at HOk b0 hlen HSk
        clear hL
        by_cases h8 : L.length ≤ 8
        · have h8i : (L.length : Int) ≤ 8 := by omega
          go_wp2_with fail
          obtain ⟨q0, q1⟩ := two_cells r0 r1 (.slice av L.length cv) (.int .i64 0)
          have O1 := Lib.hid (World.ownsRow.kept (World.ownsRow.kept HOk.out (grown_set wr w.heap.size 0 (.slice av L.length cv)) (.inr (RXr.out.not_row HOk.out))) (grown_set _ w.heap.size 1 (.int .i64 0)) (.inr (RXr.out.not_row HOk.out)))
          refine bodyPost_ret (v := .tuple #[.agg #[.slice av L.length cv, .int .i64 0], .bool true]) (by simp [results, Tryd.results20, go_sem, q0, q1]) rfl ⟨_, retSw (by rw [HSK.out]; simp [h8]), ?_, (HWr.out.setCell (p := ⟨w.heap.size, 0, none⟩) (Nat.le_refl _) _).setCell (p := ⟨w.heap.size, 1, none⟩) (Nat.le_refl _) _⟩
          rw [HSN.out, if_pos h8]
          exact owns_base O1.out (by omega)
        · have h8i : (8 : Int) < (L.length : Int) := by omega
          go_wp2_with fail
          obtain ⟨q0, q1⟩ := two_cells r0 r1 (.slice none 0 0) (.int .i64 0)
          refine bodyPost_ret (v := .tuple #[.agg #[.slice none 0 0, .int .i64 0], .bool false]) (by simp [results, Tryd.results20, go_sem, q0, q1]) rfl ⟨_, retSw (by rw [HSK.out]; simp [h8]), ?_, (HWr.out.setCell (p := ⟨w.heap.size, 0, none⟩) (Nat.le_refl _) _).setCell (p := ⟨w.heap.size, 1, none⟩) (Nat.le_refl _) _⟩
          rw [HSN.out, if_neg h8]
          exact World.ownsRow_nil _ _ _ _
end Go.Proofs.YtndnbeijmhcepaaDoor
