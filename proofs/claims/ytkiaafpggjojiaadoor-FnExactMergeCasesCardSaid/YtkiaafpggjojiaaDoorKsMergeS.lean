
/- MergeCases of the model. -/
import Derived.Test.YtkiaafpggjojiaaDoorKsMergeC
import Derived.IntWalk
namespace Go.Proofs.YtkiaafpggjojiaaDoor
open Go.RowKit Go.Shelf Go.Lib Go.Sort

/-- A block that holds a switch. -/
def BoxS (W : World) (B : Nat) (v : Value) (rest : Int) : Prop := W.heap[B]? = some (.cells #[v, .int .i64 rest] 34 (0, 0))
theorem BoxS.new (W : World) (v : Value) (rest : Int) : BoxS (W.alloc (.cells #[v, .int .i64 rest] 34)) W.heap.size v rest := World.alloc_heap_new W _
theorem BoxS.lt {W : World} {B : Nat} {v : Value} {rest : Int} (h : BoxS W B v rest) : B < W.heap.size := (Array.getElem?_eq_some_iff.1 h).1
theorem BoxS.kept {W W' : World} {row : Option Nat} {B : Nat} {v : Value} {rest : Int} (h : BoxS W B v rest) (hg : W.grownBy W' row) (hne : some B ≠ row) : BoxS W' B v rest := (hg.block B h.lt hne).trans h
theorem BoxS.c0 {W : World} {B : Nat} {v : Value} {rest : Int} (h : BoxS W B v rest) : W.cell? ⟨B, 0, none⟩ = some v := by simp [World.cell?, show W.heap[B]? = _ from h]
theorem BoxS.c1 {W : World} {B : Nat} {v : Value} {rest : Int} (h : BoxS W B v rest) : W.cell? ⟨B, 1, none⟩ = some (.int .i64 rest) := by simp [World.cell?, show W.heap[B]? = _ from h]
theorem BoxS.z {W : World} {B : Nat} {v : Value} {rest : Int} (h : BoxS W B v rest) (o : Nat) : W.frozen? ⟨B, o, none⟩ = false := by simp [World.frozen?, show W.heap[B]? = _ from h]
theorem BoxS.set {W : World} {B : Nat} {v : Value} {rest : Int} (h : BoxS W B v rest) (u : Value) : BoxS (W.setCell ⟨B, 0, none⟩ u) B u rest := by
  obtain ⟨hlt, hk⟩ := Array.getElem?_eq_some_iff.1 h
  show (W.heap.modify B _)[B]? = _
  rw [Array.getElem?_eq_getElem (by rw [Array.size_modify]; exact hlt), Array.getElem_modify_self, hk]
  simp
theorem BoxS.not_row {W : World} {B : Nat} {v u : Value} {rest : Int} {base k : Nat} {xs : List Value} (h : BoxS W B v rest) (hr : W.ownsRow base 81 4 u k xs) : u.ownBlock ≠ some B := by
  intro e
  rcases hr.2 with ⟨rfl, _⟩ | ⟨g, cap, cur, rfl, _, hg, _⟩
  · cases e
  · simp only [Value.ownBlock, Option.some.injEq] at e
    rw [e, show W.heap[B]? = _ from h] at hg
    simp only [Option.some.injEq, Obj.cells.injEq] at hg
    exact absurd hg.2.1 (by decide)

set_option maxRecDepth 100000 in
set_option maxHeartbeats 2000000 in
theorem specMerge_any (b off cap : Nat) (d : Array CaseD) (rest : Int) (w : World) (hR : RowC w b off d) (hcap : d.size ≤ cap) (hmax : cap ≤ maxLen) :
    Calls Tryd.prog 35 #[.agg #[.slice (some ⟨b, off, none⟩) d.size cap, .int .i64 rest]] w (Merge2 w.heap.size d rest w) := by
  have hv := fun W (hW : RowKit.Below w.heap.size w W) => specValid_any b off cap d rest W (hR.below hW) hcap hmax
  have HR := Lib.hid hR
  obtain ⟨i0, hi, hi0, hi1, hi2⟩ := info_parts infoC
  clear hR
  cases hs : swB d rest
  all_goals
    simp only [hs] at hv
    have HV := Lib.hid hv
    have HS := Lib.hid hs
    clear hv hs
    go_enter Tryd.func35, Tryd.ntmps35
    go_wp2_with fail
    have hba : RowKit.Below w.heap.size w ((w.alloc (.cells #[.slice (some ⟨b, off, none⟩) d.size cap, .int .i64 rest] 34)).alloc (.cells #[.slice none 0 0, .int .i64 0] 34)) := ((Below.refl _ _).alloc (Nat.le_refl _) _).alloc (by simp) _
    have hRX := BoxS.new (w.alloc (.cells #[.slice (some ⟨b, off, none⟩) d.size cap, .int .i64 rest] 34)) (.slice none 0 0) 0
    rw [World.size_alloc] at hRX
    obtain ⟨wa, hwa⟩ : ∃ wa, wa = (w.alloc (.cells #[.slice (some ⟨b, off, none⟩) d.size cap, .int .i64 rest] 34)).alloc (.cells #[.slice none 0 0, .int .i64 0] 34) := ⟨_, rfl⟩
    have c0 : wa.cell? ⟨w.heap.size, 0, none⟩ = some (.slice (some ⟨b, off, none⟩) d.size cap) := by rw [hwa]; simp [go_sem]
    have c1 : wa.cell? ⟨w.heap.size, 1, none⟩ = some (.int .i64 rest) := by rw [hwa]; simp [go_sem]
    have hz : wa.heap.size = w.heap.size + 2 := by rw [hwa]; simp
    rw [← hwa] at hba hRX ⊢
    clear hwa
    refine (HV.out _ hba).mono ?_
    rintro x w1 ⟨rfl, hb⟩
    have hz1 := hb.size
    have RX1 := Lib.hid (hRX.kept (grown_of_below hb) (by simp))
    have a0 := (hb.cell (p := ⟨w.heap.size, 0, none⟩) (by show w.heap.size < _; omega)).trans c0
    have a1 := (hb.cell (p := ⟨w.heap.size, 1, none⟩) (by show w.heap.size < _; omega)).trans c1
    have r0 := RX1.out.c0
    have r1 := RX1.out.c1
    have f0 := RX1.out.z 0
    have f1 := RX1.out.z 1
    have HWB := Lib.hid (hba.trans (hb.mono hba.size))
    have hzl : w.heap.size < w1.heap.size := by omega
    have hzl2 : w.heap.size + 1 < w1.heap.size := by omega
    clear hb hba hRX c0 c1
    go_wp2_with fail
  · obtain ⟨q0, q1⟩ := two_cells r0 r1 (.slice none 0 0) (.int .i64 0)
    refine bodyPost_ret (v := .tuple #[.agg #[.slice none 0 0, .int .i64 0], .bool false]) (by simp [results, Tryd.results35, go_sem, q0, q1]) rfl ⟨_, retM HS.out.symm (restN_off HS.out).symm, ?_, (HWB.out.setCell (p := ⟨w.heap.size + 1, 0, none⟩) (Nat.le_succ _) _).setCell (p := ⟨w.heap.size + 1, 1, none⟩) (Nat.le_succ _) _⟩
    rw [mergedN_off HS.out]
    exact World.ownsRow_nil _ _ _ _
  · have hok := (swB_iff _ _).1 HS.out
    have h8i : (d.size : Int) ≤ 8 := by have := hok.size; omega
    have BX := BoxS.new (w1.alloc (.cells #[] 81)) (.slice (some ⟨w1.heap.size, 0, none⟩) 0 0) rest
    rw [World.size_alloc] at BX
    have OW : OwnsC w1.heap.size (.slice (some ⟨w1.heap.size, 0, none⟩) 0 0) [] ((w1.alloc (.cells #[] 81)).alloc (.cells #[.slice (some ⟨w1.heap.size, 0, none⟩) 0 0, .int .i64 rest] 34)) := by
      have := World.ownsRow_made (base := w1.heap.size) (e := 81) (size := 4) w1 #[] 0 (Nat.le_refl _) (by unfold maxLen; omega) rfl
      exact World.ownsRow.alloc (xs := []) this _
    have hb0 : RowKit.Below w1.heap.size w1 ((w1.alloc (.cells #[] 81)).alloc (.cells #[.slice (some ⟨w1.heap.size, 0, none⟩) 0 0, .int .i64 rest] 34)) := ((Below.refl _ _).alloc (Nat.le_refl _) _).alloc (by simp) _
    obtain ⟨w2, hw2⟩ : ∃ w2, w2 = (w1.alloc (.cells #[] 81)).alloc (.cells #[.slice (some ⟨w1.heap.size, 0, none⟩) 0 0, .int .i64 rest] 34) := ⟨_, rfl⟩
    have hz2 : w2.heap.size = w1.heap.size + 2 := by rw [hw2]; simp
    rw [← hw2] at BX OW hb0 ⊢
    have HB0 := Lib.hid hb0
    have HBX := Lib.hid BX
    have HOW := Lib.hid OW
    have HR2 := Lib.hid (HR.out.below (HWB.out.trans (hb0.mono HWB.out.size)))
    have HOK := Lib.hid hok
    have HWB2 := Lib.hid (HWB.out.trans (hb0.mono HWB.out.size))
    clear hw2 hb0 BX OW hok r0 r1 f0 f1 a0 a1
    go_loopw [20] (fun i wr => ∃ (k : Nat) (v : Value), i = .int .i64 k ∧ k ≤ d.size ∧ Hid (BoxS wr (w1.heap.size + 1) v rest) ∧ Hid (OwnsC w1.heap.size v (mergeA jC (d.toList.take k)).toList wr) ∧ Hid (RowKit.Below w1.heap.size w1 wr) ∧ w2.heap.size ≤ wr.heap.size) (fun i _ => d.size - (intOf i).toNat)
    case atStart => exact ⟨0, _, rfl, Nat.zero_le _, HBX.out, HOW.out, HB0.out, Nat.le_refl _⟩
    case round =>
      obtain ⟨k, v, rfl, hk, HBk, HOk, HW, hw2⟩ := hrel
      by_cases hlt : k < d.size
      · have hr := HR.out.below (HWB.out.trans (HW.out.mono HWB.out.size))
        have x0 := hr.low k hlt
        have x1 := hr.high k hlt
        have x2 := hr.target k hlt
        have x3 := hr.weight k hlt
        have hcase := okB_of_case (HOK.out.case k hlt)
        have hsn := mergeA_snoc jC (d.toList.take k) d[k]!
        have htk : d.toList.take (k + 1) = d.toList.take k ++ [d[k]!] := by rw [List.take_succ_eq_append_getElem (by simpa using hlt), getElem!_pos d k hlt, Array.getElem_toList]
        rw [← htk] at hsn
        have hbd := mergeA_bnd (j := jC) (l := d.toList.take k) (fun c hc => by
          obtain ⟨i, hi, rfl⟩ := List.getElem_of_mem (List.mem_of_mem_take hc)
          have := okB_of_case (HOK.out.case i (by simpa using hi))
          rw [getElem!_pos d i (by simpa using hi)] at this
          simpa using this)
        have hlen : (d.toList.take k).length ≤ 8 := by rw [List.length_take]; have := HOK.out.size; omega
        obtain ⟨m, hm⟩ : ∃ m, m = mergeA jC (d.toList.take k) := ⟨_, rfl⟩
        rw [← hm] at hsn hbd HOk
        obtain ⟨x, hx⟩ : ∃ x, x = d[k]! := ⟨_, rfl⟩
        rw [← hx] at x0 x1 x2 x3 hcase hsn
        have HSN := Lib.hid hsn
        have HBD := Lib.hid hbd
        have hms : m.size ≤ 8 := by have := hbd.1; omega
        have hki : (k : Int) < (d.size : Int) := by omega
        have hBl : w1.heap.size + 1 < wr.heap.size := by omega
        obtain ⟨av, cv, rfl⟩ := row_slice HOk.out
        have b0 := HBk.out.c0
        have z0 := HBk.out.z 0
        clear hr htk hsn hbd hm hx
        cases hm0 : m.size with
        | zero =>
          have hlen0 : m.toList.length = 0 := by simpa using hm0
          have HL0 := Lib.hid hlen0
          rw [hlen0] at b0 HBk HOk
          skip
          go_wp2_with fail
          go_quiet (fail)
          go_wp2_with (first
            | (at_builtin; refine wpList_append_at _ rfl (.tmp 85) (.tmp 87) 32 rfl w1.heap.size 81 i0 zeroC 4 40 Tryd.underlying32 hi hi0 hi1 hi2 rfl (by decide) _ _ _ rfl (World.ownsRow.alloc (World.ownsRow.alloc HOk.out _) _) ⟨wr.heap.size + 1, 0, none⟩ 1 1 (encC x) rfl rfl ?c1 (encC_one _) (by unfold maxLen; omega) (by omega) (by simp; omega) (by decide) ?_)
            | fail)
          case c1 => exact cells_at (by simp [World.drewN])
          intro v1 w3 hown1 hgrow1 hat1
          rw [flatL_snoc] at hown1
          have HA1 := Lib.hid (show RowKit.Below w1.heap.size w1 ((wr.alloc (.cells #[.int .i64 x.low, .int .i64 x.high, .string x.target, .int .i64 x.weight] 81)).drewN nq) from (fun h : RowKit.Below w1.heap.size w1 (wr.alloc (.cells #[.int .i64 x.low, .int .i64 x.high, .string x.target, .int .i64 x.weight] 81)) => ⟨h.os, h.tape, h.output, h.size, h.block⟩) (HW.out.alloc (by omega) _))
          have HBX := Lib.hid (show BoxS ((wr.alloc (.cells #[.int .i64 x.low, .int .i64 x.high, .string x.target, .int .i64 x.weight] 81)).drewN nq) (w1.heap.size + 1) _ rest from (HBk.out.kept (W' := wr.alloc (.cells #[.int .i64 x.low, .int .i64 x.high, .string x.target, .int .i64 x.weight] 81)) (row := none) (World.grownBy_alloc wr _ none) (by simp)))
          have HB3 := Lib.hid (below_append HA1.out (by simp [World.drewN]; omega) hgrow1 (World.ownsRow.alloc HOk.out _) (Nat.le_refl _))
          have BX3 := Lib.hid ((HBX.out.kept (row := none) (World.grownBy_alloc _ (.cells #[.int .i64 x.low, .int .i64 x.high, .string x.target, .int .i64 x.weight] 81) none) (by simp)).kept hgrow1 (Ne.symm (HBk.out.not_row HOk.out)))
          have hz3 : wr.heap.size + 2 ≤ w3.heap.size := by have := hgrow1.size; simpa [World.drewN] using this
          have c3 := BX3.out.c0
          have f3 := BX3.out.z 0
          have HO3 := Lib.hid hown1
          obtain ⟨g1, cap1, rfl⟩ := ownsRow_succ hown1
          clear hown1 hgrow1 hat1
          go_wp2_with fail
          go_roundw
          case rel =>
            refine ⟨k + 1, _, by go_num, by omega, BX3.out.set _, ?_, HB3.out.setCell (p := ⟨w1.heap.size + 1, 0, none⟩) (Nat.le_succ _) _, by simp [World.setCell]; omega⟩
            show OwnsC _ _ _ _
            have h5 := fun u => World.ownsRow.kept HO3.out (grown_set w3 (w1.heap.size + 1) 0 u) (.inr (BX3.out.not_row HO3.out))
            unfold OwnsC
            rw [HSN.out, mstep_first jC x hm0, Array.toList_push, List.length_append, HL0.out]
            simpa using h5 _
          case measure => simp [intOf]; omega
        | succ n =>
          have hne : n < m.size := by omega
          have hlen1 : m.toList.length = n + 1 := by simpa using hm0
          have HL1 := Lib.hid hlen1
          obtain ⟨g, hav⟩ : ∃ g, av = some ⟨g, 0, none⟩ := by
            have h := HOk.out
            unfold OwnsC at h
            rw [hlen1] at h
            obtain ⟨g, cap', e⟩ := ownsRow_succ h
            simp only [Value.slice.injEq] at e
            exact ⟨g, e.1⟩
          subst hav
          rw [hlen1] at b0 HBk HOk
          have hlt4 : n < m.toList.length := by omega
          have hgt : m.toList[n] = m[n]! := by rw [getElem!_pos m n hne]; simp
          have hcell : ∀ r (hr : r < 4), wr.cell? ⟨g, n * 4 + r, none⟩ = (encC m[n]!)[r]? := fun r hr => by
            have h := HOk.out
            unfold OwnsC at h
            rw [hlen1] at h
            have := World.ownsRow.cellAt h (n * 4 + r) (by omega)
            rw [this, flatL_get m.toList n r hr, List.getElem?_eq_getElem hlt4]
            simp only [Option.bind_some]
            rw [hgt]
          have hgl : g < wr.heap.size := (World.ownsRow.lt HOk.out g rfl).2
          have hbn := HBD.out.2 n hne
          have hjn : jC m[n]! x = (((x.low == m[n]!.high + 1) && (x.target.toList == m[n]!.target.toList)) && wgtB (m[n]!.weight + x.weight)) := rfl
          have hpush := fun h => mstep_push (j := jC) (x := x) hm0 h
          have hjoin := fun h => mstep_join (j := jC) (x := x) hm0 h
          obtain ⟨lc, hlc⟩ : ∃ lc, lc = m[n]! := ⟨_, rfl⟩
          rw [← hlc] at hcell hbn hjn hpush hjoin
          have e0 : wr.cell? ⟨g, n * 4, none⟩ = some (.int .i64 lc.low) := hcell 0 (by omega)
          have e1 : wr.cell? ⟨g, n * 4 + 1, none⟩ = some (.int .i64 lc.high) := hcell 1 (by omega)
          have e2 : wr.cell? ⟨g, n * 4 + 2, none⟩ = some (.string lc.target) := hcell 2 (by omega)
          have e3 : wr.cell? ⟨g, n * 4 + 3, none⟩ = some (.int .i64 lc.weight) := hcell 3 (by omega)
          obtain ⟨b1', b2', b3', b4', b5', b6', b7'⟩ := hbn
          have hlk : ((d.toList.take k).length : Int) ≤ 8 := by omega
          have hw800 : lc.weight ≤ 800 := by omega
          obtain ⟨p1, p2, p3, p4, p5, p6⟩ := (okB_iff x).1 hcase
          have hnN : (0 : Int) ≤ (n : Int) := by omega
          have hnN1 : (n : Int) < (n : Int) + 1 := by omega
          have HPU := Lib.hid hpush
          have HJO := Lib.hid hjoin
          have HJN := Lib.hid hjn
          clear hcell hgt hpush hjoin hjn hlc b7' p6
          have w1' : IntKind.i64.wrap (lc.high + 1) = lc.high + 1 := IntWalk.i64_in _ (by omega)
          have w2' : IntKind.i64.wrap (lc.weight + x.weight) = lc.weight + x.weight := IntWalk.i64_in _ (by omega)
          cases q1 : (lc.high + 1 == x.low) with
          | false =>
            have hj : jC lc x = false := by
              have : ¬ lc.high + 1 = x.low := by simpa using q1
              rw [HJN.out, Bool.and_eq_false_iff, Bool.and_eq_false_iff]
              exact .inl (.inl (by simp; omega))
            have HST := Lib.hid (HPU.out hj)
            clear hj
            go_wp2_with fail
            go_quiet (fail)
            go_wp2_with (first
              | (at_builtin; refine wpList_append_at _ rfl (.tmp 85) (.tmp 87) 32 rfl w1.heap.size 81 i0 zeroC 4 40 Tryd.underlying32 hi hi0 hi1 hi2 rfl (by decide) _ _ _ rfl (World.ownsRow.alloc (World.ownsRow.alloc HOk.out _) _) ⟨wr.heap.size + 1, 0, none⟩ 1 1 (encC x) rfl rfl ?c1 (encC_one _) (by unfold maxLen; omega) (by omega) (by simp; omega) (by decide) ?_)
              | fail)
            case c1 => exact cells_at (by simp [World.drewN])
            intro v1 w3 hown1 hgrow1 hat1
            rw [flatL_snoc] at hown1
            have HA1 := Lib.hid (show RowKit.Below w1.heap.size w1 ((wr.alloc (.cells #[.int .i64 x.low, .int .i64 x.high, .string x.target, .int .i64 x.weight] 81)).drewN nq) from (fun h : RowKit.Below w1.heap.size w1 (wr.alloc (.cells #[.int .i64 x.low, .int .i64 x.high, .string x.target, .int .i64 x.weight] 81)) => ⟨h.os, h.tape, h.output, h.size, h.block⟩) (HW.out.alloc (by omega) _))
            have HBX := Lib.hid (show BoxS ((wr.alloc (.cells #[.int .i64 x.low, .int .i64 x.high, .string x.target, .int .i64 x.weight] 81)).drewN nq) (w1.heap.size + 1) _ rest from (HBk.out.kept (W' := wr.alloc (.cells #[.int .i64 x.low, .int .i64 x.high, .string x.target, .int .i64 x.weight] 81)) (row := none) (World.grownBy_alloc wr _ none) (by simp)))
            have HB3 := Lib.hid (below_append HA1.out (by simp [World.drewN]; omega) hgrow1 (World.ownsRow.alloc HOk.out _) (Nat.le_refl _))
            have BX3 := Lib.hid ((HBX.out.kept (row := none) (World.grownBy_alloc _ (.cells #[.int .i64 x.low, .int .i64 x.high, .string x.target, .int .i64 x.weight] 81) none) (by simp)).kept hgrow1 (Ne.symm (HBk.out.not_row HOk.out)))
            have hz3 : wr.heap.size + 2 ≤ w3.heap.size := by have := hgrow1.size; simpa [World.drewN] using this
            have c3 := BX3.out.c0
            have f3 := BX3.out.z 0
            have HO3 := Lib.hid hown1
            obtain ⟨g1, cap1, rfl⟩ := ownsRow_succ hown1
            clear hown1 hgrow1 hat1
            go_wp2_with fail
            go_roundw
            case rel =>
              refine ⟨k + 1, _, by go_num, by omega, BX3.out.set _, ?_, HB3.out.setCell (p := ⟨w1.heap.size + 1, 0, none⟩) (Nat.le_succ _) _, by simp [World.setCell]; omega⟩
              show OwnsC _ _ _ _
              have h5 := fun u => World.ownsRow.kept HO3.out (grown_set w3 (w1.heap.size + 1) 0 u) (.inr (BX3.out.not_row HO3.out))
              unfold OwnsC
              rw [HSN.out, HST.out, Array.toList_push, List.length_append, HL1.out]
              simpa using h5 _
            case measure => simp [intOf]; omega
          | true =>
            have h1 : lc.high + 1 = x.low := by simpa using q1
            cases q2 : (lc.target.toList == x.target.toList) with
            | false =>
              have hj : jC lc x = false := by
                have : ¬ lc.target.toList = x.target.toList := by simpa using q2
                rw [HJN.out, Bool.and_eq_false_iff, Bool.and_eq_false_iff]
                exact .inl (.inr (by simp; exact fun e => this e.symm))
              have HST := Lib.hid (HPU.out hj)
              clear hj h1
              go_wp2_with fail
              go_quiet (fail)
              go_wp2_with (first
                | (at_builtin; refine wpList_append_at _ rfl (.tmp 85) (.tmp 87) 32 rfl w1.heap.size 81 i0 zeroC 4 40 Tryd.underlying32 hi hi0 hi1 hi2 rfl (by decide) _ _ _ rfl (World.ownsRow.alloc (World.ownsRow.alloc HOk.out _) _) ⟨wr.heap.size + 1, 0, none⟩ 1 1 (encC x) rfl rfl ?c1 (encC_one _) (by unfold maxLen; omega) (by omega) (by simp; omega) (by decide) ?_)
                | fail)
              case c1 => exact cells_at (by simp [World.drewN])
              intro v1 w3 hown1 hgrow1 hat1
              rw [flatL_snoc] at hown1
              have HA1 := Lib.hid (show RowKit.Below w1.heap.size w1 ((wr.alloc (.cells #[.int .i64 x.low, .int .i64 x.high, .string x.target, .int .i64 x.weight] 81)).drewN nq) from (fun h : RowKit.Below w1.heap.size w1 (wr.alloc (.cells #[.int .i64 x.low, .int .i64 x.high, .string x.target, .int .i64 x.weight] 81)) => ⟨h.os, h.tape, h.output, h.size, h.block⟩) (HW.out.alloc (by omega) _))
              have HBX := Lib.hid (show BoxS ((wr.alloc (.cells #[.int .i64 x.low, .int .i64 x.high, .string x.target, .int .i64 x.weight] 81)).drewN nq) (w1.heap.size + 1) _ rest from (HBk.out.kept (W' := wr.alloc (.cells #[.int .i64 x.low, .int .i64 x.high, .string x.target, .int .i64 x.weight] 81)) (row := none) (World.grownBy_alloc wr _ none) (by simp)))
              have HB3 := Lib.hid (below_append HA1.out (by simp [World.drewN]; omega) hgrow1 (World.ownsRow.alloc HOk.out _) (Nat.le_refl _))
              have BX3 := Lib.hid ((HBX.out.kept (row := none) (World.grownBy_alloc _ (.cells #[.int .i64 x.low, .int .i64 x.high, .string x.target, .int .i64 x.weight] 81) none) (by simp)).kept hgrow1 (Ne.symm (HBk.out.not_row HOk.out)))
              have hz3 : wr.heap.size + 2 ≤ w3.heap.size := by have := hgrow1.size; simpa [World.drewN] using this
              have c3 := BX3.out.c0
              have f3 := BX3.out.z 0
              have HO3 := Lib.hid hown1
              obtain ⟨g1, cap1, rfl⟩ := ownsRow_succ hown1
              clear hown1 hgrow1 hat1
              go_wp2_with fail
              go_roundw
              case rel =>
                refine ⟨k + 1, _, by go_num, by omega, BX3.out.set _, ?_, HB3.out.setCell (p := ⟨w1.heap.size + 1, 0, none⟩) (Nat.le_succ _) _, by simp [World.setCell]; omega⟩
                show OwnsC _ _ _ _
                have h5 := fun u => World.ownsRow.kept HO3.out (grown_set w3 (w1.heap.size + 1) 0 u) (.inr (BX3.out.not_row HO3.out))
                unfold OwnsC
                rw [HSN.out, HST.out, Array.toList_push, List.length_append, HL1.out]
                simpa using h5 _
              case measure => simp [intOf]; omega
            | true =>
              have h2 : lc.target.toList = x.target.toList := by simpa using q2
              by_cases h3 : lc.weight + x.weight ≤ 99
              · have hj : jC lc x = true := by
                  rw [HJN.out, Bool.and_eq_true, Bool.and_eq_true]
                  exact ⟨⟨by simp; omega, by rw [h2]; simp⟩, by simp [wgtB]; omega⟩
                have HST := Lib.hid (HJO.out hj)
                have hOWR := HOk.out
                unfold OwnsC at hOWR
                rw [hlen1] at hOWR
                have g0 := World.ownsRow.frozenAt hOWR (n * 4)
                have g1 := World.ownsRow.frozenAt hOWR (n * 4 + 1)
                have g2 := World.ownsRow.frozenAt hOWR (n * 4 + 2)
                have g3 := World.ownsRow.frozenAt hOWR (n * 4 + 3)
                have HOWR := Lib.hid hOWR
                have hBl0 : w1.heap.size < wr.heap.size := by omega
                have hgl1 : g < wr.heap.size + 1 := by omega
                clear hj h1 h2 hOWR
                go_wp2_with fail
                go_quiet (fail)
                go_wp2_with fail
                have hgb : w1.heap.size ≤ g := (World.ownsRow.lt HOWR.out g rfl).1
                have HA1 := Lib.hid (show RowKit.Below w1.heap.size w1 ((wr.alloc (.cells #[.int .i64 x.low, .int .i64 x.high, .string x.target, .int .i64 x.weight] 81)).drewN nq) from (fun h : RowKit.Below w1.heap.size w1 (wr.alloc (.cells #[.int .i64 x.low, .int .i64 x.high, .string x.target, .int .i64 x.weight] 81)) => ⟨h.os, h.tape, h.output, h.size, h.block⟩) (HW.out.alloc (by omega) _))
                have HBX := Lib.hid (show BoxS ((wr.alloc (.cells #[.int .i64 x.low, .int .i64 x.high, .string x.target, .int .i64 x.weight] 81)).drewN nq) (w1.heap.size + 1) _ rest from (HBk.out.kept (W' := wr.alloc (.cells #[.int .i64 x.low, .int .i64 x.high, .string x.target, .int .i64 x.weight] 81)) (row := none) (World.grownBy_alloc wr _ none) (by simp)))
                have hnr : some (w1.heap.size + 1) ≠ some g := Ne.symm (HBk.out.not_row HOWR.out)
                have S0 := Lib.hid (show ((wr.alloc (.cells #[.int .i64 x.low, .int .i64 x.high, .string x.target, .int .i64 x.weight] 81)).drewN nq).ownsRow w1.heap.size 81 4 (.slice (some ⟨g, 0, none⟩) (n + 1) cv) (n + 1) (flatL m.toList) from World.ownsRow.alloc HOWR.out (.cells #[.int .i64 x.low, .int .i64 x.high, .string x.target, .int .i64 x.weight] 81))
                have S1 := Lib.hid (World.ownsRow.stored S0.out (n * 4) (.int .i64 lc.low))
                have S2 := Lib.hid (World.ownsRow.stored S1.out.1 (n * 4 + 1) (.int .i64 x.high))
                have S3 := Lib.hid (World.ownsRow.stored S2.out.1 (n * 4 + 2) (.string lc.target))
                have S4 := Lib.hid (World.ownsRow.stored S3.out.1 (n * 4 + 3) (.int .i64 (lc.weight + x.weight)))
                have BX4 := Lib.hid ((((HBX.out.kept S1.out.2 hnr).kept S2.out.2 hnr).kept S3.out.2 hnr).kept S4.out.2 hnr)
                have HFL := Lib.hid (flatL_set m.toList n (oneC lc x) hlt4)
                go_roundw
                case rel =>
                  refine ⟨k + 1, _, by go_num, by omega, BX4.out.kept (row := none) (World.grownBy_alloc _ _ none) (by simp), ?_, ((((HA1.out.setCell (p := ⟨g, n * 4, none⟩) hgb _).setCell (p := ⟨g, n * 4 + 1, none⟩) hgb _).setCell (p := ⟨g, n * 4 + 2, none⟩) hgb _).setCell (p := ⟨g, n * 4 + 3, none⟩) hgb _).alloc (by simp [World.setCell, World.drewN]; omega) _, by simp [World.setCell, World.drewN]; omega⟩
                  show OwnsC _ _ _ _
                  unfold OwnsC
                  rw [HSN.out, HST.out, Array.toList_setIfInBounds, List.length_set, hlen1, HFL.out]
                  exact World.ownsRow.alloc S4.out.1 _
                case measure => simp [intOf]; omega
              · have hj : jC lc x = false := by
                  rw [HJN.out, Bool.and_eq_false_iff]
                  exact .inr (by simp [wgtB]; omega)
                have HST := Lib.hid (HPU.out hj)
                have h3' : 99 < lc.weight + x.weight := by omega
                clear hj h1 h2 h3
                go_wp2_with fail
                go_quiet (fail)
                go_wp2_with (first
                  | (at_builtin; refine wpList_append_at _ rfl (.tmp 85) (.tmp 87) 32 rfl w1.heap.size 81 i0 zeroC 4 40 Tryd.underlying32 hi hi0 hi1 hi2 rfl (by decide) _ _ _ rfl (World.ownsRow.alloc (World.ownsRow.alloc HOk.out _) _) ⟨wr.heap.size + 1, 0, none⟩ 1 1 (encC x) rfl rfl ?c1 (encC_one _) (by unfold maxLen; omega) (by omega) (by simp; omega) (by decide) ?_)
                  | fail)
                case c1 => exact cells_at (by simp [World.drewN])
                intro v1 w3 hown1 hgrow1 hat1
                rw [flatL_snoc] at hown1
                have HA1 := Lib.hid (show RowKit.Below w1.heap.size w1 ((wr.alloc (.cells #[.int .i64 x.low, .int .i64 x.high, .string x.target, .int .i64 x.weight] 81)).drewN nq) from (fun h : RowKit.Below w1.heap.size w1 (wr.alloc (.cells #[.int .i64 x.low, .int .i64 x.high, .string x.target, .int .i64 x.weight] 81)) => ⟨h.os, h.tape, h.output, h.size, h.block⟩) (HW.out.alloc (by omega) _))
                have HBX := Lib.hid (show BoxS ((wr.alloc (.cells #[.int .i64 x.low, .int .i64 x.high, .string x.target, .int .i64 x.weight] 81)).drewN nq) (w1.heap.size + 1) _ rest from (HBk.out.kept (W' := wr.alloc (.cells #[.int .i64 x.low, .int .i64 x.high, .string x.target, .int .i64 x.weight] 81)) (row := none) (World.grownBy_alloc wr _ none) (by simp)))
                have HB3 := Lib.hid (below_append HA1.out (by simp [World.drewN]; omega) hgrow1 (World.ownsRow.alloc HOk.out _) (Nat.le_refl _))
                have BX3 := Lib.hid ((HBX.out.kept (row := none) (World.grownBy_alloc _ (.cells #[.int .i64 x.low, .int .i64 x.high, .string x.target, .int .i64 x.weight] 81) none) (by simp)).kept hgrow1 (Ne.symm (HBk.out.not_row HOk.out)))
                have hz3 : wr.heap.size + 2 ≤ w3.heap.size := by have := hgrow1.size; simpa [World.drewN] using this
                have c3 := BX3.out.c0
                have f3 := BX3.out.z 0
                have HO3 := Lib.hid hown1
                obtain ⟨g1, cap1, rfl⟩ := ownsRow_succ hown1
                clear hown1 hgrow1 hat1
                go_wp2_with fail
                go_roundw
                case rel =>
                  refine ⟨k + 1, _, by go_num, by omega, BX3.out.set _, ?_, HB3.out.setCell (p := ⟨w1.heap.size + 1, 0, none⟩) (Nat.le_succ _) _, by simp [World.setCell]; omega⟩
                  show OwnsC _ _ _ _
                  have h5 := fun u => World.ownsRow.kept HO3.out (grown_set w3 (w1.heap.size + 1) 0 u) (.inr (BX3.out.not_row HO3.out))
                  unfold OwnsC
                  rw [HSN.out, HST.out, Array.toList_push, List.length_append, HL1.out]
                  simpa using h5 _
                case measure => simp [intOf]; omega
      · have hke : k = d.size := by omega
        have HKE := Lib.hid (show (mergeA jC (d.toList.take k)).toList = mergedN d rest by rw [mergedN_on HS.out, hke, List.take_of_length_le (by simp)])
        rw [HKE.out] at HOk
        obtain ⟨av, cv, rfl⟩ := row_slice HOk.out
        have b0 := HBk.out.c0
        have b1 := HBk.out.c1
        have RXr := Lib.hid (show BoxS wr (w.heap.size + 1) (.slice none 0 0) 0 from (HW.out.block _ hzl2).trans RX1.out)
        have r0 := RXr.out.c0
        have r1 := RXr.out.c1
        have f0 := RXr.out.z 0
        have f1 := RXr.out.z 1
        have hkn : ¬ (k : Int) < (d.size : Int) := by omega
        have hBl : w1.heap.size + 1 < wr.heap.size := by omega
        have hRl : w.heap.size + 1 < wr.heap.size := by omega
        clear hke
        go_wp2_with fail
        obtain ⟨q0, q1⟩ := two_cells r0 r1 (.slice av (mergedN d rest).length cv) (.int .i64 rest)
        have O1 := Lib.hid (World.ownsRow.kept (World.ownsRow.kept HOk.out (grown_set wr (w.heap.size + 1) 0 (.slice av (mergedN d rest).length cv)) (.inr (RXr.out.not_row HOk.out))) (grown_set _ (w.heap.size + 1) 1 (.int .i64 rest)) (.inr (RXr.out.not_row HOk.out)))
        refine bodyPost_ret (v := .tuple #[.agg #[.slice av (mergedN d rest).length cv, .int .i64 rest], .bool true]) (by simp [results, Tryd.results35, go_sem, q0, q1]) rfl ⟨_, retM HS.out.symm (restN_on HS.out).symm, owns_base O1.out (by omega), ((HWB.out.trans (HW.out.mono HWB.out.size)).setCell (p := ⟨w.heap.size + 1, 0, none⟩) (Nat.le_succ _) _).setCell (p := ⟨w.heap.size + 1, 1, none⟩) (Nat.le_succ _) _⟩
end Go.Proofs.YtkiaafpggjojiaaDoor
