
/- PagesOf of the program. -/
import Derived.Test.YtmhloojnekjfhaaDoorKsPagC
import Derived.Test.YtmhloojnekjfhaaDoorKsPagI
import Derived.WideMake
namespace Go.Proofs.YtmhloojnekjfhaaDoor
open Go.RowKit Go.Shelf Go.Lib Go.Sort

/-- The cells of a book that has nothing yet. -/
def bookC (M : Nat) : Array Value := (.slice none 0 0 :: .slice none 0 0 :: .map (some M) :: (List.range 32).map fun _ => Value.int .u8 0).toArray
theorem bookC_lit (M : Nat) : bookC M = #[.slice none 0 0, .slice none 0 0, .map (some M), .int .u8 0, .int .u8 0, .int .u8 0, .int .u8 0, .int .u8 0, .int .u8 0, .int .u8 0, .int .u8 0, .int .u8 0, .int .u8 0, .int .u8 0, .int .u8 0, .int .u8 0, .int .u8 0, .int .u8 0, .int .u8 0, .int .u8 0, .int .u8 0, .int .u8 0, .int .u8 0, .int .u8 0, .int .u8 0, .int .u8 0, .int .u8 0, .int .u8 0, .int .u8 0, .int .u8 0, .int .u8 0, .int .u8 0, .int .u8 0, .int .u8 0, .int .u8 0] := rfl
theorem bookC_size (M : Nat) : (bookC M).size = 35 := by rfl
theorem bookC_one (M : Nat) : (bookC M).all (·.oneCell') = true := by
  rw [Array.all_eq_true_iff_forall_mem]
  intro v hv
  rw [bookC_lit] at hv
  simp at hv
  rcases hv with rfl | rfl | rfl <;> rfl
theorem bookC_get (M : Nat) {j : Nat} (h : j < 32) : (bookC M)[3 + j]? = some (.int .u8 0) := by
  have e : 3 + j = j + 1 + 1 + 1 := by omega
  rw [e]
  simp [bookC, h]
theorem infoBook : (Tryd.prog.info? 64).map (·.size) = some 35 := by kernel_rfl
theorem book_new {W : World} {B M : Nat} {t : TypeId} (h : W.heap[B]? = some (.cells (bookC M) t (0, 0))) : BookAt W B (.slice none 0 0) (.slice none 0 0) M (fun _ => 0) := by
  have hc := fun j => cell_of_row W B j _ _ _ h
  have hf := fun j => frozen_of_row W B j _ _ h
  refine ⟨(hc 0).trans (by rfl), (hc 1).trans (by rfl), (hc 2).trans (by rfl), fun j v hj => ?_, hf 0, hf 1, fun j hj => ⟨?_, hf _⟩, (Array.getElem?_eq_some_iff.1 h).1⟩
  · have hlt : j < 32 := by
      have := (List.getElem?_eq_some_iff.1 hj).1
      rwa [Array.length_toList, rowA_size] at this
    rw [Array.getElem?_toList, rowA_get _ hlt] at hj
    exact (hc _).trans ((bookC_get M hlt).trans hj)
  · rw [hc, bookC_get M hj]; rfl
theorem wpList_makeMapP {P : Program} {ops : Array Oper} {rest : List Oper} {o : Oper} {a : Act} {w : World} {Q : Exit → Act → World → Prop} (hgd : o.guard = none) (t : TypeId) (ho : o.op = .makeMap t none) (h : wpList P ops Q rest (a.put o.dst (.map (some w.heap.size))) (w.alloc (.map #[] 0))) : wpList P ops Q (o :: rest) a w :=
  wpList_plain hgd fun K hK => by
    unfold Oper.wp execOp
    simp [ho, run_makeMap_plain, Result.andThen, Oper.upon]
    exact hK _ _ h
theorem slice_row3 (g q n : Nat) (h : q + n ≤ 32) (hn : 0 < n) (W : World) :
    Sem.run Tryd.prog (Instr.sliceAt 60 (.pointer (some ⟨g, 0, none⟩)) (some (.int .i64 q)) (some (.int .i64 ((q : Int) + n))) (some (.int .i64 ((q : Int) + n)))) W = .ok (.slice (some ⟨g, q, none⟩) n n) W := by
  rw [run_sliceAt_array_lhm W 60 _ arrRow .i64 .i64 .i64 q ((q : Int) + n) ((q : Int) + n) (by omega) (by omega) (by omega) (by rw [lenRow]; omega), elemRow, Tryd.sizeOf58]
  have e1 : ((q : Int) + n).toNat - q = n := by omega
  have e2 : ¬ ((q : Int) + n).toNat = q := by omega
  simp [slicedAt, Result.andThen, Addr.add, e1, e2]
  first | done | omega | (exact fun e => e.symm) | (intro e; omega)
theorem owns_nil (w : World) (base size : Nat) (e : TypeId) : w.ownsRow base e size (.slice none 0 0) 0 [] := ⟨by simp, .inl ⟨rfl, rfl⟩⟩
set_option maxRecDepth 100000 in
set_option maxHeartbeats 2000000 in
theorem implPagesOf_any (b off cap : Nat) (d : Array CaseD) (rest size : Int) (w : World) (hR : RowC w b off d) (hE : ErrAt w) (hcap : d.size ≤ cap) (hmax : cap ≤ maxLen) :
    Calls Tryd.prog 8 #[.agg #[.slice (some ⟨b, off, none⟩) d.size cap, .int .i64 rest], .int .i64 size] w (Pag3 w.heap.size (pagesN d rest size) (indexN d rest size) (pagB d rest size) w) := by
  have hv := fun W (hW : RowKit.Below w.heap.size w W) => switchValid_any b off cap d rest W (hR.below hW) (hE.below hW) hcap hmax
  have HT := Lib.hid (fun (ho : SwOK d rest) W (hW : RowKit.Below w.heap.size w W) => implRow_any b off cap d rest W (hR.below hW) ho)
  have hk := fun W => isPageSize_any size W
  obtain ⟨wa, hwa⟩ : ∃ wa, wa = w.alloc (.cells #[.slice (some ⟨b, off, none⟩) d.size cap, .int .i64 rest] 25) := ⟨_, rfl⟩
  have c0 : wa.cell? ⟨w.heap.size, 0, none⟩ = some (.slice (some ⟨b, off, none⟩) d.size cap) := by rw [hwa]; simp
  have c1 : wa.cell? ⟨w.heap.size, 1, none⟩ = some (.int .i64 rest) := by rw [hwa]; simp
  have hz : w.heap.size < wa.heap.size := by rw [hwa]; simp
  have hba : RowKit.Below w.heap.size w wa := by rw [hwa]; exact (Below.refl _ _).alloc (Nat.le_refl _) _
  have HA := Lib.hid hba
  have C0 := Lib.hid c0
  have C1 := Lib.hid c1
  have HWA := Lib.hid hwa
  clear hba c0 c1 hwa hR hE
  cases hs : swB d rest <;> cases hkb : sizeB size
  all_goals
    simp only [hs] at hv
    simp only [hkb] at hk
    have HV := Lib.hid hv
    have HS := Lib.hid hs
    have HK := Lib.hid hk
    have HKB := Lib.hid hkb
    have HPB := Lib.hid (show pagB d rest size = _ by rw [pagB, hs, hkb])
    clear hv hs hk hkb
    go_enter Tryd.func8, Tryd.ntmps8
    go_wp2_with fail
    rw [← HWA.out]
    refine (HV.out _ HA.out).mono ?_
    rintro x w1 ⟨rfl, hb⟩
    have HB := Lib.hid (HA.out.trans (hb.mono (Nat.le_of_lt hz)))
    have hz1 := hb.size
    have a0 := (hb.cell (p := ⟨w.heap.size, 0, none⟩) hz).trans C0.out
    have a1 := (hb.cell (p := ⟨w.heap.size, 1, none⟩) hz).trans C1.out
    clear hb
    go_wp2_with (go_at_call 34; refine (HK.out _).mono ?_; rintro y w2 ⟨rfl, hb2⟩; have HB2 := Lib.hid (HB.out.trans (hb2.mono HB.out.size)); have hz2 := hb2.size; have d0 := (hb2.cell (p := ⟨w.heap.size, 0, none⟩) (Nat.lt_of_lt_of_le hz hz1)).trans a0; have d1 := (hb2.cell (p := ⟨w.heap.size, 1, none⟩) (Nat.lt_of_lt_of_le hz hz1)).trans a1; clear hb2)
  iterate 3
    · have HPN := Lib.hid (show pagesN d rest size = [] by rw [pagesN, HPB.out]; rfl)
      have HIN := Lib.hid (show indexN d rest size = [] by rw [indexN, HPB.out]; rfl)
      go_ret3
      exact ⟨_, _, ret3b HPB.out.symm, by rw [HPN.out]; exact owns_nil _ _ _ _, by rw [HIN.out]; exact owns_nil _ _ _ _, by first | exact HB.out | exact HB2.out⟩
  · obtain ⟨sz, n, rfl, h1, h2, h3, h4⟩ := size_nat HKB.out
    have hpt : pagB d rest (sz : Int) = true := HPB.out
    have HPN := Lib.hid (show pagesN d rest (sz : Int) = pagesTo d sz n by rw [pagesN, if_pos hpt, pagL, Int.toNat_natCast, h2])
    have HIN := Lib.hid (show indexN d rest (sz : Int) = indexTo d sz n by rw [indexN, if_pos hpt, idxL, Int.toNat_natCast, h2])
    have HOK := Lib.hid ((swB_iff _ _).1 HS.out)
    refine (HT.out HOK.out _ HB2.out).mono ?_
    rintro x w3 ⟨rfl, hb3⟩
    have HB3 := Lib.hid (HB2.out.trans (hb3.mono HB2.out.size))
    clear hb3
    go_wp2_with (first
      | (refine wpList_store_row rfl 60 (.tmp 7) (.tmp 19) rfl w3.heap.size (rowA (goB d)) rfl rfl 60 _ (heap_alloc_new _ _) (infoRowA _) (by rw [rowA_size]; rfl) (rowA_one _) ?_; rw [World.setRow_alloc_new]; obtain ⟨w4, hw4⟩ : ∃ w4, w4 = w3.alloc (.cells (rowA (goB d)) 60) := ⟨_, rfl⟩; have HX4 := Lib.hid (show RowU w4 w3.heap.size (goB d) by rw [hw4]; exact heap_alloc_last _ _); have HB4 := Lib.hid (show RowKit.Below w3.heap.size w3 w4 by rw [hw4]; exact (Below.refl _ _).alloc (Nat.le_refl _) _); rw [← hw4]; clear hw4)
      | (refine wpList_makeMapP rfl 62 rfl ?_; obtain ⟨w5, hw5⟩ : ∃ w5, w5 = w4.alloc (.map #[] 0) := ⟨_, rfl⟩; have HM5 := Lib.hid (show MapAt w5 w4.heap.size [] by rw [hw5]; exact MapAt.new _); have HB5 := Lib.hid (show RowKit.Below w4.heap.size w4 w5 by rw [hw5]; exact (Below.refl _ _).alloc (Nat.le_refl _) _); rw [← hw5]; clear hw5)
      | (refine wpList_store_row rfl 64 (.tmp 8) (.tmp 21) rfl w5.heap.size (bookC w4.heap.size) rfl rfl 64 _ (heap_alloc_new _ _) (by rw [bookC_size]; exact infoBook) (by rw [bookC_size]; rfl) (bookC_one _) ?_; rw [World.setRow_alloc_new]; obtain ⟨w6, hw6⟩ : ∃ w6, w6 = w5.alloc (.cells (bookC w4.heap.size) 64) := ⟨_, rfl⟩; have HK6 := Lib.hid (show BookAt w6 w5.heap.size (.slice none 0 0) (.slice none 0 0) w4.heap.size (fun _ => 0) by rw [hw6]; exact book_new (heap_alloc_last _ _)); have HB6 := Lib.hid (show RowKit.Below w5.heap.size w5 w6 by rw [hw6]; exact (Below.refl _ _).alloc (Nat.le_refl _) _); rw [← hw6]; clear hw6))
    have hA3 := HB3.out.size
    have hM4 := HX4.out.lt
    have hB5 := HM5.out.lt
    have hB6 := HK6.out.lt
    have HW6 := Lib.hid (HB3.out.trans ((HB4.out.mono hA3).trans ((HB5.out.mono (by omega)).trans (HB6.out.mono (by omega)))))
    have HI0 := Lib.hid (show PgInv w6 w.heap.size w5.heap.size w4.heap.size w3.heap.size d sz 0 (.slice none 0 0) (.slice none 0 0) [] from
      ⟨HK6.out, owns_nil _ _ _ _, owns_nil _ _ _ _, HM5.out.below HB6.out, ⟨rfl, fun k hk => absurd hk (Nat.not_lt_zero _)⟩, (HX4.out.below HB5.out).below HB6.out, (fun e => by cases e), (fun e => by cases e), (fun e => by cases e), (fun e => by cases e), (fun e => by cases e), (fun e => by cases e), .inl rfl⟩)
    have HADD := Lib.hid (fun (j q : Nat) (hq : q = sz * j) (hj : j < n) pv u rows W (hI : PgInv W w.heap.size w5.heap.size w4.heap.size w3.heap.size d sz j pv u rows) => (show Calls Tryd.prog 36 #[.pointer (some ⟨w5.heap.size, 0, none⟩), .slice (some ⟨w3.heap.size, q, none⟩) sz sz] W fun x w' => x = .returned (.tuple #[]) ∧ ∃ pv' u' rows', PgInv w' w.heap.size w5.heap.size w4.heap.size w3.heap.size d sz (j + 1) pv' u' rows' ∧ RowKit.Below w.heap.size W w' from by
      subst hq
      exact add_any w.heap.size w5.heap.size w4.heap.size w3.heap.size d rest sz j sz pv u rows W hI HOK.out (by omega) (by have h9 : sz * (j + 1) ≤ sz * n := Nat.mul_le_mul_left _ hj; rw [Nat.mul_succ] at h9; omega) (by omega) (by omega) (by omega) (by have := hI.book.lt; omega) (by omega) (by omega)))
    go_loopw [9] (fun i wr => ∃ (q j : Nat) (pv u : Value) (rows : List (Nat → Int)), i = .int .i64 (q : Int) ∧ q = sz * j ∧ j ≤ n ∧ Hid (PgInv wr w.heap.size w5.heap.size w4.heap.size w3.heap.size d sz j pv u rows) ∧ Hid (RowKit.Below w.heap.size w wr)) (fun i _ => (32 - intOf i).toNat)
    case atStart => exact ⟨0, 0, _, _, _, rfl, by omega, Nat.zero_le _, HI0.out, HW6.out⟩
    case round =>
      obtain ⟨q, j, pv, u, rows, rfl, hq, hj, HI, HB⟩ := hrel
      by_cases hjn : j < n
      · have hq2 : sz * (j + 1) ≤ sz * n := Nat.mul_le_mul_left _ hjn
        have hq3 : sz * (j + 1) = q + sz := by rw [Nat.mul_succ, hq]
        have hq4 : q + sz ≤ 32 := by omega
        have hq5 : (q : Int) ≤ 31 := by omega
        have hsl := slice_row3 w3.heap.size q sz hq4 (by omega)
        obtain ⟨HAD⟩ : Nonempty (Hid (Calls Tryd.prog 36 #[.pointer (some ⟨w5.heap.size, 0, none⟩), .slice (some ⟨w3.heap.size, q, none⟩) sz sz] wr fun x w' => x = .returned (.tuple #[]) ∧ ∃ pv' u' rows', PgInv w' w.heap.size w5.heap.size w4.heap.size w3.heap.size d sz (j + 1) pv' u' rows' ∧ RowKit.Below w.heap.size wr w')) := ⟨Lib.hid (HADD.out j q hq hjn pv u rows wr HI.out)⟩
        have HQ := Lib.hid hq3
        clear hq2 hq3 hq
        go_wp2_with fail
        refine HAD.out.mono ?_
        rintro x w7 ⟨rfl, pv', u', rows', hI7, hb7⟩
        have HI7 := Lib.hid hI7
        have HB7 := Lib.hid (HB.out.trans hb7)
        clear hI7 hb7
        go_wp2_with fail
        go_roundw
        case rel => exact ⟨q + sz, j + 1, pv', u', rows', by go_num, HQ.out.symm, hjn, HI7.out, HB7.out⟩
        case measure => simp [intOf]; omega
      · have hje : j = n := by omega
        subst hje
        have hq32 : q = 32 := by rw [hq]; exact h1
        subst hq32
        clear hq
        go_wp2_with fail
        have e0 := HI.out.book.c0
        have e1 := HI.out.book.c1
        have hbl := HI.out.book.lt
        have c0 := fun p : BW wr => p.cell (a := ⟨w5.heap.size, 0, none⟩) hbl e0
        have c1 := fun p : BW wr => p.cell (a := ⟨w5.heap.size, 1, none⟩) hbl e1
        refine wp_region_bw (by kernel_rfl) (by kernel_rfl) ?_
        repeat (go_big_quiet_step (fail))
        refine wpQuiet_nil ?_
        rintro _ ⟨t, rfl⟩
        have HI9 := Lib.hid (show PgInv t.W w.heap.size w5.heap.size w4.heap.size w3.heap.size d sz j pv u rows from HI.out.below t.h)
        have HB9 := Lib.hid (show RowKit.Below w.heap.size w t.W from HB.out.trans (t.h.mono HB.out.size))
        clear c0 c1
        go_wp2_with fail
        go_ret3
        exact ⟨pv, u, ret3b HPB.out.symm, by rw [HPN.out]; exact HI9.out.pages, by rw [HIN.out]; exact HI9.out.index, HB9.out⟩
end Go.Proofs.YtmhloojnekjfhaaDoor
