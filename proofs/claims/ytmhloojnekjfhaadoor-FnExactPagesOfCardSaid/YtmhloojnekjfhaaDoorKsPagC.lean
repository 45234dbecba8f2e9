
/- The book: add, which puts a page behind all others. -/
import Derived.Test.YtmhloojnekjfhaaDoorKsPagA
import Derived.Test.YtmhloojnekjfhaaDoorKsHoldT
namespace Go.Proofs.YtmhloojnekjfhaaDoor
open Go.RowKit Go.Shelf Go.Lib Go.Sort

theorem step_call3 {P : Program} {ops : Array Oper} {o : Oper} {a : Act} {K : Act → World → Prop} {Q : Exit → Act → World → Prop} {E : Prop} (w : World) (hgd : o.guard = none) (f : FuncId) (x y z : Operand) (t u s : TypeId)
    (ho : o.op = .call { callee := .value (.func f), args := #[x, y, z], argTypes := #[t, u, s] }) (he : ∀ args w, (callFunc f args).run P w = .ok (.enter f args) w) (v1 v2 v3 : Value) (hx : a.eval x = v1) (hy : a.eval y = v2) (hz : a.eval z = v3)
    (hc : Calls P f #[v1, v2, v3] w fun e w' => ∃ u, e = .returned u ∧ K (a.put o.dst u) w') :
    if Region.wanted o (yielded ops a.tmps) = true then Oper.wp P o a w K Q else E := by
  have hw : Region.wanted o (yielded ops a.tmps) = true := by simp [Region.wanted, hgd]
  rw [if_pos hw]
  unfold Oper.wp execOp
  simp only [ho]
  have hr : Sem.run P (do
        let d ← resolve a.eval { callee := Callee.value (Operand.func f), args := #[x, y, z], argTypes := #[t, u, s] } o.type
        invoke d.target d.args) w = .ok (.enter f #[v1, v2, v3]) w := by
    subst hx hy hz
    simp [resolve, invoke, go_sem]
    exact he _ w
  rw [hr, Oper.upon_enter]
  refine hc.mono ?_
  rintro e w' ⟨u, rfl, hK⟩
  exact hK
/-- The bytes of a page. -/
def pageL (d : Array CaseD) (ln sz : Nat) : List Value := (List.range sz).map fun i => Value.int .u8 (goB d (ln + i))
theorem pageL_length (d : Array CaseD) (ln sz : Nat) : (pageL d ln sz).length = sz := by simp [pageL]
theorem splice_page (d : Array CaseD) (ln sz : Nat) (hs : sz ≤ 32) : (splice (rowA fun _ => 0).toList 0 (pageL d ln sz)).toArray = rowA (padR d ln sz) := by
  apply Array.ext_getElem?
  intro i
  simp only [splice, pageL, rowA, List.getElem?_toArray, List.take_zero, List.nil_append, List.length_map, List.length_range, Nat.zero_add]
  by_cases hi : i < sz
  · rw [List.getElem?_append_left (by simpa using hi)]
    have h2 : i < 32 := by omega
    simp [hi, h2, padR]
  · rw [List.getElem?_append_right (by simp; omega)]
    simp only [List.length_map, List.length_range, List.getElem?_drop]
    by_cases h2 : i < 32
    · have e : sz + (i - sz) = i := by omega
      simp [e, h2, padR, hi]
    · have e : ¬ sz + (i - sz) < 32 := by omega
      simp [e, h2]
theorem pageL_cells {W : World} {A : Nat} {d : Array CaseD} (h : RowU W A (goB d)) {ln sz : Nat} (hs : ln + sz ≤ 32) : ∀ j v, (pageL d ln sz)[j]? = some v → W.cell? ((⟨A, ln, none⟩ : Addr).add j) = some v := by
  intro j v hj
  have hlt : j < sz := by have := (List.getElem?_eq_some_iff.1 hj).1; rwa [pageL_length] at this
  have : (pageL d ln sz)[j]? = some (.int .u8 (goB d (ln + j))) := by simp [pageL, hlt]
  rw [this] at hj
  cases hj
  have hc := h.cell (k := ln + j) (by omega)
  by_cases h0 : j = 0
  · subst h0; exact hc
  · simp only [Addr.add, h0, if_false]; exact hc
theorem pageL_one (d : Array CaseD) (ln sz : Nat) : ∀ v ∈ pageL d ln sz, v.oneCell' = true := fun v hv => by
  simp only [pageL, List.mem_map] at hv
  obtain ⟨_, _, rfl⟩ := hv
  rfl
theorem BookAt.setI {W : World} {B : Nat} {p u : Value} {M : Nat} {f : Nat → Int} (h : BookAt W B p u M f) (u' : Value) : BookAt (W.setCell ⟨B, 1, none⟩ u') B p u' M f := by
  have hc : ∀ j, j ≠ 1 → (W.setCell ⟨B, 1, none⟩ u').cell? ⟨B, j, none⟩ = W.cell? ⟨B, j, none⟩ := fun j hj => World.cell?_setCell_other _ _ _ _ (fun e => hj (by cases e; rfl))
  exact ⟨(hc 0 (by decide)).trans h.c0, World.cell?_setCell_same _ _ _ h.c1, (hc 2 (by decide)).trans h.c2, fun j v hj => (hc _ (by omega)).trans (h.row j v hj), by rw [World.frozen?_setCell]; exact h.f0, by rw [World.frozen?_setCell]; exact h.f1,
    fun j hj => ⟨by rw [hc _ (by omega)]; exact (h.f3 j hj).1, by rw [World.frozen?_setCell]; exact (h.f3 j hj).2⟩, by rw [World.size_setCell]; exact h.lt⟩
theorem grown_thenC {w w1 w2 : World} {row : Option Nat} (h1 : w.grownBy w1 row) (h2 : w1.grownBy w2 row) : w.grownBy w2 row :=
  ⟨h2.os.trans h1.os, h2.tape.trans h1.tape, h2.output.trans h1.output, Nat.le_trans h1.size h2.size, fun q hq hne => (h2.block q (Nat.lt_of_lt_of_le hq h1.size) hne).trans (h1.block q hq hne)⟩
theorem grown_setCells (b : Nat) : ∀ (vs : List Value) (o : Nat) (w : World), w.grownBy (w.setCells b o vs) (some b)
  | [], _, w => grownBy_same w _
  | v :: r, o, w => by
    rw [World.setCells]
    exact grown_thenC (grownBy_setCellK w b o v) (grown_setCells b r (o + 1) _)
theorem BookAt.setR {W : World} {B : Nat} {p u : Value} {M : Nat} {f : Nat → Int} (h : BookAt W B p u M f) (g : Nat → Int) : BookAt (W.setCells B 3 (rowA g).toList) B p u M g := by
  have hl : (rowA g).toList.length = 32 := by rw [Array.length_toList, rowA_size]
  have hc : ∀ j, j < 3 → (W.setCells B 3 (rowA g).toList).cell? ⟨B, j, none⟩ = W.cell? ⟨B, j, none⟩ := fun j hj => World.cell?_setCells_out B _ 3 W ⟨B, j, none⟩ (fun _ _ => .inl hj)
  exact ⟨(hc 0 (by decide)).trans h.c0, (hc 1 (by decide)).trans h.c1, (hc 2 (by decide)).trans h.c2, World.rangeAt_setCells_same W B 3 _ (by rw [hl]; exact h.f3), by rw [World.frozen?_setCells]; exact h.f0, by rw [World.frozen?_setCells]; exact h.f1,
    World.there_setCells h.f3 B 3 _, Nat.lt_of_lt_of_le h.lt (grown_setCells B _ 3 W).size⟩
theorem Frm.trans {S T : Nat → Prop} {A W W' : World} (h : Frm S A W) (h2 : Frm T W W') (hs : ∀ g, T g → S g ∨ A.heap.size ≤ g) : Frm S A W' :=
  ⟨h2.os.trans h.os, h2.tape.trans h.tape, h2.output.trans h.output, Nat.le_trans h.size h2.size, fun g hl hn => (h2.block g (Nat.lt_of_lt_of_le hl h.size) (fun e => by rcases hs g e with h1 | h1; exact hn h1; omega)).trans (h.block g hl hn)⟩
theorem Frm.below {S : Nat → Prop} {A W : World} {base : Nat} (h : Frm S A W) (hs : ∀ g, S g → base ≤ g) (hb : base ≤ A.heap.size) : RowKit.Below base A W :=
  ⟨h.os, h.tape, h.output, h.size, fun g hl => h.block g (by omega) (fun e => by have := hs g e; omega)⟩

set_option maxRecDepth 100000 in
set_option maxHeartbeats 2000000 in
theorem add_any (base B M A : Nat) (d : Array CaseD) (rest : Int) (sz j cp : Nat) (pv u : Value) (rows : List (Nat → Int)) (w : World) (hI : PgInv w base B M A d sz j pv u rows) (hok : SwOK d rest) (hs1 : 0 < sz) (hs : sz * j + sz ≤ 32) (hMB : M ≠ B) (hAM : A ≠ M) (hAB : A ≠ B) (hb : base ≤ w.heap.size) (hBb : base ≤ B) (hMb : base ≤ M) :
    Calls Tryd.prog 36 #[.pointer (some ⟨B, 0, none⟩), .slice (some ⟨A, sz * j, none⟩) sz cp] w fun x w' => x = .returned (.tuple #[]) ∧ ∃ pv' u' rows', PgInv w' base B M A d sz (j + 1) pv' u' rows' ∧ RowKit.Below base w w' := by
  have hj32 : j ≤ 32 := by
    have : 1 * j ≤ sz * j := Nat.mul_le_mul_right _ hs1
    omega
  have hs32 : sz ≤ 32 := by omega
  have hPL := fun W (hW : PgInv W base B M A d sz j pv u rows) (hb2 : base ≤ W.heap.size) => place_any base B M A d rest sz j cp pv u rows W hW hok hs1 hs hMB hAM hAB hb2
  obtain ⟨f, hf⟩ : ∃ f, f = padR d (sz * j) sz := ⟨_, rfl⟩
  have hfl : lastF d sz (j + 1) = f := hf ▸ rfl
  have hsp := splice_page d (sz * j) sz hs32
  have hcells := fun W (hW : RowU W A (goB d)) => pageL_cells hW hs
  rw [← hf] at hPL hsp
  have HFL := Lib.hid hfl
  have HSP := Lib.hid hsp
  have HCL := Lib.hid hcells
  have HPLC := Lib.hid hPL
  have HI := Lib.hid hI
  have HMB := Lib.hid hMB
  have HAB := Lib.hid hAB
  clear hPL hsp hcells hI hfl hf hok hMB hAM hAB
  have hsl : ∀ W, Sem.run Tryd.prog (Instr.sliceAt 60 (.pointer (some ⟨w.heap.size, 0, none⟩)) none none none) W = .ok (.slice (some ⟨w.heap.size, 0, none⟩) 32 32) W := fun W => by
    rw [run_sliceAt_array_all W 60 _ arrRow, elemRow, Tryd.sizeOf58]
    simp [slicedAt, lenRow, Result.andThen, Addr.add]
  obtain ⟨wa, hwa⟩ : ∃ wa, wa = w.alloc (.cells (rowA fun _ => 0) 60) := ⟨_, rfl⟩
  have hba : RowKit.Below w.heap.size w wa := by rw [hwa]; exact (Below.refl _ _).alloc (Nat.le_refl _) _
  have hha : RowU wa w.heap.size (fun _ => 0) := by rw [hwa]; exact heap_alloc_last _ _
  have HBA := Lib.hid hba
  have HHA := Lib.hid hha
  have HWA := Lib.hid hwa
  clear hba hha hwa
  go_enter Tryd.func36, Tryd.ntmps36
  go_wp2_with (rw [← zero_row, ← HWA.out]; refine wpList_copy_splice rfl (.tmp 5) (.tmp 6) 66 66 rfl 58 Tryd.underlying66 (by kernel_rfl) (some ⟨w.heap.size, 0, none⟩) (some ⟨A, sz * j, none⟩) 32 32 sz cp rfl rfl w.heap.size 0 (rowA fun _ => 0).toList 60 HHA.out (pageL d (sz * j) sz) (by rw [pageL_length]; exact (Nat.min_eq_left hs32).symm) (fun _ => ⟨rfl, _, rfl, HCL.out _ (HI.out.row.below HBA.out)⟩) (by rw [pageL_length, Array.length_toList, rowA_size]; omega) (pageL_one d (sz * j) sz) w.heap.size w HBA.out (Nat.le_refl _) ?_; intro w2 hw2 hb2)
  have HX2 := Lib.hid (show RowU w2 w.heap.size f by have := hw2.out; rwa [HSP.out] at this)
  have HB2 := Lib.hid hb2
  have hbd : RowKit.Below w2.heap.size w2 w2.drew := (Below.refl _ _).drew
  have HI2 := Lib.hid (HI.out.below hb2)
  have HI3 := Lib.hid ((HI.out.below hb2).below hbd)
  have HX3 := Lib.hid (HX2.out.below hbd)
  have hz2 : w.heap.size ≤ w2.heap.size := hb2.size
  have HPL := Lib.hid (HPLC.out _ HI3.out (by simp; omega))
  have e1 := HI2.out.book.c1
  have e1l := HI2.out.book.lt
  have hll := indexTo_length d sz j
  obtain ⟨i0, hi, hi0, hi1, hi2⟩ := info_parts infoInt
  clear hb2 hw2 hbd
  have hS0 : RowU w2.drew w.heap.size f ∧ w2.drew.cell? ⟨B, 1, none⟩ = some u := ⟨HX3.out, HI3.out.book.c1⟩
  refine wp_region_till (fun W => RowU W w.heap.size f ∧ W.cell? ⟨B, 1, none⟩ = some u) 11 (by kernel_rfl) ?_
  refine wpTill_take (i := 0) (oi := ⟨some 8, .move (.tmp 0), _, _, _, none⟩) (v := (.pointer (some ⟨B, 0, none⟩))) rfl (by kernel_rfl) (by kernel_rfl) (by kernel_rfl) (by kernel_rfl) (fun _ _ _ h => h) (.inl ⟨by rfl, fun W hW => by go_simp⟩) hS0 ?_
  try simp only [Act.put, List.setIfInBounds_toArray, List.set_cons_zero, List.set_cons_succ]
  refine wpTill_take (i := 1) (oi := ⟨some 9, .move (.tmp 0), _, _, _, none⟩) (v := (.pointer (some ⟨B, 0, none⟩))) rfl (by kernel_rfl) (by kernel_rfl) (by kernel_rfl) (by kernel_rfl) (fun _ _ _ h => h) (.inl ⟨by rfl, fun W hW => by go_simp⟩) hS0 ?_
  try simp only [Act.put, List.setIfInBounds_toArray, List.set_cons_zero, List.set_cons_succ]
  refine wpTill_take (i := 2) (oi := ⟨some 10, .nilCheck (.tmp 9), _, _, _, none⟩) (v := (.pointer (some ⟨B, 0, none⟩))) rfl (by kernel_rfl) (by kernel_rfl) (by kernel_rfl) (by kernel_rfl) (fun _ _ _ h => h) (.inl ⟨by rfl, fun W hW => by go_simp⟩) hS0 ?_
  try simp only [Act.put, List.setIfInBounds_toArray, List.set_cons_zero, List.set_cons_succ]
  refine wpTill_take (i := 3) (oi := ⟨some 11, .fieldAddr 64 (.tmp 10) 1, _, _, _, none⟩) (v := (.pointer (some ⟨B, 1, none⟩))) rfl (by kernel_rfl) (by kernel_rfl) (by kernel_rfl) (by kernel_rfl) (fun _ _ _ h => h) (.inl ⟨by rfl, fun W hW => by go_simp⟩) hS0 ?_
  try simp only [Act.put, List.setIfInBounds_toArray, List.set_cons_zero, List.set_cons_succ]
  refine wpTill_take (i := 4) (oi := ⟨some 12, .load 29 (.tmp 11), _, _, _, none⟩) (v := u) rfl (by kernel_rfl) (by kernel_rfl) (by kernel_rfl) (by kernel_rfl) (fun _ _ _ h => h) (.inl ⟨by rfl, fun W hW => by have h0 := hW.2; go_simp⟩) hS0 ?_
  try simp only [Act.put, List.setIfInBounds_toArray, List.set_cons_zero, List.set_cons_succ]
  refine wpTill_take (i := 5) (oi := ⟨some 13, .move (.tmp 0), _, _, _, none⟩) (v := (.pointer (some ⟨B, 0, none⟩))) rfl (by kernel_rfl) (by kernel_rfl) (by kernel_rfl) (by kernel_rfl) (fun _ _ _ h => h) (.inl ⟨by rfl, fun W hW => by go_simp⟩) hS0 ?_
  try simp only [Act.put, List.setIfInBounds_toArray, List.set_cons_zero, List.set_cons_succ]
  refine wpTill_take (i := 6) (oi := ⟨some 14, .load 60 (.tmp 4), _, _, _, none⟩) (v := (.agg (rowA f))) rfl (by kernel_rfl) (by kernel_rfl) (by kernel_rfl) (by kernel_rfl) (fun _ _ _ h => h) (yields_loadv 60 (.tmp 4) rfl (by rfl) ⟨w.heap.size, 0, none⟩ rfl (.agg (rowA f)) (fun W hW => rowU_load hW.1)) hS0 ?_
  try simp only [Act.put, List.setIfInBounds_toArray, List.set_cons_zero, List.set_cons_succ]
  refine wpTill_take (i := 7) (oi := ⟨some 15, .move (.tmp 1), _, _, _, none⟩) (v := (.slice (some ⟨A, sz * j, none⟩) sz cp)) rfl (by kernel_rfl) (by kernel_rfl) (by kernel_rfl) (by kernel_rfl) (fun _ _ _ h => h) (.inl ⟨by rfl, fun W hW => by go_simp⟩) hS0 ?_
  try simp only [Act.put, List.setIfInBounds_toArray, List.set_cons_zero, List.set_cons_succ]
  refine wpTill_one (i := 8) (o := ⟨some 16, _, _, _, _, none⟩) (by kernel_rfl) rfl (fun K hK => ?_)
  refine step_call3 _ (by rfl) 69 (.tmp 13) (.tmp 14) (.tmp 15) 96 60 66 (by rfl) (enters_of Tryd.func69 (by kernel_rfl) rfl) (.pointer (some ⟨B, 0, none⟩)) (.agg (rowA f)) (.slice (some ⟨A, sz * j, none⟩) sz cp) (by rfl) (by rfl) (by rfl) ((HPL.out).mono ?_)
  rintro _ w4 ⟨rfl, pv', rows', PL⟩
  refine ⟨_, rfl, ?_⟩
  have HP4 := Lib.hid PL
  have k1 := PL.book.c1
  have k1l := PL.book.lt
  have k1z := PL.frm.size
  clear PL
  have hpz : ∀ q, pv.ownBlock = some q → q < w.heap.size := fun q hq => (owns_lt HI.out.pages hq).2
  have huz : ∀ q, u.ownBlock = some q → q < w.heap.size := fun q hq => (owns_lt HI.out.index hq).2
  have hMl := HI.out.map.lt
  have hBl := HI.out.book.lt
  have hX4 : RowU w4 w.heap.size f := (HP4.out.frm.block w.heap.size HX3.out.lt (by
    rintro (h | h | h)
    · omega
    · omega
    · have := hpz _ h; omega)).trans HX3.out
  have HX4 := Lib.hid hX4
  have HPZ := Lib.hid hpz
  have HUZ := Lib.hid huz
  clear hX4 hpz huz
  refine hK _ _ (fun _ => ⟨HX4.out, k1⟩) ?_
  clear hK K
  try simp only [Act.put, List.setIfInBounds_toArray, List.set_cons_zero, List.set_cons_succ]
  refine wpTill_one (i := 9) (o := ⟨some 17, _, _, _, _, none⟩) (by kernel_rfl) rfl (fun K hK => ?_)
  go_simp
  obtain ⟨wx, hwx⟩ : ∃ wx, wx = w4.alloc (.cells #[.int .i64 (placeOf (pagesTo d sz j) (tabS d (sz * j) sz) : Int)] 3) := ⟨_, rfl⟩
  have hbx : RowKit.Below w4.heap.size w4 wx := by rw [hwx]; exact (Below.refl _ _).alloc (Nat.le_refl _) _
  have hcx : wx.cell? ⟨w4.heap.size, 0, none⟩ = some (.int .i64 (placeOf (pagesTo d sz j) (tabS d (sz * j) sz) : Int)) := by rw [hwx]; simp [go_sem]
  have hsx : wx.heap.size = w4.heap.size + 1 := by rw [hwx]; simp
  have HOX := Lib.hid (show wx.ownsRow base 3 1 u (indexTo d sz j).length ((indexTo d sz j).map encN) by rw [hwx]; exact World.ownsRow.alloc HP4.out.index _)
  rw [← hwx]
  clear hwx
  have HBX := Lib.hid hbx
  refine hK _ _ (fun _ => ⟨HX4.out.below hbx, (hbx.cell (p := ⟨B, 1, none⟩) k1l).trans k1⟩) ?_
  clear hK K hbx
  try simp only [Act.put, List.setIfInBounds_toArray, List.set_cons_zero, List.set_cons_succ]
  refine wpTill_one (i := 10) (o := ⟨some 18, _, _, _, _, none⟩) (by kernel_rfl) rfl (fun K hK => ?_)
  refine step_append_atB _ (by rfl) (.tmp 12) (.tmp 17) 29 (by rfl) base 3 i0 (.int .i64 0) 1 8 Tryd.underlying29 hi hi0 hi1 hi2 rfl (by decide) u (indexTo d sz j).length ((indexTo d sz j).map encN) (by rfl) HOX.out ⟨w4.heap.size, 0, none⟩ 1 1 [.int .i64 (placeOf (pagesTo d sz j) (tabS d (sz * j) sz) : Int)] (by rfl) rfl (cell1At hcx) (fun u hu => by simp at hu; subst hu; rfl) (by unfold maxLen; omega) (by omega) (by simp at k1z; omega) (by decide) ?_
  intro v1 w5 hown5 hgrow5 hat5
  obtain ⟨p1, c1, hv1⟩ := slice_of_owns hown5
  have HO5 := Lib.hid hown5
  have HG5 := Lib.hid hgrow5
  have HT5 := Lib.hid hat5
  have hX5 := (HX4.out.below HBX.out).kept hgrow5 (fun e => by have := HUZ.out _ e.symm; omega)
  have HX5 := Lib.hid hX5
  have HB5 := Lib.hid ((HP4.out.book.below HBX.out).kept hgrow5 (Ne.symm HI.out.uB))
  have k0 := HB5.out.c1
  have k0f := HB5.out.f1
  have k0l := HB5.out.lt
  clear hown5 hgrow5 hat5 hX5
  refine hK _ _ (fun _ => ⟨HX5.out, k0⟩) ?_
  clear hK K
  try simp only [Act.put, List.setIfInBounds_toArray, List.set_cons_zero, List.set_cons_succ]
  refine wpTill_one (i := 11) (o := ⟨some 19, _, _, _, _, none⟩) (by kernel_rfl) rfl (fun K hK => ?_)
  go_simp
  refine hK _ _ (fun h => absurd (show (true : Bool) = false from h) (by decide)) ?_
  clear hK K
  try simp only [Act.put, List.setIfInBounds_toArray, List.set_cons_zero, List.set_cons_succ]
  refine wpTill_one (i := 12) (o := ⟨some 20, _, _, _, _, none⟩) (by kernel_rfl) rfl (fun K hK => ?_)
  go_simp
  refine hK _ _ (fun h => absurd (show (true : Bool) = false from h) (by decide)) ?_
  clear hK K
  try simp only [Act.put, List.setIfInBounds_toArray, List.set_cons_zero, List.set_cons_succ]
  subst hv1
  refine wpTill_one (i := 13) (o := ⟨none, _, _, _, _, none⟩) (by kernel_rfl) rfl (fun K hK => ?_)
  go_simp
  refine hK _ _ (fun h => absurd (show (true : Bool) = false from h) (by decide)) ?_
  clear hK K
  refine wpTill_done (by kernel_rfl) ?_
  rw [hll] at HO5 HT5
  obtain ⟨v1, hv⟩ : ∃ v1, v1 = Value.slice p1 (j + 1) c1 := ⟨_, rfl⟩
  rw [← hv] at HO5 HT5 ⊢
  clear hv
  have hs6 := grownBy_setCellK w5 B 1 v1
  obtain ⟨w6, hw6⟩ : ∃ w6, w6 = w5.setCell ⟨B, 1, none⟩ v1 := ⟨_, rfl⟩
  rw [← hw6] at hs6 ⊢
  have HB6 := Lib.hid (show BookAt w6 B pv' v1 M (lastF d sz j) by rw [hw6]; exact HB5.out.setI v1)
  have HX6 := Lib.hid (HX5.out.kept hs6 (fun e => by have := Option.some.inj e; omega))
  have HG6 := Lib.hid hs6
  have hz5 : wx.heap.size ≤ w5.heap.size := HG5.out.size
  have hz6 : w5.heap.size ≤ w6.heap.size := hs6.size
  clear hs6 hw6 k0 k0f k1 e1 hcx hS0
  go_wp2_with (first | (refine wpList_load_row rfl 60 (.tmp 4) rfl w.heap.size rfl 60 _ _ _ HX6.out Tryd.underlying60 rfl (infoRowA _) ?_) | (refine wpList_store_mid rfl 60 (.tmp 24) (.tmp 22) rfl B 3 (rowA f) rfl rfl (by rw [rowA_size]; exact HB6.out.f3) (infoRowA _) (rowA_one _) ?_))
  have HG7 := Lib.hid (grown_setCells B (rowA f).toList 3 w6)
  have HB7 := Lib.hid (HB6.out.setR f)
  obtain ⟨w7, hw7⟩ : ∃ w7, w7 = w6.setCells B 3 (rowA f).toList := ⟨_, rfl⟩
  rw [← hw7] at HG7 HB7 ⊢
  clear hw7
  have hvz : ∀ q, q < w.heap.size → u.ownBlock ≠ some q → v1.ownBlock ≠ some q := fun q hq hne e => by
    rcases HT5.out with h | h
    · exact hne (h.symm.trans e)
    · rw [h] at e
      have := Option.some.inj e
      have hd : w2.drew.heap.size = w2.heap.size := rfl
      omega
  have hpu : pv'.ownBlock = none ∨ pv'.ownBlock ≠ u.ownBlock := by
    cases hq : pv'.ownBlock with
    | none => exact .inl rfl
    | some q =>
      right
      rcases HP4.out.up with h | h
      · rw [h]; simp
      · rw [← hq]; exact Ne.symm h
  have hAl := HI.out.row.lt
  have hbd : RowKit.Below w2.heap.size w2 w2.drew := (Below.refl _ _).drew
  have hF : Frm (fun g => g = M ∨ g = B ∨ pv.ownBlock = some g ∨ u.ownBlock = some g) w w7 :=
    (((((((Frm.of_below HB2.out).trans (Frm.of_below (S := fun _ => False) hbd) (fun g h => h.elim)).trans HP4.out.frm (fun g h => .inl (by rcases h with h | h | h; exact .inl h; exact .inr (.inl h); exact .inr (.inr (.inl h))))).trans (Frm.of_below (S := fun _ => False) HBX.out) (fun g h => h.elim)).of_grown HG5.out (fun g e => .inl (.inr (.inr (.inr e))))).of_grown HG6.out (fun g e => .inl (.inr (.inl (Option.some.inj e).symm)))).of_grown HG7.out (fun g e => .inl (.inr (.inl (Option.some.inj e).symm))))
  have hbz : ∀ g, (g = M ∨ g = B ∨ pv.ownBlock = some g ∨ u.ownBlock = some g) → base ≤ g := fun g h => by
    rcases h with h | h | h | h
    · omega
    · omega
    · exact (owns_lt HI.out.pages h).1
    · exact (owns_lt HI.out.index h).1
  have hMB := HMB.out
  have hAB := HAB.out
  have hmB : some M ≠ some B := fun e => hMB (Option.some.inj e)
  have haB : some A ≠ some B := fun e => hAB (Option.some.inj e)
  have hpages : OwnsT base pv' (pagesTo d sz (j + 1)) w7 := World.ownsRow.kept (World.ownsRow.kept (World.ownsRow.kept (owns_below HP4.out.pages HBX.out) HG5.out hpu) HG6.out (.inr HP4.out.pB)) HG7.out (.inr HP4.out.pB)
  have hvB := hvz B hBl HI.out.uB
  have hindex : w7.ownsRow base 3 1 v1 (indexTo d sz (j + 1)).length ((indexTo d sz (j + 1)).map encN) := by
    rw [indexTo_length, indexTo, List.map_append]
    exact World.ownsRow.kept (World.ownsRow.kept HO5.out HG6.out (.inr hvB)) HG7.out (.inr hvB)
  have hmap := (((HP4.out.map.below HBX.out).kept HG5.out (Ne.symm HI.out.uM)).kept HG6.out hmB).kept HG7.out hmB
  have hrow := (((HP4.out.row.below HBX.out).kept HG5.out (Ne.symm HI.out.uA)).kept HG6.out haB).kept HG7.out haB
  have hup : v1.ownBlock = none ∨ v1.ownBlock ≠ pv'.ownBlock := by
    rcases HT5.out with h | h
    · rw [h]; exact HP4.out.up
    · right
      intro e
      rw [h] at e
      have := (owns_lt HP4.out.pages e.symm).2
      omega
  go_end0
  exact ⟨rfl, ⟨pv', v1, rows', by rw [HFL.out]; exact HB7.out, hpages, hindex, hmap, HP4.out.rep, hrow, HP4.out.pB, HP4.out.pM, HP4.out.pA, hvB, hvz M hMl HI.out.uM, hvz A hAl HI.out.uA, hup⟩, hF.below hbz hb⟩
end Go.Proofs.YtmhloojnekjfhaaDoor
