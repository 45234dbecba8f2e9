
/- The book's places: placeOf of the program, under way. -/
import Derived.Test.YtmhloojnekjfhaaDoorKsBookM
import Derived.Test.YtmhloojnekjfhaaDoorKsPagS
import Derived.Test.YtmhloojnekjfhaaDoorKsQuiet
import Derived.Deep.MidRow
namespace Go.Proofs.YtmhloojnekjfhaaDoor
open Go.RowKit Go.Shelf Go.Lib Go.Sort

/-- A whole variable read, in a region that draws its order. -/
theorem quiet_loadv {P : Program} {o : Oper} {a : Act} {C : World → Prop} {K : Act → Prop} (ty : TypeId) (x : Operand) (ho : o.op = .load ty x) (ad : Addr) (hx : a.eval x = .pointer (some ad)) (v : Value)
    (hv : ∀ w, C w → (loadVar ty ad).run P w = .ok v w) (hk : K (a.put o.dst v)) : o.quiet P a C K :=
  ⟨v, fun w hw => by
    unfold Oper.quietAt execOp
    simp [ho, hx, Instr.loadAt, Instr.sureAddr, Result.andThen, hv w hw, Oper.quietUpon], hk⟩
/-- The book: two slices, a map, the last row. -/
structure BookAt (W : World) (B : Nat) (p u : Value) (M : Nat) (f : Nat → Int) : Prop where
  c0 : W.cell? ⟨B, 0, none⟩ = some p
  c1 : W.cell? ⟨B, 1, none⟩ = some u
  c2 : W.cell? ⟨B, 2, none⟩ = some (.map (some M))
  row : W.rangeAt B 3 (rowA f).toList
  f0 : W.frozen? ⟨B, 0, none⟩ = false
  f1 : W.frozen? ⟨B, 1, none⟩ = false
  f3 : W.there B 3 32
  lt : B < W.heap.size
theorem BookAt.below {W W' : World} {B : Nat} {p u : Value} {M : Nat} {f : Nat → Int} (h : BookAt W B p u M f) (hb : RowKit.Below W.heap.size W W') : BookAt W' B p u M f :=
  ⟨(hb.cell (p := ⟨B, 0, none⟩) h.lt).trans h.c0, (hb.cell (p := ⟨B, 1, none⟩) h.lt).trans h.c1, (hb.cell (p := ⟨B, 2, none⟩) h.lt).trans h.c2, fun j v hj => (hb.cell (p := ⟨B, 3 + j, none⟩) h.lt).trans (h.row j v hj),
    (hb.frozen (p := ⟨B, 0, none⟩) h.lt).trans h.f0, (hb.frozen (p := ⟨B, 1, none⟩) h.lt).trans h.f1,
    fun j hj => ⟨by rw [hb.cell (p := ⟨B, 3 + j, none⟩) h.lt]; exact (h.f3 j hj).1, (hb.frozen (p := ⟨B, 3 + j, none⟩) h.lt).trans (h.f3 j hj).2⟩, Nat.lt_of_lt_of_le h.lt hb.size⟩
theorem book_load {W : World} {B : Nat} {p u : Value} {M : Nat} {f : Nat → Int} (h : BookAt W B p u M f) : (loadVar 60 ⟨B, 3, none⟩).run Tryd.prog W = .ok (.agg (rowA f)) W := by
  have := run_loadVar_mid (P := Tryd.prog) W B 3 60 (rowA f).toList _ h.row rowArr rfl (by rw [Array.length_toList]; exact infoRowA f)
  rwa [Array.toArray_toList] at this
theorem rowU_load {W : World} {R : Nat} {f : Nat → Int} (h : RowU W R f) : (loadVar 60 ⟨R, 0, none⟩).run Tryd.prog W = .ok (.agg (rowA f)) W :=
  run_loadVar_row W R 60 60 (rowA f) (0, 0) _ h rowArr rfl (infoRowA f)

theorem book_loadAt {W : World} {B : Nat} {p u : Value} {M : Nat} {f : Nat → Int} (h : BookAt W B p u M f) : (Instr.loadAt 60 (.pointer (some ⟨B, 3, none⟩))).run Tryd.prog W = .ok (.agg (rowA f)) W := by
  simp only [Instr.loadAt, Instr.sureAddr, Sem.run_bind, Sem.run_pure, Result.andThen]
  exact book_load h
theorem rowU_loadAt {W : World} {R : Nat} {f : Nat → Int} (h : RowU W R f) : (Instr.loadAt 60 (.pointer (some ⟨R, 0, none⟩))).run Tryd.prog W = .ok (.agg (rowA f)) W := by
  simp only [Instr.loadAt, Instr.sureAddr, Sem.run_bind, Sem.run_pure, Result.andThen]
  exact rowU_load h

set_option maxRecDepth 100000 in
set_option maxHeartbeats 1000000 in
theorem placeOf_old (B M : Nat) (p : Value) (f r : Nat → Int) (g n : Nat) (cap : Nat) (q : Value) (w : World) (hB : BookAt w B p (.slice (some ⟨g, 0, none⟩) (n + 1) cap) M f) (hs : sameRow r f = true) (z : Int) (hn : n ≤ 1000) (hz : w.cell? ⟨g, n, none⟩ = some (.int .i64 z)) (hg : g < w.heap.size) :
    Calls Tryd.prog 69 #[.pointer (some ⟨B, 0, none⟩), .agg (rowA r), q] w fun x w' => x = .returned (.int .i64 z) ∧ RowKit.Below w.heap.size w w' := by
  have HB := Lib.hid hB
  have HS := Lib.hid hs
  clear hB hs
  go_enter Tryd.func69, Tryd.ntmps69
  go_wp2_with fail
  obtain ⟨wa, hwa⟩ : ∃ wa, wa = w.alloc (.cells (rowA r) 60) := ⟨_, rfl⟩
  have HX := Lib.hid (show RowU wa w.heap.size r by rw [hwa]; exact heap_alloc_last _ _)
  have HA := Lib.hid (show RowKit.Below w.heap.size w wa by rw [hwa]; exact (Below.refl _ _).alloc (Nat.le_refl _) _)
  have HBA := Lib.hid (HB.out.below HA.out)
  have heq := fun W => equalIn_row r f W
  have heq2 := fun W => eql_row r f W
  rw [HS.out] at heq heq2
  rw [← hwa]
  clear hwa
  have hl1 := fun p : BW wa => rowU_loadAt (HX.out.below p.h)
  have hl2 := fun p : BW wa => book_loadAt (HBA.out.below p.h)
  refine wp_region_bw (by kernel_rfl) (by kernel_rfl) ?_
  refine BigFrame.wpQuiet_want rfl (fun K hK => quiet_loadv 60 (.tmp 4) rfl ⟨w.heap.size, 0, none⟩ rfl (.agg (rowA r)) (fun w' hw' => by obtain ⟨t, rfl⟩ := hw'; exact rowU_load (HX.out.below t.h)) (hK _ ?_))
  simp only [Act.put, List.setIfInBounds_toArray, List.set_cons_succ, List.set_cons_zero]
  repeat (go_big_quiet_step (fail))
  refine BigFrame.wpQuiet_want rfl (fun K hK => quiet_loadv 60 (.tmp 12) rfl ⟨B, 3, none⟩ rfl (.agg (rowA f)) (fun w' hw' => by obtain ⟨t, rfl⟩ := hw'; exact book_load (HBA.out.below t.h)) (hK _ ?_))
  simp only [Act.put, List.setIfInBounds_toArray, List.set_cons_succ, List.set_cons_zero]
  repeat (go_big_quiet_step (fail))
  refine wpQuiet_nil ?_
  rintro _ ⟨t, rfl⟩
  have HB2 := Lib.hid (HBA.out.below t.h)
  have HW2 := Lib.hid (HA.out.trans (t.h.mono HA.out.size))
  have hgl : g < wa.heap.size := Nat.lt_of_lt_of_le hg HA.out.size
  have z0 := (HW2.out.cell (p := ⟨g, n, none⟩) hg).trans hz
  have d1 := HB2.out.c1
  have hn' : (n : Int) ≤ 1000 := by omega
  have e1 : ((n + 1 : Nat) : Int) - 1 = (n : Int) := by omega
  have e2 : (n : Int) < ((n + 1 : Nat) : Int) := by omega
  go_wp2_with fail
  go_quiet (fail)
  go_wp2_with fail
  go_ret
  exact ⟨rfl, below_drewN HW2.out _⟩

theorem quiet_lookup {P : Program} {o : Oper} {a : Act} {C : World → Prop} {K : Act → Prop} (t : TypeId) (m k : Operand) (ok : Bool) (ho : o.op = .lookup t m k ok) (vm vk : Value) (hm : a.eval m = vm) (hk : a.eval k = vk) (v : Value)
    (hv : ∀ w, C w → (Instr.lookup t vm vk ok).run P w = .ok v w) (hk : K (a.put o.dst v)) : o.quiet P a C K :=
  ⟨v, fun w hw => by
    subst hm
    rename_i hkk
    subst hkk
    unfold Oper.quietAt execOp
    simp [ho, Result.andThen, hv w hw, Oper.quietUpon], hk⟩

set_option maxRecDepth 100000 in
set_option maxHeartbeats 1000000 in
theorem placeOf_known (B M : Nat) (p u : Value) (f r : Nat → Int) (rows : List (Nat → Int)) (k : Nat) (q : Value) (w : World) (hB : BookAt w B p u M f) (hs : sameRow r f = false) (hM : MapAt w M rows) (hr : ByteF r) (hk : k < rows.length) (hsk : sameRow rows[k]! r = true) :
    Calls Tryd.prog 69 #[.pointer (some ⟨B, 0, none⟩), .agg (rowA r), q] w fun x w' => x = .returned (.int .i64 k) ∧ RowKit.Below w.heap.size w w' := by
  have HB := Lib.hid hB
  have HS := Lib.hid hs
  have HM := Lib.hid hM
  have HLK := Lib.hid (fun W (hW : RowKit.Below w.heap.size w W) => (hM.below hW).look_yes hr hk hsk)
  clear hB hs hM hr hk hsk
  go_enter Tryd.func69, Tryd.ntmps69
  go_wp2_with fail
  obtain ⟨wa, hwa⟩ : ∃ wa, wa = w.alloc (.cells (rowA r) 60) := ⟨_, rfl⟩
  have HX := Lib.hid (show RowU wa w.heap.size r by rw [hwa]; exact heap_alloc_last _ _)
  have HA := Lib.hid (show RowKit.Below w.heap.size w wa by rw [hwa]; exact (Below.refl _ _).alloc (Nat.le_refl _) _)
  have HBA := Lib.hid (HB.out.below HA.out)
  have heq := fun W => equalIn_row r f W
  have heq2 := fun W => eql_row r f W
  rw [HS.out] at heq heq2
  rw [← hwa]
  clear hwa
  refine wp_region_bw (by kernel_rfl) (by kernel_rfl) ?_
  refine BigFrame.wpQuiet_want rfl (fun K hK => quiet_loadv 60 (.tmp 4) rfl ⟨w.heap.size, 0, none⟩ rfl (.agg (rowA r)) (fun w' hw' => by obtain ⟨t, rfl⟩ := hw'; exact rowU_load (HX.out.below t.h)) (hK _ ?_))
  simp only [Act.put, List.setIfInBounds_toArray, List.set_cons_succ, List.set_cons_zero]
  repeat (go_big_quiet_step (fail))
  refine BigFrame.wpQuiet_want rfl (fun K hK => quiet_loadv 60 (.tmp 12) rfl ⟨B, 3, none⟩ rfl (.agg (rowA f)) (fun w' hw' => by obtain ⟨t, rfl⟩ := hw'; exact book_load (HBA.out.below t.h)) (hK _ ?_))
  simp only [Act.put, List.setIfInBounds_toArray, List.set_cons_succ, List.set_cons_zero]
  repeat (go_big_quiet_step (fail))
  refine wpQuiet_nil ?_
  rintro _ ⟨t, rfl⟩
  obtain ⟨w2, hw2⟩ : ∃ w2, w2 = t.W := ⟨_, rfl⟩
  have HX2 := Lib.hid (show RowU w2 w.heap.size r by rw [hw2]; exact HX.out.below t.h)
  have HB2 := Lib.hid (show BookAt w2 B p u M f by rw [hw2]; exact HBA.out.below t.h)
  have HW2 := Lib.hid (show RowKit.Below w.heap.size w w2 by rw [hw2]; exact HA.out.trans (t.h.mono HA.out.size))
  rw [← hw2]
  clear hw2 heq heq2
  clear t
  have d2 := HB2.out.c2
  have hbl := HB2.out.lt
  have c2 := fun p : BW w2 => p.cell (a := ⟨B, 2, none⟩) hbl d2
  go_wp2_with fail
  refine wp_region_bw (by kernel_rfl) (by kernel_rfl) ?_
  repeat (go_big_quiet_step (fail))
  refine BigFrame.wpQuiet_want rfl (fun K hK => quiet_loadv 60 (.tmp 4) rfl ⟨w.heap.size, 0, none⟩ rfl (.agg (rowA r)) (fun w' hw' => by obtain ⟨t, rfl⟩ := hw'; exact rowU_load (HX2.out.below t.h)) (hK _ ?_))
  simp only [Act.put, List.setIfInBounds_toArray, List.set_cons_succ, List.set_cons_zero]
  refine BigFrame.wpQuiet_want rfl (fun K hK => quiet_lookup 62 (.tmp 31) (.tmp 32) true rfl (.map (some M)) (.agg (rowA r)) rfl rfl (.tuple #[.int .i64 k, .bool true]) (fun w' hw' => by obtain ⟨t, rfl⟩ := hw'; exact HLK.out _ (HW2.out.trans (t.h.mono HW2.out.size))) (hK _ ?_))
  simp only [Act.put, List.setIfInBounds_toArray, List.set_cons_succ, List.set_cons_zero]
  repeat (go_big_quiet_step (fail))
  refine wpQuiet_nil ?_
  rintro _ ⟨t, rfl⟩
  have HW3 := Lib.hid (HW2.out.trans (t.h.mono HW2.out.size))
  go_wp2_with fail
  go_ret
  exact ⟨rfl, HW3.out⟩
end Go.Proofs.YtmhloojnekjfhaaDoor
