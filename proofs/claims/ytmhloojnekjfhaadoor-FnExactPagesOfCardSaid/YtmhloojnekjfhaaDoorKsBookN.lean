
/- The book's places: a row that is new (under way). -/
import Derived.Test.YtmhloojnekjfhaaDoorKsBookW
import Derived.Test.YtmhloojnekjfhaaDoorKsTabI
import Derived.StillTailTactics
import Derived.Deep.RegionLaw
namespace Go.Proofs.YtmhloojnekjfhaaDoor
open Go.RowKit Go.Shelf Go.Lib Go.Sort

/-- A whole variable read, at a head's step. -/
theorem still_loadv {P : Program} {o : Oper} {a : Act} {w : World} {K : Act → Prop} (ty : TypeId) (x : Operand) (ho : o.op = .load ty x) (ad : Addr) (hx : a.eval x = .pointer (some ad)) (v : Value)
    (hv : (loadVar ty ad).run P w = .ok v w) (hk : K (a.put o.dst v)) : o.still P a w K := by
  unfold Oper.still execOp
  simp [ho, hx, Instr.loadAt, Instr.sureAddr, Result.andThen, hv, Oper.stillUpon]
  exact hk
theorem wpStill_want {P : Program} {ops : Array Oper} {w : World} {Q : Act → Prop} {a : Act} {o : Oper} {rest : List Oper} (hw : Region.wanted o (yielded ops a.tmps) = true) (h : ∀ K : Act → Prop, (∀ a, wpStill P ops w Q rest a → K a) → o.still P a w K) : wpStill P ops w Q (o :: rest) a :=
  wpStill_step fun K hK => by rw [if_pos hw]; exact h K hK
/-- A map's update, at the list of a region's operations. -/
theorem wpList_mapUpdate {P : Program} {ops : Array Oper} {rest : List Oper} {o : Oper} {a : Act} {w w' : World} {Q : Exit → Act → World → Prop} (hgd : o.guard = none) (t : TypeId) (m k v : Operand) (ho : o.op = .mapUpdate t m k v) (vm vk vv : Value) (hm : a.eval m = vm) (hk : a.eval k = vk) (hvv : a.eval v = vv)
    (hrun : (Instr.mapUpdate t vm vk vv).run P w = .ok () w') (h : wpList P ops Q rest (a.put o.dst undef) w') : wpList P ops Q (o :: rest) a w :=
  wpList_plain hgd fun K hK => by
    subst hm hk hvv
    unfold Oper.wp execOp
    simp [ho, hrun, Result.andThen]
    exact hK _ _ h
theorem BookAt.kept {W W' : World} {B : Nat} {p u : Value} {M : Nat} {f : Nat → Int} {row : Option Nat} (h : BookAt W B p u M f) (hg : W.grownBy W' row) (hne : some B ≠ row) : BookAt W' B p u M f := by
  have hb := hg.block B h.lt hne
  have hc : ∀ j, W'.cell? ⟨B, j, none⟩ = W.cell? ⟨B, j, none⟩ := fun j => World.cell?_of_block (w := W) hb
  have hf : ∀ j, W'.frozen? ⟨B, j, none⟩ = W.frozen? ⟨B, j, none⟩ := fun j => by simp [World.frozen?, hb]
  exact ⟨(hc 0).trans h.c0, (hc 1).trans h.c1, (hc 2).trans h.c2, fun j v hj => (hc _).trans (h.row j v hj), (hf 0).trans h.f0, (hf 1).trans h.f1, fun j hj => ⟨by rw [hc]; exact (h.f3 j hj).1, (hf _).trans (h.f3 j hj).2⟩, Nat.lt_of_lt_of_le h.lt hg.size⟩
theorem BookAt.setP {W : World} {B : Nat} {p u : Value} {M : Nat} {f : Nat → Int} (h : BookAt W B p u M f) (p' : Value) : BookAt (W.setCell ⟨B, 0, none⟩ p') B p' u M f := by
  have hc : ∀ j, j ≠ 0 → (W.setCell ⟨B, 0, none⟩ p').cell? ⟨B, j, none⟩ = W.cell? ⟨B, j, none⟩ := fun j hj => World.cell?_setCell_other _ _ _ _ (fun e => hj (by cases e; rfl))
  exact ⟨World.cell?_setCell_same _ _ _ h.c0, (hc 1 (by decide)).trans h.c1, (hc 2 (by decide)).trans h.c2, fun j v hj => (hc _ (by omega)).trans (h.row j v hj), by rw [World.frozen?_setCell]; exact h.f0, by rw [World.frozen?_setCell]; exact h.f1,
    fun j hj => ⟨by rw [hc _ (by omega)]; exact (h.f3 j hj).1, by rw [World.frozen?_setCell]; exact (h.f3 j hj).2⟩, by rw [World.size_setCell]; exact h.lt⟩
theorem step_append_atB {P : Program} {ops : Array Oper} {o : Oper} {a : Act} {K : Act → World → Prop} {Q : Exit → Act → World → Prop} {E : Prop} (w : World) (hgd : o.guard = none) (s x : Operand) (t : TypeId)
    (ho : o.op = .call { callee := .builtin .append, args := #[s, x], argTypes := #[t, t] })
    (base : Nat) (e : TypeId) (i : TypeInfo) (z : Value) (size bytes : Nat) (ht : P.underlying t = some (.slice e)) (hi : P.info? e = some i) (hz : i.zero = some z)
    (hsize : i.size = size) (hby : i.bytes = bytes) (hzs : z.cells.size = size) (hsz : 0 < size)
    (v : Value) (n : Nat) (xs : List Value) (hs : a.eval s = v) (hown : w.ownsRow base e size v n xs)
    (ad : Addr) (m c : Nat) (news : List Value) (hx : a.eval x = .slice (some ad) m c) (hl : news.length = m * size) (hnews : ∀ j u, news[j]? = some u → w.cell? (ad.add j) = some u) (h1 : ∀ u ∈ news, u.oneCell' = true)
    (h63 : n + m ≤ maxLen) (hbytes : (n + m) * bytes ≤ 140737488355328) (hbase : base ≤ w.heap.size) (hm : 0 < m)
    (h : ∀ v' w', w'.ownsRow base e size v' (n + m) (xs ++ news) → w.grownBy w' v.ownBlock → (v'.ownBlock = v.ownBlock ∨ v'.ownBlock = some w.heap.size) → K (a.put o.dst v') w') :
    if Region.wanted o (yielded ops a.tmps) = true then Oper.wp P o a w K Q else E := by
  have hw : Region.wanted o (yielded ops a.tmps) = true := by simp [Region.wanted, hgd]
  rw [if_pos hw]
  obtain ⟨v', w', hr, h2, h3, h4⟩ := run_append_at (P := P) w base t o.type e i z size bytes ht hi hz hsize hby hzs hsz v n xs hown ad m c news hl hnews h1 h63 hbytes hbase hm
  unfold Oper.wp execOp
  simp only [ho, resolve, invoke, builtin, Sem.run_bind, Sem.run_pure, Result.andThen_ok, List.map_toArray, List.map_cons, List.map_nil, hs, hx, hr]
  exact h v' w' h2 h3 h4
theorem slice_of_owns {w : World} {base size n : Nat} {e : TypeId} {v : Value} {xs : List Value} (h : w.ownsRow base e size v n xs) : ∃ p c, v = .slice p n c := by
  rcases h.2 with ⟨h0, h1⟩ | ⟨g, cap, cur, h0, _⟩
  · exact ⟨none, 0, by rw [h0, h1]⟩
  · exact ⟨_, _, h0⟩
/-- All blocks but some are as they were. -/
structure Frm (S : Nat → Prop) (W W' : World) : Prop where
  os : W'.os = W.os
  tape : W'.tape = W.tape
  output : W'.output = W.output
  size : W.heap.size ≤ W'.heap.size
  block : ∀ g, g < W.heap.size → ¬ S g → W'.heap[g]? = W.heap[g]?
theorem Frm.of_grown {S : Nat → Prop} {A W W' : World} {row : Option Nat} (h : Frm S A W) (hg : W.grownBy W' row) (hr : ∀ g, row = some g → S g ∨ A.heap.size ≤ g) : Frm S A W' :=
  ⟨hg.os.trans h.os, hg.tape.trans h.tape, hg.output.trans h.output, Nat.le_trans h.size hg.size, fun g hl hs => (hg.block g (Nat.lt_of_lt_of_le hl h.size) (fun e => by rcases hr g e.symm with h1 | h1; exact hs h1; omega)).trans (h.block g hl hs)⟩
theorem Frm.of_below {S : Nat → Prop} {A W : World} (h : RowKit.Below A.heap.size A W) : Frm S A W := ⟨h.os, h.tape, h.output, h.size, fun g hl _ => h.block g hl⟩

set_option maxRecDepth 100000 in
set_option maxHeartbeats 2000000 in
theorem placeOf_new (B M A base ln sz cp : Nat) (pv : Option Addr) (u : Value) (cv : Nat) (d : Array CaseD) (L : List ByteArray) (f r : Nat → Int) (rows : List (Nat → Int)) (w : World) (hB : BookAt w B (.slice pv L.length cv) u M f) (hs : sameRow r f = false) (hM : MapAt w M rows) (hr : ByteF r) (hall : ∀ k, k < rows.length → ByteF rows[k]!) (hno : ∀ k, k < rows.length → sameRow rows[k]! r = false) (hl : rows.length = L.length) (hL : L.length ≤ 32) (hMB : M ≠ B)
    (hP : OwnsT base (.slice pv L.length cv) L w) (hb : base ≤ w.heap.size) (hPM : (Value.slice pv L.length cv).ownBlock ≠ some M) (hPB : (Value.slice pv L.length cv).ownBlock ≠ some B) (hA : RowU w A (goB d)) (hAM : A ≠ M) (hsz : ln + sz ≤ 32) :
    Calls Tryd.prog 69 #[.pointer (some ⟨B, 0, none⟩), .agg (rowA r), .slice (some ⟨A, ln, none⟩) sz cp] w fun x w' => x = .returned (.int .i64 L.length) ∧
      ∃ v', OwnsT base v' (L ++ [tabS d ln sz]) w' ∧ MapAt w' M (rows ++ [r]) ∧ BookAt w' B v' u M f ∧ (v'.ownBlock = (Value.slice pv L.length cv).ownBlock ∨ ∃ z, w.heap.size ≤ z ∧ v'.ownBlock = some z) ∧ Frm (fun g => g = M ∨ g = B ∨ (Value.slice pv L.length cv).ownBlock = some g) w w' := by
  have HP := Lib.hid hP
  have HPM := Lib.hid hPM
  have HPB := Lib.hid hPB
  have HA0 := Lib.hid hA
  have HAM := Lib.hid hAM
  have HMB := Lib.hid hMB
  clear hP hPM hPB hA hAM hMB
  have HB := Lib.hid hB
  have HS := Lib.hid hs
  have HM := Lib.hid hM
  have HLK := Lib.hid (fun W (hW : RowKit.Below w.heap.size w W) => (hM.below hW).look_no hr hno)
  have HPUT := Lib.hid (fun W (hW : RowKit.Below w.heap.size w W) => (hM.below hW).put hr hall hno (by omega))
  rw [hl] at HPUT
  clear hB hs hM hr hall hno hl
  go_enter Tryd.func69, Tryd.ntmps69
  go_wp2_with fail
  obtain ⟨wa, hwa⟩ : ∃ wa, wa = w.alloc (.cells (rowA r) 60) := ⟨_, rfl⟩
  have HX := Lib.hid (show RowU wa w.heap.size r by rw [hwa]; exact heap_alloc_last _ _)
  have HA := Lib.hid (show RowKit.Below w.heap.size w wa by rw [hwa]; exact (Below.refl _ _).alloc (Nat.le_refl _) _)
  have HBA := Lib.hid (HB.out.below HA.out)
  have heq := fun W => equalIn_row r f W
  have heq2 := fun W => eql_row r f W
  rw [HS.out] at heq heq2
  rw [← hwa]
  clear hwa
  refine wp_region_bw (by kernel_rfl) (by kernel_rfl) ?_
  refine BigFrame.wpQuiet_want rfl (fun K hK => quiet_loadv 60 (.tmp 4) rfl ⟨w.heap.size, 0, none⟩ rfl (.agg (rowA r)) (fun w' hw' => by obtain ⟨t, rfl⟩ := hw'; exact rowU_load (HX.out.below t.h)) (hK _ ?_))
  simp only [Act.put, List.setIfInBounds_toArray, List.set_cons_succ, List.set_cons_zero]
  repeat (go_big_quiet_step (fail))
  refine BigFrame.wpQuiet_want rfl (fun K hK => quiet_loadv 60 (.tmp 12) rfl ⟨B, 3, none⟩ rfl (.agg (rowA f)) (fun w' hw' => by obtain ⟨t, rfl⟩ := hw'; exact book_load (HBA.out.below t.h)) (hK _ ?_))
  simp only [Act.put, List.setIfInBounds_toArray, List.set_cons_succ, List.set_cons_zero]
  repeat (go_big_quiet_step (fail))
  refine wpQuiet_nil ?_
  rintro _ ⟨t, rfl⟩
  obtain ⟨w2, hw2⟩ : ∃ w2, w2 = t.W := ⟨_, rfl⟩
  have HX2 := Lib.hid (show RowU w2 w.heap.size r by rw [hw2]; exact HX.out.below t.h)
  have HB2 := Lib.hid (show BookAt w2 B (.slice pv L.length cv) u M f by rw [hw2]; exact HBA.out.below t.h)
  have HW2 := Lib.hid (show RowKit.Below w.heap.size w w2 by rw [hw2]; exact HA.out.trans (t.h.mono HA.out.size))
  rw [← hw2]
  clear hw2 heq heq2
  clear t
  have d2 := HB2.out.c2
  have hbl := HB2.out.lt
  have c2 := fun p : BW w2 => p.cell (a := ⟨B, 2, none⟩) hbl d2
  obtain ⟨v0, hv0⟩ : ∃ v0 : Value, ∀ W, RowKit.Below w.heap.size w W → (Instr.lookup 62 (.map (some M)) (.agg (rowA r)) true).run Tryd.prog W = .ok (.tuple #[v0, .bool false]) W := ⟨.int .i64 0, HLK.out⟩
  go_wp2_with fail
  refine wp_region_bw (by kernel_rfl) (by kernel_rfl) ?_
  repeat (go_big_quiet_step (fail))
  refine BigFrame.wpQuiet_want rfl (fun K hK => quiet_loadv 60 (.tmp 4) rfl ⟨w.heap.size, 0, none⟩ rfl (.agg (rowA r)) (fun w' hw' => by obtain ⟨t, rfl⟩ := hw'; exact rowU_load (HX2.out.below t.h)) (hK _ ?_))
  simp only [Act.put, List.setIfInBounds_toArray, List.set_cons_succ, List.set_cons_zero]
  refine BigFrame.wpQuiet_want rfl (fun K hK => quiet_lookup 62 (.tmp 31) (.tmp 32) true rfl (.map (some M)) (.agg (rowA r)) rfl rfl (.tuple #[v0, .bool false]) (fun w' hw' => by obtain ⟨t, rfl⟩ := hw'; exact hv0 _ (HW2.out.trans (t.h.mono HW2.out.size))) (hK _ ?_))
  simp only [Act.put, List.setIfInBounds_toArray, List.set_cons_succ, List.set_cons_zero]
  repeat (go_big_quiet_step (fail))
  refine wpQuiet_nil ?_
  rintro _ ⟨t, rfl⟩
  obtain ⟨w3, hw3⟩ : ∃ w3, w3 = t.W := ⟨_, rfl⟩
  have HX3 := Lib.hid (show RowU w3 w.heap.size r by rw [hw3]; exact HX2.out.below t.h)
  have HB3 := Lib.hid (show BookAt w3 B (.slice pv L.length cv) u M f by rw [hw3]; exact HB2.out.below t.h)
  have HW3 := Lib.hid (show RowKit.Below w.heap.size w w3 by rw [hw3]; exact HW2.out.trans (t.h.mono HW2.out.size))
  rw [← hw3]
  clear hw3 c2 d2
  clear t
  have e0 := HB3.out.c0
  have e2 := HB3.out.c2
  go_wp2_with fail
  refine wp_region_still_tail 6 (by kernel_rfl) (by kernel_rfl) ?_
  simp only [List.take_succ_cons, List.take_zero, List.drop_succ_cons, List.drop_zero]
  obtain ⟨w4, hw4⟩ : ∃ w4 : World, w4 = { w3 with drawn := w3.drawn + 1 } := ⟨_, rfl⟩
  rw [← hw4]
  have HX4 := Lib.hid (show RowU w4 w.heap.size r by rw [hw4]; exact HX3.out)
  have HB4 := Lib.hid (show BookAt w4 B (.slice pv L.length cv) u M f by rw [hw4]; exact HB3.out.below ((Below.refl _ _).drew))
  have HW4 := Lib.hid (show RowKit.Below w.heap.size w w4 by rw [hw4]; exact HW3.out.drew)
  clear hw4 e0 e2
  have e2 := HB4.out.c2
  repeat still_step
  refine wpStill_want rfl (fun K hK => still_loadv 60 (.tmp 4) rfl ⟨w.heap.size, 0, none⟩ rfl (.agg (rowA r)) (rowU_load HX4.out) (hK _ ?_))
  simp only [Act.put, List.setIfInBounds_toArray, List.set_cons_succ, List.set_cons_zero]
  repeat still_step
  refine wpStill_nil ?_
  obtain ⟨w5, hrun, hM5, hg5⟩ := HPUT.out w4 HW4.out
  refine wpList_mapUpdate rfl 62 (.tmp 46) (.tmp 47) (.tmp 48) rfl (.map (some M)) (.agg (rowA r)) (.int .i64 L.length) rfl rfl rfl hrun ?_
  simp only [Act.put]
  have HB5 := Lib.hid (HB4.out.kept hg5 (fun e => HMB.out (Option.some.inj e).symm))
  have HA5 := Lib.hid ((HA0.out.below HW4.out).kept hg5 (fun e => HAM.out (Option.some.inj e)))
  have HP5 := Lib.hid (show OwnsT _ _ _ _ from World.ownsRow.kept (owns_below HP.out HW4.out) hg5 (.inr HPM.out))
  have HM5 := Lib.hid hM5
  have HF5 := Lib.hid ((Frm.of_below (S := fun g => g = M ∨ g = B ∨ (Value.slice pv L.length cv).ownBlock = some g) HW4.out).of_grown hg5 (fun g e => .inl (.inl (Option.some.inj e).symm)))
  have hz5 := hg5.size
  clear hM5 hg5 hrun e2
  go_wp2_with fail
  have hbd : RowKit.Below w5.heap.size w5 w5.drew := (Below.refl _ _).drew
  have HB6 := Lib.hid (HB5.out.below hbd)
  have HP6 := Lib.hid (show OwnsT _ _ _ _ from owns_below HP5.out hbd)
  have hconv := fun W (hW : RowU W A (goB d)) => conv_row d A ln sz cp hsz W hW
  have hc1 := conv_row d A ln sz cp hsz w5.drew (HA5.out.below hbd)
  have e0 := HB5.out.c0
  have e0f := HB5.out.f0
  have hBl := HB5.out.lt
  have hbase5 : base ≤ w5.heap.size := by have := HF5.out.size; omega
  have hw5 : w.heap.size ≤ w5.heap.size := HF5.out.size
  obtain ⟨i0, hi, hi0, hi1, hi2⟩ := info_parts infoStr
  clear hbd hconv
  go_region_law (refine step_append_atB _ (by rfl) (.tmp 53) (.tmp 56) 28 (by rfl) base 9 i0 (.string ⟨#[]⟩) 1 16 Tryd.underlying28 hi hi0 hi1 hi2 rfl (by decide) (.slice pv L.length cv) L.length (L.map encS) (by rfl) (World.ownsRow.alloc HP6.out _) ⟨w5.heap.size, 0, none⟩ 1 1 [.string (tabS d ln sz)] (by first | rfl | (go_simp; done)) rfl (cell1At (by simp [go_sem])) (fun u hu => by simp at hu; subst hu; rfl) (by unfold maxLen; omega) (by omega) (by simp; omega) (by decide) ?_; intro v1 w7 hown7 hgrow7 hat7; obtain ⟨p1, c1, rfl⟩ := slice_of_owns hown7; have HO7 := Lib.hid hown7; have HG7 := Lib.hid hgrow7; have HT7 := Lib.hid hat7; have hbl7 : RowKit.Below w5.heap.size w5 (w5.alloc (.cells #[.string (tabS d ln sz)] 9)).drew := ((Below.refl _ _).alloc (Nat.le_refl _) _).drew; have HBL7 := Lib.hid hbl7; have HB7 := Lib.hid ((HB5.out.below hbl7).kept hgrow7 (Ne.symm HPB.out)); have k0 := HB7.out.c0; have k0f := HB7.out.f0; have k0l := HB7.out.lt; clear hbl7; clear hown7 hgrow7 hat7)
  all_goals
    obtain ⟨v1, hv1⟩ : ∃ v1, v1 = Value.slice p1 (L.length + 1) c1 := ⟨_, rfl⟩
    rw [← hv1] at HO7 HT7 ⊢
    have hvB : v1.ownBlock ≠ some B := fun e => by
      rcases HT7.out with h | h
      · exact HPB.out (h.symm.trans e)
      · rw [h] at e
        have := Option.some.inj e
        simp at this
        omega
    have hs7 := grownBy_setCellK w7 B 0 v1
    have HO8 := Lib.hid (show OwnsT base v1 (L ++ [tabS d ln sz]) (w7.setCell ⟨B, 0, none⟩ v1) by
      unfold OwnsT
      rw [List.length_append, List.map_append]
      exact World.ownsRow.kept HO7.out hs7 (.inr hvB))
    have HM8 := Lib.hid (((HM5.out.below HBL7.out).kept HG7.out (Ne.symm HPM.out)).kept hs7 (fun e => HMB.out (Option.some.inj e)))
    have HB8 := Lib.hid (HB7.out.setP v1)
    have HF8 := Lib.hid (((HF5.out.of_grown (row := none) (grown_of_below HBL7.out) (fun g e => by cases e)).of_grown HG7.out (fun g e => .inl (.inr (.inr e)))).of_grown hs7 (fun g e => .inl (.inr (.inl (Option.some.inj e).symm))))
    have HV8 := Lib.hid (show v1.ownBlock = (Value.slice pv L.length cv).ownBlock ∨ ∃ z, w.heap.size ≤ z ∧ v1.ownBlock = some z by
      rcases HT7.out with h | h
      · exact .inl h
      · exact .inr ⟨_, by simp; omega, h⟩)
    clear hs7 hvB
    go_wp2_with fail
    go_ret
    exact ⟨rfl, _, HO8.out, HM8.out, HB8.out, HV8.out, HF8.out⟩
end Go.Proofs.YtmhloojnekjfhaaDoor
