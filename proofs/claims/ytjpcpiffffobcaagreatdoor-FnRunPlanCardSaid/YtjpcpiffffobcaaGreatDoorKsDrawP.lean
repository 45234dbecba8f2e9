
/- The draws of chapter 8: a switch and a cluster. · The draws of chapter 8: a switch and two indices; a switch and mostly a plan of it. · The draws of chapter 8: a switch and mostly a plan of it. · The draws of chapter 8: a switch, mostly a plan of it, and a key. -/
import Derived.Test.YtjpcpiffffobcaaGreatDoorKsDrawM
import Derived.Test.YtjpcpiffffobcaaGreatDoorKsClu
import Derived.Test.YtjpcpiffffobcaaGreatDoorKsSteps
import Derived.Test.YtjpcpiffffobcaaGreatDoorKsBp
import Derived.Lib.MinMax
namespace Go.Proofs.YtjpcpiffffobcaaGreatDoor
open Go.RowKit Go.Shelf Go.Lib Go.Sort

/-- A block that holds a cluster. -/
def BoxQ (W : World) (B : Nat) (f l : Int) (k : ByteArray) : Prop := W.heap[B]? = some (.cells #[.int .i64 f, .int .i64 l, .string k] 45 (0, 0))
theorem BoxQ.new (W : World) (f l : Int) (k : ByteArray) : BoxQ (W.alloc (.cells #[.int .i64 f, .int .i64 l, .string k] 45)) W.heap.size f l k := World.alloc_heap_new W _
section
variable {W W' : World} {B : Nat} {f l : Int} {k : ByteArray}
theorem BoxQ.lt (h : BoxQ W B f l k) : B < W.heap.size := (Array.getElem?_eq_some_iff.1 h).1
theorem BoxQ.kept {row : Option Nat} (h : BoxQ W B f l k) (hg : W.grownBy W' row) (hne : some B ≠ row) : BoxQ W' B f l k := (hg.block B h.lt hne).trans h
theorem BoxQ.c0 (h : BoxQ W B f l k) : W.cell? ⟨B, 0, none⟩ = some (.int .i64 f) := by simp [World.cell?, show W.heap[B]? = _ from h]
theorem BoxQ.c1 (h : BoxQ W B f l k) : W.cell? ⟨B, 1, none⟩ = some (.int .i64 l) := by simp [World.cell?, show W.heap[B]? = _ from h]
theorem BoxQ.c2 (h : BoxQ W B f l k) : W.cell? ⟨B, 2, none⟩ = some (.string k) := by simp [World.cell?, show W.heap[B]? = _ from h]
theorem BoxQ.z (h : BoxQ W B f l k) (o : Nat) : W.frozen? ⟨B, o, none⟩ = false := by simp [World.frozen?, show W.heap[B]? = _ from h]
theorem BoxQ.s0 (h : BoxQ W B f l k) (u : Int) : BoxQ (W.setCell ⟨B, 0, none⟩ (.int .i64 u)) B u l k := by
  obtain ⟨hlt, hk⟩ := Array.getElem?_eq_some_iff.1 h
  show (W.heap.modify B _)[B]? = _
  rw [Array.getElem?_eq_getElem (by rw [Array.size_modify]; exact hlt), Array.getElem_modify_self, hk]
  simp
theorem BoxQ.s1 (h : BoxQ W B f l k) (u : Int) : BoxQ (W.setCell ⟨B, 1, none⟩ (.int .i64 u)) B f u k := by
  obtain ⟨hlt, hk⟩ := Array.getElem?_eq_some_iff.1 h
  show (W.heap.modify B _)[B]? = _
  rw [Array.getElem?_eq_getElem (by rw [Array.size_modify]; exact hlt), Array.getElem_modify_self, hk]
  simp
theorem BoxQ.s2 (h : BoxQ W B f l k) (u : ByteArray) : BoxQ (W.setCell ⟨B, 2, none⟩ (.string u)) B f l u := by
  obtain ⟨hlt, hk⟩ := Array.getElem?_eq_some_iff.1 h
  show (W.heap.modify B _)[B]? = _
  rw [Array.getElem?_eq_getElem (by rw [Array.size_modify]; exact hlt), Array.getElem_modify_self, hk]
  simp
theorem BoxQ.put (h : BoxQ W B f l k) (f' l' : Int) (k' : ByteArray) :
    BoxQ (((W.setCell ⟨B, 0, none⟩ (.int .i64 f')).setCell ⟨B, 1, none⟩ (.int .i64 l')).setCell ⟨B, 2, none⟩ (.string k')) B f' l' k' := ((h.s0 f').s1 l').s2 k'
theorem grown_putQ (W : World) (B : Nat) (u x y : Value) : W.grownBy (((W.setCell ⟨B, 0, none⟩ u).setCell ⟨B, 1, none⟩ x).setCell ⟨B, 2, none⟩ y) (some B) :=
  ((grown_set W B 0 u).trans (grown_set (W.setCell ⟨B, 0, none⟩ u) B 1 x)).trans (grown_set _ B 2 y)
theorem kept5 {a c b : Nat} (h1 : a ≠ b) (h2 : c ≠ b) (u u' x y z : Value) (i : Nat) :
    (((((W.setCell ⟨a, 0, none⟩ u).setCell ⟨a, 1, none⟩ u').setCell ⟨c, 0, none⟩ x).setCell ⟨c, 1, none⟩ y).setCell ⟨c, 2, none⟩ z).cell? ⟨b, i, none⟩ = W.cell? ⟨b, i, none⟩ := by
  have e : ∀ (W : World) (d o : Nat) (v : Value), d ≠ b → (W.setCell ⟨d, o, none⟩ v).cell? ⟨b, i, none⟩ = W.cell? ⟨b, i, none⟩ := fun W d o v hd => World.cell?_setCell_other _ _ _ _ (fun e => hd (congrArg Addr.block e))
  rw [e _ _ _ _ h2, e _ _ _ _ h2, e _ _ _ _ h2, e _ _ _ _ h1, e _ _ _ _ h1]
end
theorem wrapQ {n : Int} (h0 : -10 ≤ n) (h1 : n ≤ 10000000) : IntKind.i64.wrap n = n := by rw [IntKind.wrap_i64]; omega
theorem of7q {z : ByteArray} (h : z ∈ [(⟨#[116, 101, 115, 116]⟩ : ByteArray), ⟨#[116, 97, 98, 108, 101]⟩, ⟨#[98, 105, 116, 115]⟩, (⟨#[116, 101, 115, 116]⟩ : ByteArray), ⟨#[116, 97, 98, 108, 101]⟩, ⟨#[116, 114, 101, 101]⟩, (⟨#[]⟩ : ByteArray)]) : z.size ≤ 5 := by
  simp only [List.mem_cons, List.not_mem_nil, or_false] at h
  rcases h with rfl | rfl | rfl | rfl | rfl | rfl | rfl <;> decide
set_option maxRecDepth 100000 in
set_option maxHeartbeats 1000000 in
theorem l8Kind_any (g p : Nat) (w : World) (h : RdAt w g p) (hp : p ≤ 50000) :
    Calls Tryz.prog 53 #[.pointer (some ⟨g, 0, none⟩)] w fun x w' => ∃ z : ByteArray, z.size ≤ 5 ∧ x = .returned (.string z) ∧ RdAt w' g (p + 1) ∧ w.grownBy w' (some g) := by
  have HOF := Lib.hid (show Calls Tryz.prog 74 #[.pointer (some ⟨g, 0, none⟩), .slice (some ⟨w.heap.size, 0, none⟩) 7 7] (w.alloc (.cells #[.string (⟨#[116, 101, 115, 116]⟩ : ByteArray), .string ⟨#[116, 97, 98, 108, 101]⟩, .string ⟨#[98, 105, 116, 115]⟩, .string (⟨#[116, 101, 115, 116]⟩ : ByteArray), .string ⟨#[116, 97, 98, 108, 101]⟩, .string ⟨#[116, 114, 101, 101]⟩, .string ⟨#[]⟩] 9)) _ from ofLit_any g p [(⟨#[116, 101, 115, 116]⟩ : ByteArray), ⟨#[116, 97, 98, 108, 101]⟩, ⟨#[98, 105, 116, 115]⟩, (⟨#[116, 101, 115, 116]⟩ : ByteArray), ⟨#[116, 97, 98, 108, 101]⟩, ⟨#[116, 114, 101, 101]⟩, ⟨#[]⟩] w h (by omega) (by simp) (by simp))
  clear h
  go_enter Tryz.func53, Tryz.ntmps53
  go_wp2_with fail
  refine HOF.out.mono ?_
  rintro x w2 ⟨z, hz, rfl, hR, hG⟩
  have HZ := Lib.hid (of7q hz)
  have HR := Lib.hid hR
  have HG := Lib.hid hG
  clear hz hR hG
  go_wp2_with fail
  go_ret
  exact ⟨z, HZ.out, rfl, HR.out, HG.out⟩
/-- A switch and a cluster have been drawn. -/
def DrewClu (w : World) (x : Ending) (w' : World) : Prop := ∃ (D : Array CaseD) (rest f l : Int) (k : ByteArray) (b cap : Nat), x = .returned (.tuple #[.agg #[.slice (some ⟨b, 0, none⟩) D.size cap, .int .i64 rest], .agg #[.int .i64 f, .int .i64 l, .string k]]) ∧ k.size ≤ 10 ∧ w.heap.size ≤ b ∧ RowC w' b 0 D ∧ D.size ≤ cap ∧ cap ≤ maxLen ∧ SmallSw D 9 ∧ RowKit.Below w.heap.size w w'
theorem DrewClu.mk {w : World} {x : Ending} {w' : World} (D : Array CaseD) (rest f l : Int) (k : ByteArray) (b cap : Nat) (h1 : x = .returned (.tuple #[.agg #[.slice (some ⟨b, 0, none⟩) D.size cap, .int .i64 rest], .agg #[.int .i64 f, .int .i64 l, .string k]])) (h0 : k.size ≤ 10) (hg : w.heap.size ≤ b) (h2 : RowC w' b 0 D) (h3 : D.size ≤ cap) (h4 : cap ≤ maxLen) (h5 : SmallSw D 9) (h6 : RowKit.Below w.heap.size w w') : DrewClu w x w' := ⟨D, rest, f, l, k, b, cap, h1, h0, hg, h2, h3, h4, h5, h6⟩
set_option maxRecDepth 100000 in
set_option maxHeartbeats 4000000 in
theorem drawPrice_any (v : Value) (m : Nat) (w : World) (hb : BytesAt w.heap.size w v m) (hm : m ≤ 1048576) :
    Calls Tryz.prog 17 #[v] w (DrewClu w) := by
  obtain ⟨wq, hwq⟩ : ∃ wq, wq = w.alloc (.cells #[.slice none 0 0, .int .i64 0] 32) := ⟨_, rfl⟩
  obtain ⟨wa, hwa⟩ : ∃ wa, wa = wq.alloc (.cells #[.int .i64 0, .int .i64 0, .string ⟨#[]⟩] 45) := ⟨_, rfl⟩
  have hzq : wq.heap.size = w.heap.size + 1 := by rw [hwq]; simp
  have HRX := Lib.hid (show BoxS wa w.heap.size (.slice none 0 0) 0 by rw [hwa]; exact (show BoxS wq w.heap.size (.slice none 0 0) 0 by rw [hwq]; exact BoxS.new _ _ _).kept (row := none) (World.grownBy_alloc _ _ _) (by simp))
  have HCX := Lib.hid (show BoxQ wa (w.heap.size + 1) 0 0 ⟨#[]⟩ by rw [hwa, ← hzq]; exact BoxQ.new _ _ _ _)
  have HBA := Lib.hid (show RowKit.Below w.heap.size w wa by rw [hwa, hwq]; exact ((Below.refl _ _).alloc (Nat.le_refl _) _).alloc (by simp) _)
  have hz : w.heap.size + 1 < wa.heap.size := HCX.out.lt
  have hba : BytesAt wa.heap.size wa v m := by
    rcases hb with h1 | ⟨b, off, cap, h1, h2, h3, h4⟩
    · exact .inl h1
    · refine .inr ⟨b, off, cap, h1, h2, by omega, fun j hj => ?_⟩
      obtain ⟨y, h5, h6⟩ := h4 j hj
      exact ⟨y, h5, (HBA.out.cell (p := ⟨b, off + j, none⟩) h3).trans h6⟩
  have HOP := Lib.hid (open_any v m wa hba hm)
  have HWQ := Lib.hid hwq
  have HWA := Lib.hid hwa
  clear hwa hwq hba hb hzq
  go_enter Tryz.func17, Tryz.ntmps17
  go_wp2_with fail
  rw [← HWQ.out, ← HWA.out]
  refine HOP.out.mono ?_
  rintro x w1 ⟨g, rfl, hgl, hR1, hb1⟩
  have HR1 := Lib.hid hR1
  have hgl2 := hR1.1
  have RX1 := Lib.hid (HRX.out.kept (grown_of_below hb1) (by simp))
  have CX1 := Lib.hid (HCX.out.kept (grown_of_below hb1) (by simp))
  have HB1 := Lib.hid (HBA.out.trans (hb1.mono (by omega)))
  have hz1 := hb1.size
  have HSM := Lib.hid (some_any g 0 w1 HR1.out (by omega))
  clear hR1 hb1
  go_wp2_with fail
  refine HSM.out.mono ?_
  rintro x w2 ⟨D, r, hs, ⟨u, rfl, ho, hv⟩, hR2, hG2⟩
  obtain ⟨gd, cd, rfl, hgd, hcd, hmd⟩ := owns_form ho hv
  have hDl : D.toList.length = D.size := Array.length_toList
  rw [hDl] at ho hv hcd
  have hRC : RowC w2 gd 0 D := by
    have := owns_row (n := D.size) (l := D.toList) ho
    rwa [Array.toArray_toList] at this
  have hz2 := hG2.size
  have HS := Lib.hid hs
  have RX2 := Lib.hid (RX1.out.kept hG2 (by simp; omega))
  have CX2 := Lib.hid (CX1.out.kept hG2 (by simp; omega))
  have HB2 := Lib.hid (below_drawn HB1.out hG2 (by omega) (by omega))
  obtain ⟨wb, hwb⟩ : ∃ wb, wb = w2.alloc (.cells #[.slice (some ⟨gd, 0, none⟩) D.size cd, .int .i64 r] 32) := ⟨_, rfl⟩
  have HBX := Lib.hid (show BoxS wb w2.heap.size (.slice (some ⟨gd, 0, none⟩) D.size cd) r by rw [hwb]; exact BoxS.new _ _ _)
  have HRB := Lib.hid (show RdAt wb g 100 by rw [hwb]; exact (hR2.le (by omega)).alloc _)
  have RXB := Lib.hid (show BoxS wb w.heap.size (.slice none 0 0) 0 by rw [hwb]; exact RX2.out.kept (row := none) (World.grownBy_alloc _ _ _) (by simp))
  have CXB := Lib.hid (show BoxQ wb (w.heap.size + 1) 0 0 ⟨#[]⟩ by rw [hwb]; exact CX2.out.kept (row := none) (World.grownBy_alloc _ _ _) (by simp))
  have HOB := Lib.hid (show RowC wb gd 0 D by rw [hwb]; exact hRC.below ((Below.refl _ _).alloc (Nat.le_refl _) _))
  have HBB := Lib.hid (show RowKit.Below w.heap.size w wb by rw [hwb]; exact HB2.out.alloc (by omega) _)
  have hzb : w2.heap.size < wb.heap.size := by rw [hwb]; simp
  have HWB := Lib.hid hwb
  clear hwb hRC hR2 hG2 hs ho hv
  go_wp2_with fail
  rw [← HWB.out]
  refine (pickR_any g 8 100 wb HRB.out (by omega) (by omega)).mono ?_
  rintro x w3 ⟨q, rfl, hq8, hR3, hG3⟩
  have hq8 := hq8 (by decide)
  have BX3 := Lib.hid (HBX.out.kept hG3 (by simp; omega))
  have RX3 := Lib.hid (RXB.out.kept hG3 (by simp; omega))
  have CX3 := Lib.hid (CXB.out.kept hG3 (by simp; omega))
  have HO3 := Lib.hid (HOB.out.keptD hG3 (by simp; omega))
  have HB3 := Lib.hid (below_drawn HBB.out hG3 (by omega) (by omega))
  have hz3 := hG3.size
  have HR3 := Lib.hid hR3
  clear hR3 hG3
  go_wp2_with fail
  refine (numLit_any g 101 [0, 1, (q : Int), 2, -1] w3 HR3.out (by omega) (by simp) (by simp)).mono ?_
  rintro x w4 ⟨z, hzm, rfl, hR4, hG4⟩
  have hzr : -1 ≤ z ∧ z ≤ 1000000 := by
    simp only [List.mem_cons, List.not_mem_nil, or_false] at hzm
    omega
  have BX4 := Lib.hid (BX3.out.kept hG4 (by simp; omega))
  have RX4 := Lib.hid (RX3.out.kept hG4 (by simp; omega))
  have CX4 := Lib.hid (CX3.out.kept hG4 (by simp; omega))
  have HO4 := Lib.hid (HO3.out.keptD hG4 (by simp; omega))
  have HB4 := Lib.hid (below_drawn HB3.out hG4 (by omega) (by omega))
  have hz4 := hG4.size
  have HR4 := Lib.hid hR4
  have x0 := BX4.out.c0
  have x1 := BX4.out.c1
  have r0 := RX4.out.c0
  have r1 := RX4.out.c1
  have f0 := RX4.out.z 0
  have f1 := RX4.out.z 1
  have c0 := CX4.out.c0
  have c1 := CX4.out.c1
  have c2 := CX4.out.c2
  have g0 := CX4.out.z 0
  have g1 := CX4.out.z 1
  have g2 := CX4.out.z 2
  have hxl := BX4.out.lt
  have hrl := RX4.out.lt
  have hcl := CX4.out.lt
  have hD9 : (D.size : Int) ≤ 9 := by have := HS.out.1; omega
  have HPK := Lib.hid (show Calls Tryz.prog 52 #[.pointer (some ⟨g, 0, none⟩), .int .i64 8] w4.drew _ from pickR_any g 8 102 w4.drew HR4.out.drew (by omega) (by omega))
  have HNL := Lib.hid (fun (W : World) (q2 : Nat) (hW : RdAt W g 103) => show Calls Tryz.prog 51 #[.pointer (some ⟨g, 0, none⟩), .slice (some ⟨W.heap.size, 0, none⟩) 5 5] (W.alloc (.cells #[.int .i64 z, .int .i64 (z + 1), .int .i64 (z + 2), .int .i64 q2, .int .i64 ((D.size : Int) - 1)] 3)) _ from numLit_any g 103 [z, z + 1, z + 2, (q2 : Int), (D.size : Int) - 1] W hW (by omega) (by simp) (by simp))
  have HKD := Lib.hid (fun (W : World) (hW : RdAt W g 104) => l8Kind_any g 104 W hW (by omega))
  have G4D := Lib.hid (show w4.grownBy w4.drew (some g) from ⟨rfl, rfl, rfl, Nat.le_refl _, fun _ _ _ => rfl⟩)
  clear hR4 hG4 hzm
  go_wp2_with fail
  have hS0 : (w4.drew.cell? ⟨w2.heap.size, 0, none⟩ = some (.slice (some ⟨gd, 0, none⟩) D.size cd) ∧ w4.drew.cell? ⟨w2.heap.size, 1, none⟩ = some (.int .i64 r)) := ⟨by simpa using x0, by simpa using x1⟩
  refine wp_region_till (fun W => W.cell? ⟨w2.heap.size, 0, none⟩ = some (.slice (some ⟨gd, 0, none⟩) D.size cd) ∧ W.cell? ⟨w2.heap.size, 1, none⟩ = some (.int .i64 r)) 20 (by kernel_rfl) ?_
  refine wpTill_take (i := 0) (oi := ⟨some 16, .load 32 (.tmp 5), _, _, _, none⟩) (v := (.agg #[(.slice (some ⟨gd, 0, none⟩) D.size cd), .int .i64 r])) rfl (by kernel_rfl) (by kernel_rfl) (by kernel_rfl) (by kernel_rfl) (fun _ _ _ h => h) (.inl ⟨by rfl, fun W hW => by have h0 := hW.1; have h1 := hW.2; go_simp⟩) hS0 ?_
  try simp only [Act.put, List.setIfInBounds_toArray, List.set_cons_zero, List.set_cons_succ]
  refine wpTill_take (i := 1) (oi := ⟨some 17, .move (.tmp 6), _, _, _, none⟩) (v := (.int .i64 z)) rfl (by kernel_rfl) (by kernel_rfl) (by kernel_rfl) (by kernel_rfl) (fun _ _ _ h => h) (.inl ⟨by rfl, fun W hW => by go_simp⟩) hS0 ?_
  try simp only [Act.put, List.setIfInBounds_toArray, List.set_cons_zero, List.set_cons_succ]
  refine wpTill_take (i := 2) (oi := ⟨some 18, .move (.tmp 4), _, _, _, none⟩) (v := (.pointer (some ⟨g, 0, none⟩))) rfl (by kernel_rfl) (by kernel_rfl) (by kernel_rfl) (by kernel_rfl) (fun _ _ _ h => h) (.inl ⟨by rfl, fun W hW => by go_simp⟩) hS0 ?_
  try simp only [Act.put, List.setIfInBounds_toArray, List.set_cons_zero, List.set_cons_succ]
  refine wpTill_take (i := 3) (oi := ⟨some 19, .move (.tmp 6), _, _, _, none⟩) (v := (.int .i64 z)) rfl (by kernel_rfl) (by kernel_rfl) (by kernel_rfl) (by kernel_rfl) (fun _ _ _ h => h) (.inl ⟨by rfl, fun W hW => by go_simp⟩) hS0 ?_
  try simp only [Act.put, List.setIfInBounds_toArray, List.set_cons_zero, List.set_cons_succ]
  refine wpTill_take (i := 4) (oi := ⟨some 20, .move (.tmp 6), _, _, _, none⟩) (v := (.int .i64 z)) rfl (by kernel_rfl) (by kernel_rfl) (by kernel_rfl) (by kernel_rfl) (fun _ _ _ h => h) (.inl ⟨by rfl, fun W hW => by go_simp⟩) hS0 ?_
  try simp only [Act.put, List.setIfInBounds_toArray, List.set_cons_zero, List.set_cons_succ]
  refine wpTill_take (i := 5) (oi := ⟨some 21, .binOp .add 3 (.tmp 20) (.const (.int .i64 1)) 3, _, _, _, none⟩) (v := (.int .i64 (z + 1))) rfl (by kernel_rfl) (by kernel_rfl) (by kernel_rfl) (by kernel_rfl) (fun _ _ _ h => h) (.inl ⟨by rfl, fun W hW => by go_simp; exact wrapQ (by omega) (by omega)⟩) hS0 ?_
  try simp only [Act.put, List.setIfInBounds_toArray, List.set_cons_zero, List.set_cons_succ]
  refine wpTill_take (i := 6) (oi := ⟨some 22, .move (.tmp 6), _, _, _, none⟩) (v := (.int .i64 z)) rfl (by kernel_rfl) (by kernel_rfl) (by kernel_rfl) (by kernel_rfl) (fun _ _ _ h => h) (.inl ⟨by rfl, fun W hW => by go_simp⟩) hS0 ?_
  try simp only [Act.put, List.setIfInBounds_toArray, List.set_cons_zero, List.set_cons_succ]
  refine wpTill_take (i := 7) (oi := ⟨some 23, .binOp .add 3 (.tmp 22) (.const (.int .i64 2)) 3, _, _, _, none⟩) (v := (.int .i64 (z + 2))) rfl (by kernel_rfl) (by kernel_rfl) (by kernel_rfl) (by kernel_rfl) (fun _ _ _ h => h) (.inl ⟨by rfl, fun W hW => by go_simp; exact wrapQ (by omega) (by omega)⟩) hS0 ?_
  try simp only [Act.put, List.setIfInBounds_toArray, List.set_cons_zero, List.set_cons_succ]
  refine wpTill_take (i := 8) (oi := ⟨some 24, .move (.tmp 4), _, _, _, none⟩) (v := (.pointer (some ⟨g, 0, none⟩))) rfl (by kernel_rfl) (by kernel_rfl) (by kernel_rfl) (by kernel_rfl) (fun _ _ _ h => h) (.inl ⟨by rfl, fun W hW => by go_simp⟩) hS0 ?_
  try simp only [Act.put, List.setIfInBounds_toArray, List.set_cons_zero, List.set_cons_succ]
  refine wpTill_take (i := 10) (oi := ⟨some 26, .fieldAddr 32 (.tmp 5) 0, _, _, _, none⟩) (v := (.pointer (some ⟨w2.heap.size, 0, none⟩))) rfl (by kernel_rfl) (by kernel_rfl) (by kernel_rfl) (by kernel_rfl) (fun _ _ _ h => h) (.inl ⟨by rfl, fun W hW => by go_simp⟩) hS0 ?_
  try simp only [Act.put, List.setIfInBounds_toArray, List.set_cons_zero, List.set_cons_succ]
  refine wpTill_take (i := 11) (oi := ⟨some 27, .load 30 (.tmp 26), _, _, _, none⟩) (v := (.slice (some ⟨gd, 0, none⟩) D.size cd)) rfl (by kernel_rfl) (by kernel_rfl) (by kernel_rfl) (by kernel_rfl) (fun _ _ _ h => h) (.inl ⟨by rfl, fun W hW => by have h0 := hW.1; go_simp⟩) hS0 ?_
  try simp only [Act.put, List.setIfInBounds_toArray, List.set_cons_zero, List.set_cons_succ]
  refine wpTill_take (i := 12) (oi := ⟨some 28, .call { callee := .builtin .len, args := #[.tmp 27], argTypes := #[30] }, _, _, _, none⟩) (v := (.int .i64 D.size)) rfl (by kernel_rfl) (by kernel_rfl) (by kernel_rfl) (by kernel_rfl) (fun _ _ _ h => h) (.inl ⟨by rfl, fun W hW => by go_simp⟩) hS0 ?_
  try simp only [Act.put, List.setIfInBounds_toArray, List.set_cons_zero, List.set_cons_succ]
  refine wpTill_take (i := 13) (oi := ⟨some 29, .binOp .sub 3 (.tmp 28) (.const (.int .i64 1)) 3, _, _, _, none⟩) (v := (.int .i64 ((D.size : Int) - 1))) rfl (by kernel_rfl) (by kernel_rfl) (by kernel_rfl) (by kernel_rfl) (fun _ _ _ h => h) (.inl ⟨by rfl, fun W hW => by go_simp; exact wrapQ (by omega) (by omega)⟩) hS0 ?_
  try simp only [Act.put, List.setIfInBounds_toArray, List.set_cons_zero, List.set_cons_succ]
  refine wpTill_take (i := 16) (oi := ⟨some 32, .move (.tmp 4), _, _, _, none⟩) (v := (.pointer (some ⟨g, 0, none⟩))) rfl (by kernel_rfl) (by kernel_rfl) (by kernel_rfl) (by kernel_rfl) (fun _ _ _ h => h) (.inl ⟨by rfl, fun W hW => by go_simp⟩) hS0 ?_
  try simp only [Act.put, List.setIfInBounds_toArray, List.set_cons_zero, List.set_cons_succ]
  refine wpTill_one (i := 9) (o := ⟨some 25, _, _, _, _, none⟩) (by kernel_rfl) rfl (fun K hK => ?_)
  refine step_call2 _ (by rfl) 52 (.tmp 24) (.const (.int .i64 8)) 78 3 (by rfl) (enters_of Tryz.func52 (by kernel_rfl) rfl) (.pointer (some ⟨g, 0, none⟩)) (.int .i64 8) (by rfl) (by rfl) (HPK.out.mono ?_)
  rintro _ w5 ⟨q2, rfl, -, R5, g5⟩
  refine ⟨_, rfl, ?_⟩
  have G5 := Lib.hid (G4D.out.trans g5)
  have BX5 := Lib.hid (BX4.out.kept G5.out (by simp; omega))
  have z5 := G5.out.size
  have HR5 := Lib.hid R5
  have hS5 : (w5.cell? ⟨w2.heap.size, 0, none⟩ = some (.slice (some ⟨gd, 0, none⟩) D.size cd) ∧ w5.cell? ⟨w2.heap.size, 1, none⟩ = some (.int .i64 r)) := ⟨BX5.out.c0, BX5.out.c1⟩
  clear R5 g5
  refine hK _ _ (fun _ => hS5) ?_
  clear hK K
  try simp only [Act.put, List.setIfInBounds_toArray, List.set_cons_zero, List.set_cons_succ]
  refine wpTill_one (i := 14) (o := ⟨some 30, _, _, _, _, none⟩) (by kernel_rfl) rfl (fun K hK => ?_)
  go_simp
  obtain ⟨wx, hwx⟩ : ∃ wx, wx = w5.alloc (.cells #[.int .i64 z, .int .i64 (z + 1), .int .i64 (z + 2), .int .i64 q2, .int .i64 ((D.size : Int) - 1)] 3) := ⟨_, rfl⟩
  have HNX := Lib.hid (show Calls Tryz.prog 51 #[.pointer (some ⟨g, 0, none⟩), .slice (some ⟨w5.heap.size, 0, none⟩) 5 5] wx _ by rw [hwx]; exact HNL.out w5 q2 HR5.out)
  have hSX : (wx.cell? ⟨w2.heap.size, 0, none⟩ = some (.slice (some ⟨gd, 0, none⟩) D.size cd) ∧ wx.cell? ⟨w2.heap.size, 1, none⟩ = some (.int .i64 r)) := by
    rw [hwx]
    exact ⟨(World.cell?_alloc_past _ _ _ BX5.out.lt).trans hS5.1, (World.cell?_alloc_past _ _ _ BX5.out.lt).trans hS5.2⟩
  rw [← hwx]
  refine hK _ _ (fun _ => hSX) ?_
  clear hK K hwx
  try simp only [Act.put, List.setIfInBounds_toArray, List.set_cons_zero, List.set_cons_succ]
  refine wpTill_one (i := 15) (o := ⟨some 31, _, _, _, _, none⟩) (by kernel_rfl) rfl (fun K hK => ?_)
  refine step_call2 _ (by rfl) 51 (.tmp 18) (.tmp 30) 78 84 (by rfl) (enters_of Tryz.func51 (by kernel_rfl) rfl) (.pointer (some ⟨g, 0, none⟩)) (.slice (some ⟨w5.heap.size, 0, none⟩) 5 5) (by rfl) (by rfl) (HNX.out.mono ?_)
  rintro _ w6 ⟨n, -, rfl, R6, g6⟩
  refine ⟨_, rfl, ?_⟩
  have G6 := Lib.hid (G5.out.trans g6)
  have BX6 := Lib.hid (BX4.out.kept G6.out (by simp; omega))
  have z6 := G6.out.size
  have HR6 := Lib.hid R6
  have hS6 : (w6.cell? ⟨w2.heap.size, 0, none⟩ = some (.slice (some ⟨gd, 0, none⟩) D.size cd) ∧ w6.cell? ⟨w2.heap.size, 1, none⟩ = some (.int .i64 r)) := ⟨BX6.out.c0, BX6.out.c1⟩
  clear R6 g6
  refine hK _ _ (fun _ => hS6) ?_
  clear hK K
  try simp only [Act.put, List.setIfInBounds_toArray, List.set_cons_zero, List.set_cons_succ]
  refine wpTill_one (i := 17) (o := ⟨some 33, _, _, _, _, none⟩) (by kernel_rfl) rfl (fun K hK => ?_)
  refine step_call1 _ (by rfl) 53 (.tmp 32) 78 (by rfl) (enters_of Tryz.func53 (by kernel_rfl) rfl) (.pointer (some ⟨g, 0, none⟩)) (by rfl) ((HKD.out _ HR6.out).mono ?_)
  rintro _ w7 ⟨t, hts, rfl, R7, g7⟩
  refine ⟨_, rfl, ?_⟩
  have HTS := Lib.hid (Nat.le_trans hts (show 5 ≤ 10 by decide))
  have G7 := Lib.hid (G6.out.trans g7)
  have BX7 := Lib.hid (BX4.out.kept G7.out (by simp; omega))
  have RX7 := Lib.hid (RX4.out.kept G7.out (by simp; omega))
  have CX7 := Lib.hid (CX4.out.kept G7.out (by simp; omega))
  have z7 := G7.out.size
  have hS7 : (w7.cell? ⟨w2.heap.size, 0, none⟩ = some (.slice (some ⟨gd, 0, none⟩) D.size cd) ∧ w7.cell? ⟨w2.heap.size, 1, none⟩ = some (.int .i64 r)) := ⟨BX7.out.c0, BX7.out.c1⟩
  clear R7 g7 hts
  refine hK _ _ (fun _ => hS7) ?_
  clear hK K x0 x1 r0 r1 f0 f1 c0 c1 c2 g0 g1 g2 hxl hrl hcl
  try simp only [Act.put, List.setIfInBounds_toArray, List.set_cons_zero, List.set_cons_succ]
  refine wpTill_take (i := 18) (oi := ⟨some 34, .build 45 #[(0, .tmp 17), (1, .tmp 31), (2, .tmp 33)], _, _, _, none⟩) (v := (.agg #[.int .i64 z, .int .i64 n, .string t])) rfl (by kernel_rfl) (by kernel_rfl) (by kernel_rfl) (by kernel_rfl) (fun _ _ _ h => h) (.inl ⟨by rfl, fun W hW => by go_simp⟩) hS7 ?_
  try simp only [Act.put, List.setIfInBounds_toArray, List.set_cons_zero, List.set_cons_succ]
  have q0 := RX7.out.c0
  have q1 := RX7.out.c1
  have q3 := RX7.out.z 0
  have q4 := RX7.out.z 1
  have hql := RX7.out.lt
  refine wpTill_one (i := 19) (o := ⟨none, _, _, _, _, none⟩) (by kernel_rfl) rfl (fun K hK => ?_)
  go_simp
  obtain ⟨RZ, GZ⟩ := put_box RX7.out (.slice (some ⟨gd, 0, none⟩) D.size cd) r
  obtain ⟨w8, hw8⟩ : ∃ w8, w8 = (w7.setCell ⟨w.heap.size, 0, none⟩ (.slice (some ⟨gd, 0, none⟩) D.size cd)).setCell ⟨w.heap.size, 1, none⟩ (.int .i64 r) := ⟨_, rfl⟩
  rw [← hw8] at RZ GZ ⊢
  have BX8 := Lib.hid (BX7.out.kept GZ (by simp; omega))
  have CX8 := Lib.hid (CX7.out.kept GZ (by simp))
  have HRZ := Lib.hid RZ
  have HGZ := Lib.hid GZ
  have hS8 : (w8.cell? ⟨w2.heap.size, 0, none⟩ = some (.slice (some ⟨gd, 0, none⟩) D.size cd) ∧ w8.cell? ⟨w2.heap.size, 1, none⟩ = some (.int .i64 r)) := ⟨BX8.out.c0, BX8.out.c1⟩
  refine hK _ _ (fun _ => hS8) ?_
  clear hK K q0 q1 q3 q4 hql hw8 RZ GZ
  try simp only [Act.put, List.setIfInBounds_toArray, List.set_cons_zero, List.set_cons_succ]
  have q0 := CX8.out.c0
  have q1 := CX8.out.c1
  have q2' := CX8.out.c2
  have q3 := CX8.out.z 0
  have q4 := CX8.out.z 1
  have q5 := CX8.out.z 2
  have hql := CX8.out.lt
  refine wpTill_one (i := 20) (o := ⟨none, _, _, _, _, none⟩) (by kernel_rfl) rfl (fun K hK => ?_)
  go_simp
  refine hK _ _ (fun h => absurd (show (true : Bool) = false from h) (by decide)) ?_
  clear hK K
  refine wpTill_done (by kernel_rfl) ?_
  have CXZ := Lib.hid (CX8.out.put z n t)
  have GC := Lib.hid (grown_putQ w8 (w.heap.size + 1) (.int .i64 z) (.int .i64 n) (.string t))
  have HRY := Lib.hid (HRZ.out.kept GC.out (by simp))
  have hz8 := HGZ.out.size
  have HB7 := below_drawn HB4.out G7.out (by omega) (by omega)
  have HB8 := HB7.grown HGZ.out (by omega) (fun q e => by cases e; exact Nat.le_refl _)
  have HBZ := Lib.hid (HB8.grown GC.out (by omega) (fun q e => by cases e; omega))
  have HRW := Lib.hid (((HO4.out.keptD G7.out (by simp; omega)).keptD HGZ.out (by simp; omega)).keptD GC.out (by simp; omega))
  clear HB7 HB8
  go_wp2_with fail
  refine bodyPost_ret (v := .tuple #[.agg #[.slice (some ⟨gd, 0, none⟩) D.size cd, .int .i64 r], .agg #[.int .i64 z, .int .i64 n, .string t]]) (by simp [results, Tryz.results17, go_sem, HRY.out.c0, HRY.out.c1, CXZ.out.c0, CXZ.out.c1, CXZ.out.c2]) rfl (DrewClu.mk D r z n t gd cd rfl HTS.out (by omega) HRW.out hcd hmd HS.out HBZ.out)
end Go.Proofs.YtjpcpiffffobcaaGreatDoor

namespace Go.Proofs.YtjpcpiffffobcaaGreatDoor
open Go.RowKit Go.Shelf Go.Lib Go.Sort

/-- A switch and two integers have been drawn. -/
def DrewTwo (w : World) (x : Ending) (w' : World) : Prop := ∃ (D : Array CaseD) (rest f l : Int) (b cap : Nat), x = .returned (.tuple #[.agg #[.slice (some ⟨b, 0, none⟩) D.size cap, .int .i64 rest], .int .i64 f, .int .i64 l]) ∧ w.heap.size ≤ b ∧ RowC w' b 0 D ∧ D.size ≤ cap ∧ cap ≤ maxLen ∧ SmallSw D 9 ∧ RowKit.Below w.heap.size w w'
theorem bytes_upQ {w W : World} {v : Value} {m : Nat} (h : BytesAt w.heap.size w v m) (hb : RowKit.Below w.heap.size w W) : BytesAt W.heap.size W v m := by
  rcases h with h1 | ⟨b, off, cap, h1, h2, h3, h4⟩
  · exact .inl h1
  · have := hb.size
    refine .inr ⟨b, off, cap, h1, h2, by omega, fun j hj => ?_⟩
    obtain ⟨y, h5, h6⟩ := h4 j hj
    exact ⟨y, h5, (hb.cell (p := ⟨b, off + j, none⟩) h3).trans h6⟩
set_option maxRecDepth 100000 in
set_option maxHeartbeats 4000000 in
theorem drawKind_any (v : Value) (m : Nat) (w : World) (hb : BytesAt w.heap.size w v m) (hm : m ≤ 1048576) :
    Calls Tryz.prog 28 #[v] w (DrewTwo w) := by
  obtain ⟨wa, hwa⟩ : ∃ wa, wa = w.alloc (.cells #[.slice none 0 0, .int .i64 0] 32) := ⟨_, rfl⟩
  have HRX := Lib.hid (show BoxS wa w.heap.size (.slice none 0 0) 0 by rw [hwa]; exact BoxS.new _ _ _)
  have HBA := Lib.hid (show RowKit.Below w.heap.size w wa by rw [hwa]; exact (Below.refl _ _).alloc (Nat.le_refl _) _)
  have hz : w.heap.size < wa.heap.size := by rw [hwa]; simp
  have HDP := Lib.hid (drawPrice_any v m wa (bytes_upQ hb HBA.out) hm)
  have HWA := Lib.hid hwa
  clear hwa hb
  go_enter Tryz.func28, Tryz.ntmps28
  go_wp2_with fail
  rw [← HWA.out]
  refine HDP.out.mono ?_
  rintro x w1 ⟨D, r, f, l, k, gd, cd, rfl, -, hgd, hRC, hcd, hmd, hs, hb1⟩
  have HS := Lib.hid hs
  have RX1 := Lib.hid (HRX.out.kept (grown_of_below hb1) (by simp))
  have HB1 := Lib.hid (HBA.out.trans (hb1.mono (by omega)))
  have hz1 := hb1.size
  have HRC := Lib.hid hRC
  obtain ⟨wb, hwb⟩ : ∃ wb, wb = w1.alloc (.cells #[.slice (some ⟨gd, 0, none⟩) D.size cd, .int .i64 r] 32) := ⟨_, rfl⟩
  obtain ⟨wc, hwc⟩ : ∃ wc, wc = wb.alloc (.cells #[.int .i64 f, .int .i64 l, .string k] 45) := ⟨_, rfl⟩
  have HWB := Lib.hid hwb
  have HWC := Lib.hid hwc
  clear hb1 hs hRC hwb hwc
  go_wp2_with fail
  rw [← HWB.out, ← HWC.out]
  have hzb : wb.heap.size = w1.heap.size + 1 := by rw [HWB.out]; simp
  have BXC := Lib.hid (show BoxS wc w1.heap.size (.slice (some ⟨gd, 0, none⟩) D.size cd) r by rw [HWC.out]; exact (show BoxS wb w1.heap.size _ r by rw [HWB.out]; exact BoxS.new _ _ _).kept (row := none) (World.grownBy_alloc _ _ _) (by simp))
  have QXC := Lib.hid (show BoxQ wc (w1.heap.size + 1) f l k by rw [HWC.out, ← hzb]; exact BoxQ.new _ _ _ _)
  have hcw : RowKit.Below w1.heap.size w1 wc := by rw [HWC.out, HWB.out]; exact ((Below.refl _ _).alloc (Nat.le_refl _) _).alloc (by simp) _
  have RXC := Lib.hid (RX1.out.kept (grown_of_below hcw) (by simp))
  have HRCC := Lib.hid (HRC.out.below hcw)
  have HBC := Lib.hid (HB1.out.trans (hcw.mono (by omega)))
  have hzc := hcw.size
  clear hcw
  have hS0 : wc.drew.cell? ⟨w1.heap.size, 0, none⟩ = some (.slice (some ⟨gd, 0, none⟩) D.size cd) ∧ wc.drew.cell? ⟨w1.heap.size, 1, none⟩ = some (.int .i64 r) ∧ wc.drew.cell? ⟨w1.heap.size + 1, 0, none⟩ = some (.int .i64 f) ∧ wc.drew.cell? ⟨w1.heap.size + 1, 1, none⟩ = some (.int .i64 l) := ⟨by simpa using BXC.out.c0, by simpa using BXC.out.c1, by simpa using QXC.out.c0, by simpa using QXC.out.c1⟩
  refine wp_region_till (fun W => W.cell? ⟨w1.heap.size, 0, none⟩ = some (.slice (some ⟨gd, 0, none⟩) D.size cd) ∧ W.cell? ⟨w1.heap.size, 1, none⟩ = some (.int .i64 r) ∧ W.cell? ⟨w1.heap.size + 1, 0, none⟩ = some (.int .i64 f) ∧ W.cell? ⟨w1.heap.size + 1, 1, none⟩ = some (.int .i64 l)) 7 (by kernel_rfl) ?_
  obtain ⟨wd, hwd⟩ : ∃ wd, wd = wc.drew := ⟨_, rfl⟩
  rw [← hwd] at hS0 ⊢
  have RXD := Lib.hid (show BoxS wd w.heap.size (.slice none 0 0) 0 by rw [hwd]; exact RXC.out)
  have BXD := Lib.hid (show BoxS wd w1.heap.size (.slice (some ⟨gd, 0, none⟩) D.size cd) r by rw [hwd]; exact BXC.out)
  have QXD := Lib.hid (show BoxQ wd (w1.heap.size + 1) f l k by rw [hwd]; exact QXC.out)
  have HBD := Lib.hid (show RowKit.Below w.heap.size w wd by rw [hwd]; exact HBC.out.drew)
  have HRCD := Lib.hid (show RowC wd gd 0 D by rw [hwd]; exact HRCC.out.below ((Below.refl _ _).drew))
  clear hwd
  refine wpTill_take (i := 0) (oi := ⟨some 12, .load 32 (.tmp 5), _, _, _, none⟩) (v := (.agg #[(.slice (some ⟨gd, 0, none⟩) D.size cd), .int .i64 r])) rfl (by kernel_rfl) (by kernel_rfl) (by kernel_rfl) (by kernel_rfl) (fun _ _ _ h => h) (.inl ⟨by rfl, fun W hW => by have h0 := hW.1; have h1 := hW.2.1; go_simp⟩) hS0 ?_
  try simp only [Act.put, List.setIfInBounds_toArray, List.set_cons_zero, List.set_cons_succ]
  refine wpTill_take (i := 1) (oi := ⟨some 13, .fieldAddr 45 (.tmp 6) 0, _, _, _, none⟩) (v := (.pointer (some ⟨w1.heap.size + 1, 0, none⟩))) rfl (by kernel_rfl) (by kernel_rfl) (by kernel_rfl) (by kernel_rfl) (fun _ _ _ h => h) (.inl ⟨by rfl, fun W hW => by go_simp⟩) hS0 ?_
  try simp only [Act.put, List.setIfInBounds_toArray, List.set_cons_zero, List.set_cons_succ]
  refine wpTill_take (i := 2) (oi := ⟨some 14, .load 3 (.tmp 13), _, _, _, none⟩) (v := (.int .i64 f)) rfl (by kernel_rfl) (by kernel_rfl) (by kernel_rfl) (by kernel_rfl) (fun _ _ _ h => h) (.inl ⟨by rfl, fun W hW => by have h0 := hW.2.2.1; go_simp⟩) hS0 ?_
  try simp only [Act.put, List.setIfInBounds_toArray, List.set_cons_zero, List.set_cons_succ]
  refine wpTill_take (i := 3) (oi := ⟨some 15, .fieldAddr 45 (.tmp 6) 1, _, _, _, none⟩) (v := (.pointer (some ⟨w1.heap.size + 1, 1, none⟩))) rfl (by kernel_rfl) (by kernel_rfl) (by kernel_rfl) (by kernel_rfl) (fun _ _ _ h => h) (.inl ⟨by rfl, fun W hW => by go_simp⟩) hS0 ?_
  try simp only [Act.put, List.setIfInBounds_toArray, List.set_cons_zero, List.set_cons_succ]
  refine wpTill_take (i := 4) (oi := ⟨some 16, .load 3 (.tmp 15), _, _, _, none⟩) (v := (.int .i64 l)) rfl (by kernel_rfl) (by kernel_rfl) (by kernel_rfl) (by kernel_rfl) (fun _ _ _ h => h) (.inl ⟨by rfl, fun W hW => by have h0 := hW.2.2.2; go_simp⟩) hS0 ?_
  try simp only [Act.put, List.setIfInBounds_toArray, List.set_cons_zero, List.set_cons_succ]
  have q0 := RXD.out.c0
  have q1 := RXD.out.c1
  have q3 := RXD.out.z 0
  have q4 := RXD.out.z 1
  have hql := RXD.out.lt
  refine wpTill_one (i := 5) (o := ⟨none, _, _, _, _, none⟩) (by kernel_rfl) rfl (fun K hK => ?_)
  go_simp
  obtain ⟨RZ, GZ⟩ := put_box RXD.out (.slice (some ⟨gd, 0, none⟩) D.size cd) r
  obtain ⟨w8, hw8⟩ : ∃ w8, w8 = (wd.setCell ⟨w.heap.size, 0, none⟩ (.slice (some ⟨gd, 0, none⟩) D.size cd)).setCell ⟨w.heap.size, 1, none⟩ (.int .i64 r) := ⟨_, rfl⟩
  rw [← hw8] at RZ GZ ⊢
  have BX8 := Lib.hid (BXD.out.kept GZ (by simp; omega))
  have CX8 := Lib.hid (QXD.out.kept GZ (by simp; omega))
  have HRZ := Lib.hid RZ
  have HBZ := Lib.hid (HBD.out.grown GZ HBD.out.size (fun q e => by cases e; exact Nat.le_refl _))
  have HRW := Lib.hid (HRCD.out.keptD GZ (by simp; omega))
  have hS8 : w8.cell? ⟨w1.heap.size, 0, none⟩ = some (.slice (some ⟨gd, 0, none⟩) D.size cd) ∧ w8.cell? ⟨w1.heap.size, 1, none⟩ = some (.int .i64 r) ∧ w8.cell? ⟨w1.heap.size + 1, 0, none⟩ = some (.int .i64 f) ∧ w8.cell? ⟨w1.heap.size + 1, 1, none⟩ = some (.int .i64 l) := ⟨BX8.out.c0, BX8.out.c1, CX8.out.c0, CX8.out.c1⟩
  refine hK _ _ (fun _ => hS8) ?_
  clear hK K q0 q1 q3 q4 hql hw8 RZ GZ
  try simp only [Act.put, List.setIfInBounds_toArray, List.set_cons_zero, List.set_cons_succ]
  refine wpTill_one (i := 6) (o := ⟨some 3, _, _, _, _, none⟩) (by kernel_rfl) rfl (fun K hK => ?_)
  go_simp
  refine hK _ _ (fun _ => hS8) ?_
  clear hK K
  try simp only [Act.put, List.setIfInBounds_toArray, List.set_cons_zero, List.set_cons_succ]
  refine wpTill_one (i := 7) (o := ⟨some 4, _, _, _, _, none⟩) (by kernel_rfl) rfl (fun K hK => ?_)
  go_simp
  refine hK _ _ (fun h => absurd (show (true : Bool) = false from h) (by decide)) ?_
  clear hK K
  refine wpTill_done (by kernel_rfl) ?_
  go_wp2_with fail
  refine bodyPost_ret (v := .tuple #[.agg #[.slice (some ⟨gd, 0, none⟩) D.size cd, .int .i64 r], .int .i64 f, .int .i64 l]) (by simp [results, Tryz.results28, go_sem, HRZ.out.c0, HRZ.out.c1]) rfl ⟨D, r, f, l, gd, cd, rfl, by omega, HRW.out, hcd, hmd, HS.out, HBZ.out⟩
end Go.Proofs.YtjpcpiffffobcaaGreatDoor

namespace Go.Proofs.YtjpcpiffffobcaaGreatDoor
open Go.RowKit Go.Shelf Go.Lib Go.Sort

theorem of3q {z : ByteArray} (h : z ∈ [(⟨#[116, 97, 98, 108, 101]⟩ : ByteArray), ⟨#[98, 105, 116, 115]⟩, ⟨#[116, 97, 98, 108, 101]⟩]) : z.size ≤ 10 := by
  simp only [List.mem_cons, List.not_mem_nil, or_false] at h
  rcases h with rfl | rfl | rfl <;> decide
theorem nameK_size : ∀ j, (nameK j).size ≤ 5
  | 0 => by decide
  | 1 => by decide
  | _ + 2 => by show (nameK 2).size ≤ 5; decide
theorem bestTo8_size (e : Array CaseD) : ∀ j, (bestTo8 e j).1.size ≤ 5
  | 0 => Nat.zero_le _
  | j + 1 => by
    rw [bestTo8]
    split
    · exact nameK_size j
    · exact bestTo8_size e j
theorem planL_kind {d : Array CaseD} {F : TF8} : ∀ f i, ∀ c ∈ planL d F f i, c.2.2.size ≤ 10
  | 0, _, c, h => by cases h
  | f + 1, i, c, h => by
    rw [planL] at h
    split at h
    · rcases List.mem_cons.1 h with rfl | h
      · exact Nat.le_trans (bestTo8_size _ 3) (by decide)
      · exact planL_kind f _ c h
    · cases h
theorem bestLN_kind (d : Array CaseD) (rest : Int) : ∀ c ∈ bestLN d rest, c.2.2.size ≤ 10 := by
  unfold bestLN
  split
  · exact planL_kind _ _
  · intro c h; cases h
theorem bestLN_len9 (d : Array CaseD) (rest : Int) (h : d.size ≤ 9) : (bestLN d rest).length ≤ 9 := by
  unfold bestLN
  split
  · have : (finL d 0).length ≤ d.size - 0 := planL_len _ _
    omega
  · simp
theorem grown_own8 {w w1 w2 : World} {g : Nat} {row : Option Nat} (h1 : w.grownBy w1 (some g)) (h2 : w1.grownBy w2 row) (hr : ∀ k, row = some k → w.heap.size ≤ k) : w.grownBy w2 (some g) :=
  ⟨h2.os.trans h1.os, h2.tape.trans h1.tape, h2.output.trans h1.output, Nat.le_trans h1.size h2.size, fun q hq hne => (h2.block q (Nat.lt_of_lt_of_le hq h1.size) (fun e => by have := hr q e.symm; omega)).trans (h1.block q hq hne)⟩
theorem ownsQ_grown8 {B : Nat} {v : Value} {l : List CluP} {w w' : World} {g : Nat} (h : OwnsQ B v l w) (hg : w.grownBy w' (some g)) (hb : g < B) : OwnsQ B v l w' := World.ownsRow.kept h hg (by
  cases hv : v.ownBlock with
  | none => exact .inl rfl
  | some k =>
    refine .inr fun e => ?_
    have := (World.ownsRow.lt h k hv).1
    cases e
    omega)
/-- A switch and a list of clusters have been drawn; the source lies in block g. -/
def DrewPl (g p : Nat) (w : World) (x : Ending) (w' : World) : Prop := ∃ (D : Array CaseD) (rest : Int) (b cap : Nat) (v : Value) (l : List CluP), SmallSw D 9 ∧ (l.length ≤ 10 ∧ ∀ c ∈ l, c.2.2.size ≤ 10) ∧ x = .returned (.tuple #[.agg #[.slice (some ⟨b, 0, none⟩) D.size cap, .int .i64 rest], v]) ∧ RowC w' b 0 D ∧ (w.heap.size ≤ b ∧ D.size ≤ cap ∧ cap ≤ maxLen) ∧ (OwnsQ w.heap.size v l w' ∧ v ≠ .slice none 0 0) ∧ RdAt w' g p ∧ w.grownBy w' (some g)
theorem drewPl_mk {g p q : Nat} {w W : World} {D : Array CaseD} {r r0 : Int} {gd cd B : Nat} {v v0 : Value} {l : List CluP} (hg : g < w.heap.size) (hX : BoxS W w.heap.size v0 r0) (hS : SmallSw D 9) (hl : l.length ≤ 10) (hk : ∀ c ∈ l, c.2.2.size ≤ 10) (hR : RowC W gd 0 D) (hgd : w.heap.size < gd) (hcd : D.size ≤ cd) (hmd : cd ≤ maxLen) (hB : w.heap.size < B) (hO : OwnsQ B v l W) (hv : v ≠ .slice none 0 0)
    (hRd : RdAt W g q) (hq : q ≤ p) (hG : w.grownBy W (some g)) :
    BoxS ((W.setCell ⟨w.heap.size, 0, none⟩ (.slice (some ⟨gd, 0, none⟩) D.size cd)).setCell ⟨w.heap.size, 1, none⟩ (.int .i64 r)) w.heap.size (.slice (some ⟨gd, 0, none⟩) D.size cd) r ∧
      DrewPl g p w (.returned (.tuple #[.agg #[.slice (some ⟨gd, 0, none⟩) D.size cd, .int .i64 r], v])) ((W.setCell ⟨w.heap.size, 0, none⟩ (.slice (some ⟨gd, 0, none⟩) D.size cd)).setCell ⟨w.heap.size, 1, none⟩ (.int .i64 r)) := by
  obtain ⟨RZ, GZ⟩ := put_box hX (.slice (some ⟨gd, 0, none⟩) D.size cd) r
  refine ⟨RZ, D, r, gd, cd, v, l, hS, ⟨hl, hk⟩, rfl, hR.keptD GZ (by simp; omega), ⟨by omega, hcd, hmd⟩, ⟨ownsQ_mono (World.ownsRow.kept hO GZ ?_) (Nat.le_of_lt hB), hv⟩, (hRd.kept GZ (fun r e => by cases e; exact hg)).le hq, grown_two hG GZ (Nat.le_refl _)⟩
  cases hb : v.ownBlock with
  | none => exact .inl rfl
  | some k =>
    refine .inr fun e => ?_
    have := (World.ownsRow.lt hO k hb).1
    cases e
    omega
set_option maxRecDepth 100000 in
set_option maxHeartbeats 4000000 in
theorem l8Draw_any (g p : Nat) (w : World) (h : RdAt w g p) (hp : p ≤ 30000) :
    Calls Tryz.prog 47 #[.pointer (some ⟨g, 0, none⟩)] w (DrewPl g (p + 200) w) := by
  obtain ⟨wa, hwa⟩ : ∃ wa, wa = w.alloc (.cells #[.slice none 0 0, .int .i64 0] 32) := ⟨_, rfl⟩
  have HRX := Lib.hid (show BoxS wa w.heap.size (.slice none 0 0) 0 by rw [hwa]; exact BoxS.new _ _ _)
  have HGA := Lib.hid (show w.grownBy wa (some g) by rw [hwa]; exact World.grownBy_alloc _ _ _)
  have HRA := Lib.hid (show RdAt wa g p by rw [hwa]; exact h.alloc _)
  have hz : w.heap.size < wa.heap.size := by rw [hwa]; simp
  have HWA := Lib.hid hwa
  have hgw : g < w.heap.size := h.1
  have HSM := Lib.hid (some_any g p wa HRA.out (by omega))
  clear hwa h
  go_enter Tryz.func47, Tryz.ntmps47
  go_wp2_with fail
  rw [← HWA.out]
  refine HSM.out.mono ?_
  rintro x w1 ⟨D, r, hs, ⟨v, rfl, ho, hv⟩, hR1, hG1⟩
  have hz1 := hG1.size
  obtain ⟨gd, cd, rfl, hgd, hcd, hmd⟩ := owns_form ho hv
  have hDl : D.toList.length = D.size := Array.length_toList
  rw [hDl] at ho hv hcd
  obtain ⟨wb, hwb⟩ : ∃ wb, wb = w1.alloc (.cells #[.slice (some ⟨gd, 0, none⟩) D.size cd, .int .i64 r] 32) := ⟨_, rfl⟩
  have HBX := Lib.hid (show BoxS wb w1.heap.size (.slice (some ⟨gd, 0, none⟩) D.size cd) r by rw [hwb]; exact BoxS.new _ _ _)
  have HRB := Lib.hid (show RdAt wb g (p + 80) by rw [hwb]; exact hR1.alloc _)
  have HGB := Lib.hid (show w.grownBy wb (some g) by rw [hwb]; exact grownBy_trans (grownBy_trans HGA.out hG1) (World.grownBy_alloc _ _ _))
  have RXB := Lib.hid (show BoxS wb w.heap.size (.slice none 0 0) 0 by rw [hwb]; exact (HRX.out.kept hG1 (by simp; omega)).kept (row := none) (World.grownBy_alloc _ _ _) (by simp))
  have HOB := Lib.hid (show OwnsC wa.heap.size (.slice (some ⟨gd, 0, none⟩) D.size cd) D.toList wb by rw [hwb]; exact World.ownsRow.alloc ho _)
  have hzb : w1.heap.size < wb.heap.size := by rw [hwb]; simp
  have hgdl : gd < w1.heap.size := (World.ownsRow.lt ho gd rfl).2
  have HRC := Lib.hid (show RowC wb gd 0 D by
    have := owns_row (n := D.size) (l := D.toList) HOB.out
    rwa [Array.toArray_toList] at this)
  have HWB := Lib.hid hwb
  have HS := Lib.hid hs
  have HD9 := Lib.hid (bestLN_len9 D r hs.1)
  have hD9 : (D.size : Int) ≤ 9 := by have := hs.1; omega
  have x0 := HBX.out.c0
  have x1 := HBX.out.c1
  clear hwb ho hv hR1 hG1 hs
  go_wp2_with fail
  rw [← HWB.out]
  refine (specBq_any gd 0 cd D r wb HRC.out hcd hmd).mono ?_
  rintro x w3 ⟨v0, rfl, ho3, hb3, hv3⟩
  have HG3 := Lib.hid (show wb.grownBy w3 (some g) from grown_belowD hb3)
  have HR3 := Lib.hid (HRB.out.below hb3 (Nat.le_refl _))
  have HO3 := Lib.hid ho3
  have HV3 := Lib.hid hv3
  have hz3 := hb3.size
  clear hb3 x0 x1 ho3 hv3
  cases hsw : swB D r
  · have HX3 := Lib.hid (HBX.out.kept HG3.out (by simp; omega))
    have RX3 := Lib.hid (RXB.out.kept HG3.out (by simp; omega))
    have x0 := HX3.out.c0
    have x1 := HX3.out.c1
    have r0 := RX3.out.c0
    have r1 := RX3.out.c1
    have r2 := RX3.out.z 0
    have r3 := RX3.out.z 1
    have hxl := HX3.out.lt
    have hrl := RX3.out.lt
    go_wp2_with fail
    obtain ⟨RZ, HE⟩ := drewPl_mk (p := p + 200) (r := r) hgw RX3.out HS.out (Nat.le_succ_of_le HD9.out) (bestLN_kind D r) (HRC.out.keptD HG3.out (by simp; omega)) (by omega) hcd hmd (by omega) HO3.out HV3.out HR3.out (by omega) (grownBy_trans HGB.out HG3.out)
    refine bodyPost_ret (v := .tuple #[.agg #[.slice (some ⟨gd, 0, none⟩) D.size cd, .int .i64 r], v0]) (by simp [results, Tryz.results47, go_sem, RZ.c0, RZ.c1]) rfl HE
  · go_wp2_with fail
    refine (pickR_any g 3 (p + 80) w3 HR3.out (by omega) (by omega)).mono ?_
    rintro x w4 ⟨q, rfl, -, hR4, hG4⟩
    have HG4 := Lib.hid (grownBy_trans HG3.out hG4)
    have HX4 := Lib.hid (HBX.out.kept HG4.out (by simp; omega))
    have RX4 := Lib.hid (RXB.out.kept HG4.out (by simp; omega))
    have HR4 := Lib.hid hR4
    have hz4 := HG4.out.size
    have x0 := HX4.out.c0
    have x1 := HX4.out.c1
    have hxl := HX4.out.lt
    have hrl := RX4.out.lt
    have HO4 := Lib.hid (show OwnsQ wb.heap.size v0 (bestLN D r) w4 from World.ownsRow.kept HO3.out hG4 (by
      cases hb : v0.ownBlock with
      | none => exact .inl rfl
      | some k =>
        refine .inr fun e => ?_
        have := (World.ownsRow.lt HO3.out k hb).1
        cases e
        omega))
    clear hR4 hG4
    by_cases hq : q = 0
    · have hq0 : ((q : Int) == 0) = true := by subst hq; rfl
      have hqi : (q : Int) = 0 := by omega
      have r0 := RX4.out.c0
      have r1 := RX4.out.c1
      have r2 := RX4.out.z 0
      have r3 := RX4.out.z 1
      clear hq
      go_wp2_with fail
      obtain ⟨RZ, HE⟩ := drewPl_mk (p := p + 200) (r := r) hgw RX4.out HS.out (Nat.le_succ_of_le HD9.out) (bestLN_kind D r) (HRC.out.keptD HG4.out (by simp; omega)) (by omega) hcd hmd (by omega) HO4.out HV3.out HR4.out (by omega) (grownBy_trans HGB.out HG4.out)
      refine bodyPost_ret (v := .tuple #[.agg #[.slice (some ⟨gd, 0, none⟩) D.size cd, .int .i64 r], v0]) (by simp [results, Tryz.results47, go_sem, RZ.c0, RZ.c1]) rfl HE
    · have hqi : ¬ (q : Int) = 0 := by omega
      have hqb : ((q : Int) == 0) = false := by simpa using hqi
      clear hq
      go_wp2_with fail
      obtain ⟨w5, hw5⟩ : ∃ w5, w5 = w4.alloc (.cells #[] 45) := ⟨_, rfl⟩
      have HG5 := Lib.hid (show wb.grownBy w5 (some g) by rw [hw5]; exact grownBy_trans HG4.out (World.grownBy_alloc _ _ _))
      have HR5 := Lib.hid (show RdAt w5 g (p + 81) by rw [hw5]; exact HR4.out.alloc _)
      have HO5 := Lib.hid (show OwnsQ w4.heap.size (.slice (some ⟨w4.heap.size, 0, none⟩) 0 0) [] w5 by rw [hw5]; exact World.ownsRow_made w4 #[] 0 (Nat.le_refl _) (by decide) rfl)
      have hz5 : w4.heap.size ≤ w5.heap.size := by rw [hw5]; simp
      rw [← hw5]
      clear hw5 x0 x1 hxl hrl HX4 RX4 HR4 HO4 HO3
      obtain ⟨i0, hi, hi0, hi1, hi2⟩ := info_parts infoBp
      go_wp2_with fail
      go_loopw [7, 8] (fun v x wr => ∃ (k : Nat) (l : List CluP), x = .int .i64 k ∧ k ≤ D.size ∧ l.length ≤ k ∧ (∀ c ∈ l, c.2.2.size ≤ 10) ∧ Hid (RdAt wr g (p + 81 + 3 * k)) ∧ Hid (OwnsQ w4.heap.size v l wr) ∧ v ≠ .slice none 0 0 ∧ Hid (wb.grownBy wr (some g)) ∧ w4.heap.size ≤ wr.heap.size) (fun _ x _ => D.size - (intOf x).toNat)
      case atStart => exact ⟨0, [], rfl, Nat.zero_le _, Nat.le_refl _, (fun c h => by cases h), HR5.out, HO5.out, (fun h => by cases h), HG5.out, hz5⟩
      case round =>
        obtain ⟨k, l, rfl, hk, hl, hkd, HRd, HOwn, hne, HG, hwr⟩ := hrel
        have HKD := Lib.hid hkd
        have HX := Lib.hid (HBX.out.kept HG.out (by simp; omega))
        have RX := Lib.hid (RXB.out.kept HG.out (by simp; omega))
        have x0 := HX.out.c0
        have x1 := HX.out.c1
        have hxl := HX.out.lt
        have hrl := RX.out.lt
        clear hkd
        by_cases hlt : k < D.size
        · have hki : (k : Int) < (D.size : Int) := by omega
          go_wp2_with fail
          obtain ⟨wo, hwo⟩ : ∃ wo, wo = wr.drew := ⟨_, rfl⟩
          have HRo := Lib.hid (show RdAt wo g (p + 81 + 3 * k) by rw [hwo]; exact HRd.out.drew)
          have HGo := Lib.hid (show wr.grownBy wo (some g) by rw [hwo]; exact ⟨rfl, rfl, rfl, Nat.le_refl _, fun _ _ _ => rfl⟩)
          have hS0 : wo.cell? ⟨w1.heap.size, 0, none⟩ = some (.slice (some ⟨gd, 0, none⟩) D.size cd) := by rw [hwo]; simpa using x0
          have HNL := Lib.hid (show Calls Tryz.prog 51 #[.pointer (some ⟨g, 0, none⟩), .slice (some ⟨wo.heap.size, 0, none⟩) 5 5] (wo.alloc (.cells #[.int .i64 0, .int .i64 0, .int .i64 1, .int .i64 2, .int .i64 0] 3)) _ from numLit_any g (p + 81 + 3 * k) [0, 0, 1, 2, 0] wo HRo.out (by omega) (by simp) (by simp))
          have hzo : w1.heap.size < wo.heap.size := Nat.lt_of_lt_of_le hxl HGo.out.size
          refine wp_region_till (fun W => W.cell? ⟨w1.heap.size, 0, none⟩ = some (.slice (some ⟨gd, 0, none⟩) D.size cd)) 10 (by kernel_rfl) ?_
          rw [← hwo]
          clear hwo
          refine wpTill_take (i := 0) (oi := ⟨some 33, .move (.tmp 8), _, _, _, none⟩) (v := (.int .i64 k)) rfl (by kernel_rfl) (by kernel_rfl) (by kernel_rfl) (by kernel_rfl) (fun _ _ _ h => h) (.inl ⟨by rfl, fun W hW => by go_simp⟩) hS0 ?_
          try simp only [Act.put, List.setIfInBounds_toArray, List.set_cons_zero, List.set_cons_succ]
          refine wpTill_take (i := 1) (oi := ⟨some 34, .move (.tmp 0), _, _, _, none⟩) (v := (.pointer (some ⟨g, 0, none⟩))) rfl (by kernel_rfl) (by kernel_rfl) (by kernel_rfl) (by kernel_rfl) (fun _ _ _ h => h) (.inl ⟨by rfl, fun W hW => by go_simp⟩) hS0 ?_
          try simp only [Act.put, List.setIfInBounds_toArray, List.set_cons_zero, List.set_cons_succ]
          refine wpTill_take (i := 5) (oi := ⟨some 38, .fieldAddr 32 (.tmp 4) 0, _, _, _, none⟩) (v := (.pointer (some ⟨w1.heap.size, 0, none⟩))) rfl (by kernel_rfl) (by kernel_rfl) (by kernel_rfl) (by kernel_rfl) (fun _ _ _ h => h) (.inl ⟨by rfl, fun W hW => by go_simp⟩) hS0 ?_
          try simp only [Act.put, List.setIfInBounds_toArray, List.set_cons_zero, List.set_cons_succ]
          refine wpTill_take (i := 6) (oi := ⟨some 39, .load 30 (.tmp 38), _, _, _, none⟩) (v := (.slice (some ⟨gd, 0, none⟩) D.size cd)) rfl (by kernel_rfl) (by kernel_rfl) (by kernel_rfl) (by kernel_rfl) (fun _ _ _ h => h) (.inl ⟨by rfl, fun W hW => by have h0 := hW; go_simp⟩) hS0 ?_
          try simp only [Act.put, List.setIfInBounds_toArray, List.set_cons_zero, List.set_cons_succ]
          refine wpTill_take (i := 7) (oi := ⟨some 40, .call { callee := .builtin .len, args := #[.tmp 39], argTypes := #[30] }, _, _, _, none⟩) (v := (.int .i64 D.size)) rfl (by kernel_rfl) (by kernel_rfl) (by kernel_rfl) (by kernel_rfl) (fun _ _ _ h => h) (.inl ⟨by rfl, fun W hW => by go_simp⟩) hS0 ?_
          try simp only [Act.put, List.setIfInBounds_toArray, List.set_cons_zero, List.set_cons_succ]
          refine wpTill_take (i := 8) (oi := ⟨some 41, .binOp .sub 3 (.tmp 40) (.const (.int .i64 1)) 3, _, _, _, none⟩) (v := (.int .i64 ((D.size : Int) - 1))) rfl (by kernel_rfl) (by kernel_rfl) (by kernel_rfl) (by kernel_rfl) (fun _ _ _ h => h) (.inl ⟨by rfl, fun W hW => by go_simp; exact wrapQ (by omega) (by omega)⟩) hS0 ?_
          try simp only [Act.put, List.setIfInBounds_toArray, List.set_cons_zero, List.set_cons_succ]
          refine wpTill_one (i := 2) (o := ⟨some 35, _, _, _, _, none⟩) (by kernel_rfl) rfl (fun K hK => ?_)
          go_simp
          obtain ⟨wx, hwx⟩ : ∃ wx, wx = wo.alloc (.cells #[.int .i64 0, .int .i64 0, .int .i64 1, .int .i64 2, .int .i64 0] 3) := ⟨_, rfl⟩
          rw [← hwx] at HNL ⊢
          have hSX : wx.cell? ⟨w1.heap.size, 0, none⟩ = some (.slice (some ⟨gd, 0, none⟩) D.size cd) := by
            rw [hwx]
            exact (World.cell?_alloc_past _ _ _ hzo).trans hS0
          refine hK _ _ (fun _ => hSX) ?_
          clear hK K hwx
          try simp only [Act.put, List.setIfInBounds_toArray, List.set_cons_zero, List.set_cons_succ]
          refine wpTill_one (i := 3) (o := ⟨some 36, _, _, _, _, none⟩) (by kernel_rfl) rfl (fun K hK => ?_)
          refine step_call2 _ (by rfl) 51 (.tmp 34) (.tmp 35) 78 84 (by rfl) (enters_of Tryz.func51 (by kernel_rfl) rfl) (.pointer (some ⟨g, 0, none⟩)) (.slice (some ⟨wo.heap.size, 0, none⟩) 5 5) (by rfl) (by rfl) (HNL.out.mono ?_)
          rintro _ w6 ⟨z, hzm, rfl, R6, g6⟩
          refine ⟨_, rfl, ?_⟩
          obtain ⟨zn, rfl, hz2⟩ : ∃ zn : Nat, z = (zn : Int) ∧ zn ≤ 2 := by
            simp only [List.mem_cons, List.not_mem_nil, or_false] at hzm
            exact ⟨z.toNat, by omega, by omega⟩
          have G6 := Lib.hid (HGo.out.trans g6)
          have HR6 := Lib.hid R6
          have hz6 := G6.out.size
          have HO6 := Lib.hid (ownsQ_grown8 HOwn.out G6.out (by omega))
          have HG6 := Lib.hid (grownBy_trans HG.out G6.out)
          have hS6 : w6.cell? ⟨w1.heap.size, 0, none⟩ = some (.slice (some ⟨gd, 0, none⟩) D.size cd) := (HX.out.kept G6.out (by simp; omega)).c0
          clear R6 g6 hzm
          refine hK _ _ (fun _ => hS6) ?_
          clear hK K hS0 hSX x0 x1
          try simp only [Act.put, List.setIfInBounds_toArray, List.set_cons_zero, List.set_cons_succ]
          refine wpTill_take (i := 4) (oi := ⟨some 37, .binOp .add 3 (.tmp 33) (.tmp 36) 3, _, _, _, none⟩) (v := (.int .i64 ((k : Int) + zn))) rfl (by kernel_rfl) (by kernel_rfl) (by kernel_rfl) (by kernel_rfl) (fun _ _ _ h => h) (.inl ⟨by rfl, fun W hW => by go_simp; exact wrapQ (by omega) (by omega)⟩) hS6 ?_
          try simp only [Act.put, List.setIfInBounds_toArray, List.set_cons_zero, List.set_cons_succ]
          refine wpTill_one (i := 9) (o := ⟨some 42, _, _, _, _, none⟩) (by kernel_rfl) rfl (fun K hK => ?_)
          go_simp
          obtain ⟨e, he, hke, heD⟩ : ∃ e : Nat, min ((k : Int) + zn) ((D.size : Int) - 1) = (e : Int) ∧ k ≤ e ∧ e < D.size := ⟨(min ((k : Int) + zn) ((D.size : Int) - 1)).toNat, by omega, by omega, by omega⟩
          rw [he]
          refine hK _ _ (fun _ => hS6) ?_
          clear hK K he
          try simp only [Act.put, List.setIfInBounds_toArray, List.set_cons_zero, List.set_cons_succ]
          refine wpTill_one (i := 10) (o := ⟨some 9, _, _, _, _, none⟩) (by kernel_rfl) rfl (fun K hK => ?_)
          go_simp
          refine hK _ _ (fun h => absurd (show (true : Bool) = false from h) (by decide)) ?_
          clear hK K hS6
          refine wpTill_done (by kernel_rfl) ?_
          by_cases hek : k < e
          · have heki : (k : Int) < (e : Int) := by omega
            go_wp2_with fail
            refine (show Calls Tryz.prog 74 #[.pointer (some ⟨g, 0, none⟩), .slice (some ⟨w6.heap.size, 0, none⟩) 3 3] (w6.alloc (.cells #[.string ⟨#[116, 97, 98, 108, 101]⟩, .string ⟨#[98, 105, 116, 115]⟩, .string ⟨#[116, 97, 98, 108, 101]⟩] 9)) _ from ofLit_any g (p + 81 + 3 * k + 1) [⟨#[116, 97, 98, 108, 101]⟩, ⟨#[98, 105, 116, 115]⟩, ⟨#[116, 97, 98, 108, 101]⟩] w6 HR6.out (by omega) (by simp) (by simp)).mono ?_
            rintro x w8 ⟨kd, hkm, rfl, R8, g8⟩
            have HKS := Lib.hid (of3q hkm)
            have HR8 := Lib.hid R8
            have HO8 := Lib.hid (ownsQ_grown8 HO6.out g8 (by omega))
            have HG8 := Lib.hid (grownBy_trans HG6.out g8)
            have hz8 := g8.size
            clear R8 g8 hkm
            go_wp2_with (at_builtin; refine wpList_append_own _ rfl _ _ 34 rfl w4.heap.size 45 i0 (.agg #[.int .i64 0, .int .i64 0, .string ⟨#[]⟩]) 3 32 Tryz.underlying34 hi hi0 hi1 hi2 rfl (by decide) _ _ _ rfl (HO8.out.alloc _) ⟨w8.heap.size, 0, none⟩ 1 1 (cellsQ (k, e, kd)) rfl rfl ?c1 ?c2 ?c3 ?c4 ?c5 ?_)
            case c1 => intro j u hj; match j, hj with | 0, hj => (simp [cellsQ] at hj; subst hj; simp [Addr.add]) | 1, hj => (simp [cellsQ] at hj; subst hj; simp [Addr.add]) | 2, hj => (simp [cellsQ] at hj; subst hj; simp [Addr.add])
            case c2 => intro u hu; simp [cellsQ] at hu; rcases hu with rfl | rfl | rfl <;> rfl
            case c3 => unfold maxLen; omega
            case c4 => omega
            case c5 => simp; omega
            intro v' w9 hown9 hgrow hnil
            have hn9 : v' ≠ .slice none 0 0 := by first | exact hnil | (intro e0; exact hne (hnil.1 e0).1)
            have hlo : ∀ b, u7.ownBlock = some b → w4.heap.size ≤ b := fun b hb => (World.ownsRow.lt HO8.out b hb).1
            have HG9 := Lib.hid (grown_own8 (grownBy_trans HG8.out (World.grownBy_alloc _ _ _)) hgrow (fun b hb => by have := hlo b hb; omega))
            have HR9 := Lib.hid (((HR8.out.alloc _).kept hgrow (fun b hb => by have := hlo b hb; omega)).le (show p + 81 + 3 * k + 1 + 1 ≤ p + 81 + 3 * (e + 1) by omega))
            have HO9 := Lib.hid hown9
            have hz9 := hgrow.size
            have hz9' : w4.heap.size ≤ w9.heap.size := Nat.le_trans (by simp; omega) hz9
            clear hown9 hgrow hnil hlo
            go_wp2
            go_roundw
            case rel =>
              refine ⟨e + 1, l ++ [(k, e, kd)], by go_num, by omega, by simp; omega, ?_, HR9.out, ?_, hn9, HG9.out, hz9'⟩
              · intro c hc
                rcases List.mem_append.1 hc with hc | hc
                · exact HKD.out c hc
                · rw [List.mem_singleton.1 hc]; exact HKS.out
              · have := HO9.out
                show World.ownsRow _ _ _ _ _ _ _
                rw [show flatQ (l ++ [(k, e, kd)]) = flatQ l ++ cellsQ (k, e, kd) by simp [flatQ], List.length_append, List.length_singleton]
                exact this
            case measure => simp [intOf]; omega
          · have heki : ¬ (k : Int) < (e : Int) := by omega
            go_wp2_with fail
            refine (pickR_any g 3 (p + 81 + 3 * k + 1) w6 HR6.out (by omega) (by omega)).mono ?_
            rintro x w7 ⟨q7, rfl, -, R7, g7⟩
            have HR7 := Lib.hid R7
            have HO7 := Lib.hid (ownsQ_grown8 HO6.out g7 (by omega))
            have HG7 := Lib.hid (grownBy_trans HG6.out g7)
            have hz7 := g7.size
            clear R7 g7
            by_cases hq7 : q7 = 0
            · have hq7i : (q7 : Int) = 0 := by omega
              clear hq7
              go_wp2_with fail
              refine (show Calls Tryz.prog 74 #[.pointer (some ⟨g, 0, none⟩), .slice (some ⟨w7.heap.size, 0, none⟩) 3 3] (w7.alloc (.cells #[.string ⟨#[116, 97, 98, 108, 101]⟩, .string ⟨#[98, 105, 116, 115]⟩, .string ⟨#[116, 97, 98, 108, 101]⟩] 9)) _ from ofLit_any g (p + 81 + 3 * k + 1 + 1) [⟨#[116, 97, 98, 108, 101]⟩, ⟨#[98, 105, 116, 115]⟩, ⟨#[116, 97, 98, 108, 101]⟩] w7 HR7.out (by omega) (by simp) (by simp)).mono ?_
              rintro x w8 ⟨kd, hkm, rfl, R8, g8⟩
              have HKS := Lib.hid (of3q hkm)
              have HR8 := Lib.hid R8
              have HO8 := Lib.hid (ownsQ_grown8 HO7.out g8 (by omega))
              have HG8 := Lib.hid (grownBy_trans HG7.out g8)
              have hz8 := g8.size
              clear R8 g8 hkm
              go_wp2_with (at_builtin; refine wpList_append_own _ rfl _ _ 34 rfl w4.heap.size 45 i0 (.agg #[.int .i64 0, .int .i64 0, .string ⟨#[]⟩]) 3 32 Tryz.underlying34 hi hi0 hi1 hi2 rfl (by decide) _ _ _ rfl (HO8.out.alloc _) ⟨w8.heap.size, 0, none⟩ 1 1 (cellsQ (k, e, kd)) rfl rfl ?c1 ?c2 ?c3 ?c4 ?c5 ?_)
              case c1 => intro j u hj; match j, hj with | 0, hj => (simp [cellsQ] at hj; subst hj; simp [Addr.add]) | 1, hj => (simp [cellsQ] at hj; subst hj; simp [Addr.add]) | 2, hj => (simp [cellsQ] at hj; subst hj; simp [Addr.add])
              case c2 => intro u hu; simp [cellsQ] at hu; rcases hu with rfl | rfl | rfl <;> rfl
              case c3 => unfold maxLen; omega
              case c4 => omega
              case c5 => simp; omega
              intro v' w9 hown9 hgrow hnil
              have hn9 : v' ≠ .slice none 0 0 := by first | exact hnil | (intro e0; exact hne (hnil.1 e0).1)
              have hlo : ∀ b, u7.ownBlock = some b → w4.heap.size ≤ b := fun b hb => (World.ownsRow.lt HO8.out b hb).1
              have HG9 := Lib.hid (grown_own8 (grownBy_trans HG8.out (World.grownBy_alloc _ _ _)) hgrow (fun b hb => by have := hlo b hb; omega))
              have HR9 := Lib.hid (((HR8.out.alloc _).kept hgrow (fun b hb => by have := hlo b hb; omega)).le (show p + 81 + 3 * k + 1 + 1 + 1 ≤ p + 81 + 3 * (e + 1) by omega))
              have HO9 := Lib.hid hown9
              have hz9 := hgrow.size
              have hz9' : w4.heap.size ≤ w9.heap.size := Nat.le_trans (by simp; omega) hz9
              clear hown9 hgrow hnil hlo
              go_wp2
              go_roundw
              case rel =>
                refine ⟨e + 1, l ++ [(k, e, kd)], by go_num, by omega, by simp; omega, ?_, HR9.out, ?_, hn9, HG9.out, hz9'⟩
                · intro c hc
                  rcases List.mem_append.1 hc with hc | hc
                  · exact HKD.out c hc
                  · rw [List.mem_singleton.1 hc]; exact HKS.out
                · have := HO9.out
                  show World.ownsRow _ _ _ _ _ _ _
                  rw [show flatQ (l ++ [(k, e, kd)]) = flatQ l ++ cellsQ (k, e, kd) by simp [flatQ], List.length_append, List.length_singleton]
                  exact this
              case measure => simp [intOf]; omega
            · have hq7i : ¬ (q7 : Int) = 0 := by omega
              clear hq7
              obtain ⟨kd, hkd⟩ : ∃ kd : ByteArray, kd = ⟨#[116, 101, 115, 116]⟩ := ⟨_, rfl⟩
              have HKS := Lib.hid (show kd.size ≤ 10 by rw [hkd]; decide)
              rw [← hkd]
              clear hkd
              go_wp2_with (at_builtin; refine wpList_append_own _ rfl _ _ 34 rfl w4.heap.size 45 i0 (.agg #[.int .i64 0, .int .i64 0, .string ⟨#[]⟩]) 3 32 Tryz.underlying34 hi hi0 hi1 hi2 rfl (by decide) _ _ _ rfl (HO7.out.alloc _) ⟨w7.heap.size, 0, none⟩ 1 1 (cellsQ (k, e, kd)) rfl rfl ?c1 ?c2 ?c3 ?c4 ?c5 ?_)
              case c1 => intro j u hj; match j, hj with | 0, hj => (simp [cellsQ] at hj; subst hj; simp [Addr.add]) | 1, hj => (simp [cellsQ] at hj; subst hj; simp [Addr.add]) | 2, hj => (simp [cellsQ] at hj; subst hj; simp [Addr.add])
              case c2 => intro u hu; simp [cellsQ] at hu; rcases hu with rfl | rfl | rfl <;> rfl
              case c3 => unfold maxLen; omega
              case c4 => omega
              case c5 => simp; omega
              intro v' w9 hown9 hgrow hnil
              have hn9 : v' ≠ .slice none 0 0 := by first | exact hnil | (intro e0; exact hne (hnil.1 e0).1)
              have hlo : ∀ b, u7.ownBlock = some b → w4.heap.size ≤ b := fun b hb => (World.ownsRow.lt HO7.out b hb).1
              have HG9 := Lib.hid (grown_own8 (grownBy_trans HG7.out (World.grownBy_alloc _ _ _)) hgrow (fun b hb => by have := hlo b hb; omega))
              have HR9 := Lib.hid (((HR7.out.alloc _).kept hgrow (fun b hb => by have := hlo b hb; omega)).le (show p + 81 + 3 * k + 1 + 1 ≤ p + 81 + 3 * (e + 1) by omega))
              have HO9 := Lib.hid hown9
              have hz9 := hgrow.size
              have hz9' : w4.heap.size ≤ w9.heap.size := Nat.le_trans (by simp; omega) hz9
              clear hown9 hgrow hnil hlo
              go_wp2
              go_roundw
              case rel =>
                refine ⟨e + 1, l ++ [(k, e, kd)], by go_num, by omega, by simp; omega, ?_, HR9.out, ?_, hn9, HG9.out, hz9'⟩
                · intro c hc
                  rcases List.mem_append.1 hc with hc | hc
                  · exact HKD.out c hc
                  · rw [List.mem_singleton.1 hc]; exact HKS.out
                · have := HO9.out
                  show World.ownsRow _ _ _ _ _ _ _
                  rw [show flatQ (l ++ [(k, e, kd)]) = flatQ l ++ cellsQ (k, e, kd) by simp [flatQ], List.length_append, List.length_singleton]
                  exact this
              case measure => simp [intOf]; omega
        · have hkn : ¬ (k : Int) < (D.size : Int) := by omega
          go_wp2_with fail
          refine (pickR_any g 12 (p + 81 + 3 * k) wr HRd.out (by omega) (by omega)).mono ?_
          rintro x w6 ⟨q6, rfl, -, R6, g6⟩
          have HR6 := Lib.hid R6
          have HO6 := Lib.hid (ownsQ_grown8 HOwn.out g6 (by omega))
          have HG6 := Lib.hid (grownBy_trans HG.out g6)
          have hz6 := g6.size
          have hk9 : k ≤ 9 := by omega
          clear R6 g6 x0 x1 hxl hrl HX RX
          by_cases hq6 : q6 = 0
          · have hq6i : (q6 : Int) = 0 := by omega
            clear hq6
            go_wp2_with fail
            refine (pickR_any g 3 (p + 81 + 3 * k + 1) w6 HR6.out (by omega) (by omega)).mono ?_
            rintro x w7 ⟨q7, rfl, hq7, R7, g7⟩
            have hq7 := hq7 (by decide)
            have HR7 := Lib.hid R7
            have HO7 := Lib.hid (ownsQ_grown8 HO6.out g7 (by omega))
            have HG7 := Lib.hid (grownBy_trans HG6.out g7)
            have hz7 := g7.size
            clear R7 g7
            go_wp2_with fail
            refine (l8Kind_any g (p + 81 + 3 * k + 1 + 1) w7 HR7.out (by omega)).mono ?_
            rintro x w8 ⟨kd, hkm, rfl, R8, g8⟩
            have HKS := Lib.hid (Nat.le_trans hkm (show 5 ≤ 10 by decide))
            have HR8 := Lib.hid R8
            have HO8 := Lib.hid (ownsQ_grown8 HO7.out g8 (by omega))
            have HG8 := Lib.hid (grownBy_trans HG7.out g8)
            have hz8 := g8.size
            clear R8 g8 hkm
            go_wp2_with (at_builtin; refine wpList_append_own _ rfl _ _ 34 rfl w4.heap.size 45 i0 (.agg #[.int .i64 0, .int .i64 0, .string ⟨#[]⟩]) 3 32 Tryz.underlying34 hi hi0 hi1 hi2 rfl (by decide) _ _ _ rfl (HO8.out.alloc _) ⟨w8.heap.size, 0, none⟩ 1 1 (cellsQ (0, q7, kd)) rfl rfl ?c1 ?c2 ?c3 ?c4 ?c5 ?_)
            case c1 => intro j u hj; match j, hj with | 0, hj => (simp [cellsQ] at hj; subst hj; simp [Addr.add]) | 1, hj => (simp [cellsQ] at hj; subst hj; simp [Addr.add]) | 2, hj => (simp [cellsQ] at hj; subst hj; simp [Addr.add])
            case c2 => intro u hu; simp [cellsQ] at hu; rcases hu with rfl | rfl | rfl <;> rfl
            case c3 => unfold maxLen; omega
            case c4 => omega
            case c5 => simp; omega
            intro v' w9 hown9 hgrow hnil
            have hn9 : v' ≠ .slice none 0 0 := by first | exact hnil | (intro e0; exact hne (hnil.1 e0).1)
            have hlo : ∀ b, u7.ownBlock = some b → w4.heap.size ≤ b := fun b hb => (World.ownsRow.lt HO8.out b hb).1
            have HG9 := Lib.hid (grown_own8 (grownBy_trans HG8.out (World.grownBy_alloc _ _ _)) hgrow (fun b hb => by have := hlo b hb; omega))
            have HR9 := Lib.hid ((HR8.out.alloc _).kept hgrow (fun b hb => by have := hlo b hb; omega))
            have HO9 := Lib.hid (show OwnsQ w4.heap.size v' (l ++ [(0, q7, kd)]) w9 by
              show World.ownsRow _ _ _ _ _ _ _
              rw [show flatQ (l ++ [(0, q7, kd)]) = flatQ l ++ cellsQ (0, q7, kd) by simp [flatQ], List.length_append, List.length_singleton]
              exact hown9)
            have HX := Lib.hid (HBX.out.kept HG9.out (by simp; omega))
            have RX := Lib.hid (RXB.out.kept HG9.out (by simp; omega))
            have x0 := HX.out.c0
            have x1 := HX.out.c1
            have r0 := RX.out.c0
            have r1 := RX.out.c1
            have r2 := RX.out.z 0
            have r3 := RX.out.z 1
            have hxl := HX.out.lt
            have hrl := RX.out.lt
            clear hown9 hgrow hnil hlo
            go_wp2_with fail
            obtain ⟨RZ, HE⟩ := drewPl_mk (p := p + 200) (r := r) hgw RX.out HS.out (show (l ++ [(0, q7, kd)]).length ≤ 10 by simp; omega) (fun c hc => by
              rcases List.mem_append.1 hc with hc | hc
              · exact HKD.out c hc
              · rw [List.mem_singleton.1 hc]; exact HKS.out) (HRC.out.keptD HG9.out (by simp; omega)) (by omega) hcd hmd (by omega) HO9.out hn9 HR9.out (by omega) (grownBy_trans HGB.out HG9.out)
            refine bodyPost_ret (v := .tuple #[.agg #[.slice (some ⟨gd, 0, none⟩) D.size cd, .int .i64 r], v']) (by simp [results, Tryz.results47, go_sem, RZ.c0, RZ.c1]) rfl HE
          · have hq6i : ¬ (q6 : Int) = 0 := by omega
            clear hq6
            have HX := Lib.hid (HBX.out.kept HG6.out (by simp; omega))
            have RX := Lib.hid (RXB.out.kept HG6.out (by simp; omega))
            have x0 := HX.out.c0
            have x1 := HX.out.c1
            have r0 := RX.out.c0
            have r1 := RX.out.c1
            have r2 := RX.out.z 0
            have r3 := RX.out.z 1
            have hxl := HX.out.lt
            have hrl := RX.out.lt
            go_wp2_with fail
            obtain ⟨RZ, HE⟩ := drewPl_mk (p := p + 200) (r := r) hgw RX.out HS.out (show l.length ≤ 10 by omega) HKD.out (HRC.out.keptD HG6.out (by simp; omega)) (by omega) hcd hmd (by omega) HO6.out hne HR6.out (by omega) (grownBy_trans HGB.out HG6.out)
            refine bodyPost_ret (v := .tuple #[.agg #[.slice (some ⟨gd, 0, none⟩) D.size cd, .int .i64 r], u7]) (by simp [results, Tryz.results47, go_sem, RZ.c0, RZ.c1]) rfl HE
end Go.Proofs.YtjpcpiffffobcaaGreatDoor

namespace Go.Proofs.YtjpcpiffffobcaaGreatDoor
open Go.RowKit Go.Shelf Go.Lib Go.Sort

/-- A switch, a list of clusters and a key have been drawn. -/
def DrewRp (w : World) (x : Ending) (w' : World) : Prop := ∃ (D : Array CaseD) (rest key : Int) (b cap : Nat) (v : Value) (l : List CluP), (SmallSw D 9 ∧ l.length ≤ 10 ∧ ∀ c ∈ l, c.2.2.size ≤ 10) ∧ x = .returned (.tuple #[.agg #[.slice (some ⟨b, 0, none⟩) D.size cap, .int .i64 rest], v, .int .i64 key]) ∧ (RowC w' b 0 D ∧ w.heap.size ≤ b ∧ D.size ≤ cap ∧ cap ≤ maxLen) ∧ (OwnsQ w.heap.size v l w' ∧ v ≠ .slice none 0 0) ∧ RowKit.Below w.heap.size w w'
set_option maxRecDepth 100000 in
set_option maxHeartbeats 4000000 in
theorem drawRunP_any (v : Value) (m : Nat) (w : World) (hb : BytesAt w.heap.size w v m) (hm : m ≤ 1048576) :
    Calls Tryz.prog 27 #[v] w (DrewRp w) := by
  obtain ⟨wa, hwa⟩ : ∃ wa, wa = w.alloc (.cells #[.slice none 0 0, .int .i64 0] 32) := ⟨_, rfl⟩
  have HRX := Lib.hid (show BoxS wa w.heap.size (.slice none 0 0) 0 by rw [hwa]; exact BoxS.new _ _ _)
  have HBA := Lib.hid (show RowKit.Below w.heap.size w wa by rw [hwa]; exact (Below.refl _ _).alloc (Nat.le_refl _) _)
  have hz : w.heap.size < wa.heap.size := by rw [hwa]; simp
  have HOP := Lib.hid (open_any v m wa (bytes_upQ hb HBA.out) hm)
  have HWA := Lib.hid hwa
  clear hwa hb
  go_enter Tryz.func27, Tryz.ntmps27
  go_wp2_with fail
  rw [← HWA.out]
  refine HOP.out.mono ?_
  rintro x w1 ⟨g, rfl, hgl, hR1, hb1⟩
  have HR1 := Lib.hid hR1
  have hgl2 := hR1.1
  have RX1 := Lib.hid (HRX.out.kept (grown_of_below hb1) (by simp))
  have HB1 := Lib.hid (HBA.out.trans (hb1.mono (by omega)))
  have hz1 := hb1.size
  have HSM := Lib.hid (l8Draw_any g 0 w1 HR1.out (by omega))
  clear hR1 hb1
  go_wp2_with fail
  refine HSM.out.mono ?_
  rintro x w2 ⟨D, r, gd, cd, u, l, hs, ⟨hl, hk⟩, rfl, hRC, ⟨hgd, hcd, hmd⟩, ⟨hO, hne⟩, hR2, hG2⟩
  have hz2 := hG2.size
  have hgd2 : gd < w2.heap.size := hRC.old
  have HS := Lib.hid (show SmallSw D 9 ∧ l.length ≤ 10 ∧ ∀ c ∈ l, c.2.2.size ≤ 10 from ⟨hs, hl, hk⟩)
  have RX2 := Lib.hid (RX1.out.kept hG2 (by simp; omega))
  have HB2 := Lib.hid (below_drawn HB1.out hG2 (by omega) (by omega))
  obtain ⟨wb, hwb⟩ : ∃ wb, wb = w2.alloc (.cells #[.slice (some ⟨gd, 0, none⟩) D.size cd, .int .i64 r] 32) := ⟨_, rfl⟩
  have HBX := Lib.hid (show BoxS wb w2.heap.size (.slice (some ⟨gd, 0, none⟩) D.size cd) r by rw [hwb]; exact BoxS.new _ _ _)
  have HRB := Lib.hid (show RdAt wb g 200 by rw [hwb]; exact (hR2.le (by omega)).alloc _)
  have RXB := Lib.hid (show BoxS wb w.heap.size (.slice none 0 0) 0 by rw [hwb]; exact RX2.out.kept (row := none) (World.grownBy_alloc _ _ _) (by simp))
  have HOB := Lib.hid (show RowC wb gd 0 D by rw [hwb]; exact hRC.below ((Below.refl _ _).alloc (Nat.le_refl _) _))
  have HQB := Lib.hid (show OwnsQ w1.heap.size u l wb by rw [hwb]; exact World.ownsRow.alloc hO _)
  have HBB := Lib.hid (show RowKit.Below w.heap.size w wb by rw [hwb]; exact HB2.out.alloc (by omega) _)
  have hzb : w2.heap.size < wb.heap.size := by rw [hwb]; simp
  have hug : u.ownBlock = none ∨ u.ownBlock ≠ some g := by
    cases hu : u.ownBlock with
    | none => exact .inl rfl
    | some k =>
      refine .inr fun e => ?_
      have := (World.ownsRow.lt hO k hu).1
      cases e
      omega
  have huw : u.ownBlock = none ∨ u.ownBlock ≠ some w.heap.size := by
    cases hu : u.ownBlock with
    | none => exact .inl rfl
    | some k =>
      refine .inr fun e => ?_
      have := (World.ownsRow.lt hO k hu).1
      cases e
      omega
  have HUG := Lib.hid hug
  have HUW := Lib.hid huw
  have HNE := Lib.hid hne
  have HWB := Lib.hid hwb
  clear hwb hRC hR2 hG2 hs hl hk hO hug huw hne
  go_wp2_with fail
  rw [← HWB.out]
  have hS0 : wb.drew.cell? ⟨w2.heap.size, 0, none⟩ = some (.slice (some ⟨gd, 0, none⟩) D.size cd) ∧ wb.drew.cell? ⟨w2.heap.size, 1, none⟩ = some (.int .i64 r) := ⟨by simpa using HBX.out.c0, by simpa using HBX.out.c1⟩
  refine wp_region_till (fun W => W.cell? ⟨w2.heap.size, 0, none⟩ = some (.slice (some ⟨gd, 0, none⟩) D.size cd) ∧ W.cell? ⟨w2.heap.size, 1, none⟩ = some (.int .i64 r)) 6 (by kernel_rfl) ?_
  refine wpTill_take (i := 0) (oi := ⟨some 15, .load 32 (.tmp 6), _, _, _, none⟩) (v := (.agg #[.slice (some ⟨gd, 0, none⟩) D.size cd, .int .i64 r])) rfl (by kernel_rfl) (by kernel_rfl) (by kernel_rfl) (by kernel_rfl) (fun _ _ _ h => h) (.inl ⟨by rfl, fun W hW => by have h0 := hW.1; have h1 := hW.2; go_simp⟩) hS0 ?_
  try simp only [Act.put, List.setIfInBounds_toArray, List.set_cons_zero, List.set_cons_succ]
  refine wpTill_take (i := 1) (oi := ⟨some 16, .move (.tmp 7), _, _, _, none⟩) (v := u) rfl (by kernel_rfl) (by kernel_rfl) (by kernel_rfl) (by kernel_rfl) (fun _ _ _ h => h) (.inl ⟨by rfl, fun W hW => by go_simp⟩) hS0 ?_
  try simp only [Act.put, List.setIfInBounds_toArray, List.set_cons_zero, List.set_cons_succ]
  refine wpTill_take (i := 2) (oi := ⟨some 17, .move (.tmp 5), _, _, _, none⟩) (v := (.pointer (some ⟨g, 0, none⟩))) rfl (by kernel_rfl) (by kernel_rfl) (by kernel_rfl) (by kernel_rfl) (fun _ _ _ h => h) (.inl ⟨by rfl, fun W hW => by go_simp⟩) hS0 ?_
  try simp only [Act.put, List.setIfInBounds_toArray, List.set_cons_zero, List.set_cons_succ]
  refine wpTill_one (i := 3) (o := ⟨some 18, _, _, _, _, none⟩) (by kernel_rfl) rfl (fun K hK => ?_)
  refine step_call1 _ (by rfl) 64 (.tmp 17) 78 (by rfl) (enters_of Tryz.func64 (by kernel_rfl) rfl) (.pointer (some ⟨g, 0, none⟩)) (by rfl) ((anyKey_any g 200 wb.drew HRB.out.drew (by omega)).mono ?_)
  rintro _ w3 ⟨key, rfl, -, g3⟩
  refine ⟨_, rfl, ?_⟩
  have G3 := Lib.hid (show wb.grownBy w3 (some g) from ⟨g3.os, g3.tape, g3.output, g3.size, g3.block⟩)
  have BX3 := Lib.hid (HBX.out.kept G3.out (by simp; omega))
  have RX3 := Lib.hid (RXB.out.kept G3.out (by simp; omega))
  have z3 := G3.out.size
  have hS3 : w3.cell? ⟨w2.heap.size, 0, none⟩ = some (.slice (some ⟨gd, 0, none⟩) D.size cd) ∧ w3.cell? ⟨w2.heap.size, 1, none⟩ = some (.int .i64 r) := ⟨BX3.out.c0, BX3.out.c1⟩
  clear g3
  refine hK _ _ (fun _ => hS3) ?_
  clear hK K hS0
  try simp only [Act.put, List.setIfInBounds_toArray, List.set_cons_zero, List.set_cons_succ]
  have q0 := RX3.out.c0
  have q1 := RX3.out.c1
  have q3 := RX3.out.z 0
  have q4 := RX3.out.z 1
  have hql := RX3.out.lt
  refine wpTill_one (i := 4) (o := ⟨none, _, _, _, _, none⟩) (by kernel_rfl) rfl (fun K hK => ?_)
  go_simp
  obtain ⟨RZ, GZ⟩ := put_box RX3.out (.slice (some ⟨gd, 0, none⟩) D.size cd) r
  obtain ⟨w8, hw8⟩ : ∃ w8, w8 = (w3.setCell ⟨w.heap.size, 0, none⟩ (.slice (some ⟨gd, 0, none⟩) D.size cd)).setCell ⟨w.heap.size, 1, none⟩ (.int .i64 r) := ⟨_, rfl⟩
  rw [← hw8] at RZ GZ ⊢
  have BX8 := Lib.hid (BX3.out.kept GZ (by simp; omega))
  have HRZ := Lib.hid RZ
  have HB3 := below_drawn HBB.out G3.out (by omega) (by omega)
  have HBZ := Lib.hid (HB3.grown GZ HB3.size (fun q e => by cases e; exact Nat.le_refl _))
  have HRW := Lib.hid ((HOB.out.keptD G3.out (by simp; omega)).keptD GZ (by simp; omega))
  have HQZ := Lib.hid (show OwnsQ w1.heap.size u l w8 from World.ownsRow.kept (World.ownsRow.kept HQB.out G3.out HUG.out) GZ HUW.out)
  have hS8 : w8.cell? ⟨w2.heap.size, 0, none⟩ = some (.slice (some ⟨gd, 0, none⟩) D.size cd) ∧ w8.cell? ⟨w2.heap.size, 1, none⟩ = some (.int .i64 r) := ⟨BX8.out.c0, BX8.out.c1⟩
  refine hK _ _ (fun _ => hS8) ?_
  clear hK K q0 q1 q3 q4 hql hw8 RZ GZ HB3
  try simp only [Act.put, List.setIfInBounds_toArray, List.set_cons_zero, List.set_cons_succ]
  refine wpTill_one (i := 5) (o := ⟨some 3, _, _, _, _, none⟩) (by kernel_rfl) rfl (fun K hK => ?_)
  go_simp
  refine hK _ _ (fun _ => hS8) ?_
  clear hK K
  try simp only [Act.put, List.setIfInBounds_toArray, List.set_cons_zero, List.set_cons_succ]
  refine wpTill_one (i := 6) (o := ⟨some 4, _, _, _, _, none⟩) (by kernel_rfl) rfl (fun K hK => ?_)
  go_simp
  refine hK _ _ (fun h => absurd (show (true : Bool) = false from h) (by decide)) ?_
  clear hK K
  refine wpTill_done (by kernel_rfl) ?_
  go_wp2_with fail
  refine bodyPost_ret (v := .tuple #[.agg #[.slice (some ⟨gd, 0, none⟩) D.size cd, .int .i64 r], u, .int .i64 key]) (by simp [results, Tryz.results27, go_sem, HRZ.out.c0, HRZ.out.c1]) rfl ⟨D, r, key, gd, cd, u, l, HS.out, rfl, ⟨HRW.out, by omega, hcd, hmd⟩, ⟨ownsQ_mono HQZ.out (by omega), HNE.out⟩, HBZ.out⟩
end Go.Proofs.YtjpcpiffffobcaaGreatDoor
