
/- Trees in the program's memory, and their texts. -/
import Derived.Test.YtndnbeijmhcepaaDoorKsTreeP
import Derived.Test.YtndnbeijmhcepaaDoorKsDec
import Derived.Test.YtndnbeijmhcepaaDoorKsQuiet
import Derived.RangeFuncBox
import Derived.Handy
import Derived.Shelf.Abstract
namespace Go.Proofs.YtndnbeijmhcepaaDoor
open Go.RowKit Go.Shelf

/-- A value of the type node that holds a tree: no block of it lies below base. -/
def TreeAt (base : Nat) (w : World) : TreeD → Value → Prop
  | .leaf c, v => v = .iface 77 (.int .u8 c.toNat)
  | .cmp k l r, v => ∃ (B : Nat) (x y : Value), v = .iface 115 (.pointer (some ⟨B, 0, none⟩)) ∧ base ≤ B ∧ w.heap[B]? = some (.cells #[.int .i64 k, x, y] 117 (0, 0)) ∧ TreeAt base w l x ∧ TreeAt base w r y
theorem TreeAt.kept {base : Nat} {w w' : World} {row : Option Nat} (hg : w.grownBy w' row) (hr : ∀ q, row = some q → q < base) : ∀ {t : TreeD} {v : Value}, TreeAt base w t v → TreeAt base w' t v
  | .leaf _, _, h => h
  | .cmp _ _ _, _, ⟨B, x, y, e, hB, hh, hl, hr2⟩ =>
    ⟨B, x, y, e, hB, (hg.block B (Array.getElem?_eq_some_iff.1 hh).1 (fun e => absurd (hr B e.symm) (by omega))).trans hh, hl.kept hg hr, hr2.kept hg hr⟩
theorem grown_belowT {w w' : World} (h : Below w.heap.size w w') : w.grownBy w' none := ⟨h.os, h.tape, h.output, h.size, fun k hk _ => h.block k hk⟩
theorem TreeAt.below {base : Nat} {w w' : World} (hb : Below w.heap.size w w') {t : TreeD} {v : Value} (h : TreeAt base w t v) : TreeAt base w' t v := h.kept (grown_belowT hb) (fun _ e => by cases e)
theorem TreeAt.base {b b' : Nat} (hb : b' ≤ b) {w : World} : ∀ {t : TreeD} {v : Value}, TreeAt b w t v → TreeAt b' w t v
  | .leaf _, _, h => h
  | .cmp _ _ _, _, ⟨B, x, y, e, hB, hh, hl, hr⟩ => ⟨B, x, y, e, by omega, hh, hl.base hb, hr.base hb⟩
theorem TreeAt.iface {b : Nat} {w : World} {t : TreeD} {v : Value} (h : TreeAt b w t v) : ∃ T u, v = .iface T u := by
  cases t with
  | leaf c => exact ⟨_, _, h⟩
  | cmp k l r => obtain ⟨B, x, y, e, _⟩ := h; exact ⟨_, _, e⟩

def openS : ByteArray := ⟨#[40]⟩
def commaT : ByteArray := ⟨#[44]⟩
def closeS : ByteArray := ⟨#[41]⟩
def textT (t : TreeD) : ByteArray := ⟨(textL t).toArray⟩
theorem textT_size (t : TreeD) : (textT t).size = (textL t).length := by simp [textT, ByteArray.size]
theorem textT_leaf (c : UInt8) : textT (.leaf c) = ⟨#[c]⟩ := rfl
theorem textT_cmp (k : Int) (l r : TreeD) : textT (.cmp k l r) = ((((openS ++ itoaS k) ++ textT l) ++ commaT) ++ textT r) ++ closeS := by
  apply ByteArray.ext
  apply Array.toList_inj.1
  simp [textT, textL, openS, commaT, closeS, itoaS, ByteArray.data_append]

set_option maxHeartbeats 400000 in
theorem ttext_any (c : UInt8) (w : World) : Calls Tryd.prog 47 #[.int .u8 c.toNat] w fun x w' => x = .returned (.string ⟨#[c]⟩) ∧ Below w.heap.size w w' := by
  have hconv := fun z W => byte_string z W
  go_enter Tryd.func47, Tryd.ntmps47
  go_wp2
  go_ret
  exact ⟨retStr (by simp), (Below.refl _ _).alloc (Nat.le_refl _) _⟩

/-- A node's text, whatever its dynamic type. -/
def NodeText (w : World) (s : ByteArray) (x : Value) : Prop := ∃ T u f, x = .iface T u ∧ (∀ W, Sem.run Tryd.prog (method 288 T u "loop.example/keyswitches/impl.text") W = .ok (f, u) W) ∧ (∀ args W, (callFunc f args).run Tryd.prog W = .ok (.enter f args) W) ∧
  ∀ W, Below w.heap.size w W → Calls Tryd.prog f #[u] W fun y W' => y = .returned (.string s) ∧ Below W.heap.size W W'
theorem invokes_t (n : Int) (W : World) : Sem.run Tryd.prog (method 288 77 (.int .u8 n) "loop.example/keyswitches/impl.text") W = .ok (47, .int .u8 n) W := by kernel_rfl
theorem invokes_c (a : Addr) (W : World) : Sem.run Tryd.prog (method 288 115 (.pointer (some a)) "loop.example/keyswitches/impl.text") W = .ok (156, .pointer (some a)) W := by kernel_rfl
theorem nodeText_leaf (c : UInt8) (w : World) : NodeText w (textT (.leaf c)) (.iface 77 (.int .u8 c.toNat)) :=
  ⟨_, _, 47, rfl, invokes_t _, enters_of Tryd.func47 (by kernel_rfl) rfl, fun W _ => ttext_any c W⟩

set_option maxRecDepth 100000 in
set_option maxHeartbeats 1000000 in
theorem ctext_any (k : Int) (hk : 1 ≤ k ∧ k ≤ 31) (B : Nat) (s1 s2 : ByteArray) (T1 T2 : TypeId) (u1 u2 : Value) (g1 g2 : FuncId) (w : World)
    (hB : w.heap[B]? = some (.cells #[.int .i64 k, .iface T1 u1, .iface T2 u2] 117 (0, 0)))
    (hm1 : ∀ W, Sem.run Tryd.prog (method 288 T1 u1 "loop.example/keyswitches/impl.text") W = .ok (g1, u1) W) (he1 : ∀ args W, (callFunc g1 args).run Tryd.prog W = .ok (.enter g1 args) W)
    (hc1 : ∀ p : BW w, Calls Tryd.prog g1 #[u1] p.W fun y W' => y = .returned (.string s1) ∧ Below p.W.heap.size p.W W')
    (hm2 : ∀ W, Sem.run Tryd.prog (method 288 T2 u2 "loop.example/keyswitches/impl.text") W = .ok (g2, u2) W) (he2 : ∀ args W, (callFunc g2 args).run Tryd.prog W = .ok (.enter g2 args) W)
    (hc2 : ∀ p : BW w, Calls Tryd.prog g2 #[u2] p.W fun y W' => y = .returned (.string s2) ∧ Below p.W.heap.size p.W W')
    (hs1 : s1.size ≤ 10000) (hs2 : s2.size ≤ 10000) :
    Calls Tryd.prog 156 #[.pointer (some ⟨B, 0, none⟩)] w fun x w' => x = .returned (.string (((((openS ++ itoaS k) ++ s1) ++ commaT) ++ s2) ++ closeS)) ∧ Below w.heap.size w w' := by
  have hBl : B < w.heap.size := (Array.getElem?_eq_some_iff.1 hB).1
  have c0 : w.cell? ⟨B, 0, none⟩ = some (.int .i64 k) := by simp [World.cell?, hB]
  have c1 : w.cell? ⟨B, 1, none⟩ = some (.iface T1 u1) := by simp [World.cell?, hB]
  have c2 : w.cell? ⟨B, 2, none⟩ = some (.iface T2 u2) := by simp [World.cell?, hB]
  have f0 := fun p : BW w => p.cell (a := ⟨B, 0, none⟩) hBl c0
  have f1 := fun p : BW w => p.cell (a := ⟨B, 1, none⟩) hBl c1
  have f2 := fun p : BW w => p.cell (a := ⟨B, 2, none⟩) hBl c2
  have hit := Lib.hid (fun W => itoa_any k (by omega) (by omega) W)
  have HC1 := Lib.hid hc1
  have HC2 := Lib.hid hc2
  have hsk := itoaS_size (n := k) (by omega) (by omega)
  have HE := Lib.hid (show ∀ x1, x1 = itoaS k → ((((openS ++ itoaS k) ++ s1) ++ commaT) ++ s2) ++ closeS = ((((openS ++ x1) ++ s1) ++ commaT) ++ s2) ++ closeS from fun _ h => by rw [h])
  obtain ⟨x1, hx1⟩ : ∃ x, x = itoaS k := ⟨_, rfl⟩
  rw [← hx1] at hit hsk
  have HX1 := Lib.hid hx1
  clear hx1 c0 c1 c2 hB hc1 hc2
  go_enter Tryd.func156, Tryd.ntmps156
  go_wp2_with fail
  refine wp_region_bw (by kernel_rfl) (by kernel_rfl) ?_
  repeat (go_big_quiet_step ((first | (go_at_fn g1; refine bw_of (HC1.out _)) | (go_at_fn g2; refine bw_of (HC2.out _)) | (go_at_call 52; refine bw_of ((hit.out _).mono fun _ _ h => ⟨h.1, h.2 ▸ Below.refl _ _⟩)))))
  refine wpQuiet_nil ?_
  rintro _ ⟨p, rfl⟩
  go_wp2
  go_ret
  exact ⟨retStr (HE.out _ HX1.out).symm, p.h⟩

theorem nodeText_any : ∀ (t : TreeD), goodT t → (textL t).length ≤ 10000 → ∀ (base : Nat) (w : World) (v : Value), TreeAt base w t v → NodeText w (textT t) v
  | .leaf c, _, _, _, w, _, h => by
    have h' : _ = Value.iface 77 (.int .u8 c.toNat) := h
    rw [h']
    exact nodeText_leaf c w
  | .cmp k l r, hg, hl, base, w, v, h => by
    obtain ⟨B, x, y, rfl, _, hh, hx, hy⟩ := h
    simp only [textL, List.length_cons, List.length_append, List.length_nil] at hl
    obtain ⟨T1, u1, g1, rfl, m1, e1, k1⟩ := nodeText_any l hg.2.1 (by omega) base w x hx
    obtain ⟨T2, u2, g2, rfl, m2, e2, k2⟩ := nodeText_any r hg.2.2 (by omega) base w y hy
    refine ⟨_, _, 156, rfl, invokes_c _, enters_of Tryd.func156 (by kernel_rfl) rfl, fun W hW => ?_⟩
    have hB := (hW.block B (Array.getElem?_eq_some_iff.1 hh).1).trans hh
    have hz := hW.size
    have hc := ctext_any k hg.1 B (textT l) (textT r) T1 T2 u1 u2 g1 g2 W hB m1 e1 (fun p => k1 p.W (hW.trans (p.h.mono hz))) m2 e2 (fun p => k2 p.W (hW.trans (p.h.mono hz))) (by rw [textT_size]; omega) (by rw [textT_size]; omega)
    rw [← textT_cmp] at hc
    exact hc
end Go.Proofs.YtndnbeijmhcepaaDoor
