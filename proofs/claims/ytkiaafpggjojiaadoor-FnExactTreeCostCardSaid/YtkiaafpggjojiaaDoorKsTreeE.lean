
/- Reading a tree, the program: readTree, which recovers where the reader panics. -/
import Derived.Test.YtkiaafpggjojiaaDoorKsTreeD
import Derived.Defers
import Derived.Recover
import Derived.Laws.Pointers
namespace Go.Proofs.YtkiaafpggjojiaaDoor
open Go.RowKit

theorem catch_panicking (b1 b2 : Nat) (x y : Value) (T : TypeId) (pv : Value) (older : List PanicEntry) (w : World) (h1 : Boxed w b1 61 x) (h2 : Boxed w b2 4 y) (hne : b1 ≠ b2) :
    CallsD Tryd.prog 86 #[.pointer (some ⟨b1, 0, none⟩), .pointer (some ⟨b2, 0, none⟩)] (.panicking ({ v := .iface T pv, recovered := false } :: older)) w fun e u' w' =>
      e = .returned (.tuple #[]) ∧ u' = .panicking ({ v := .iface T pv, recovered := true } :: older) ∧ w' = (w.setCell ⟨b1, 0, none⟩ .nilIface).setCell ⟨b2, 0, none⟩ (.bool false) := by
  have c1 := h1.cell
  have z1 := h1.frozen
  have k2 : Boxed (w.setCell ⟨b1, 0, none⟩ .nilIface) b2 4 y := h2.kept (grownBy_setCell' w b1 _) (by intro e; cases e; exact hne rfl)
  have c2 := k2.cell
  have z2 := k2.frozen
  refine callsD_of_wpS Tryd.func86 rfl fun c₀ cs hu => ?_
  apply wpS_seq
  apply wpS_region
  simp [wpOpsS, go_sem, recoverD, hu, Tryd.ntmps86, Exit.thenS]
  refine wpS_cond (t := true) (by simp [Act.eval, Array.replicate]) ?_
  simp only [if_true]
  apply wpS_region
  simp [wpOpsS, go_sem, c1, z1, c2, z2, bodyPostS, results, Tryd.results86]

theorem catch_idle (a b : Value) (w : World) :
    CallsD Tryd.prog 86 #[a, b] .returning w fun e u' w' => e = .returned (.tuple #[]) ∧ u' = .returning ∧ w' = w := by
  refine callsD_of_wpS Tryd.func86 rfl fun c₀ cs hu => ?_
  apply wpS_seq
  apply wpS_region
  simp [wpOpsS, go_sem, recoverD, hu, Tryd.ntmps86, Exit.thenS]
  refine wpS_cond (t := false) (by simp [Act.eval, Array.replicate]) ?_
  simp only [Bool.false_eq_true, if_false]
  refine wpS_of_wp (wp_skip ?_)
  cases c₀
  simp_all [bodyPostS, results, Tryd.results86]

/-- What readTree hands back. -/
def ReadOut (o : Option TreeD) (w : World) (x : Ending) (w' : World) : Prop :=
  (match o with
   | some t => ∃ v, x = .returned (.tuple #[v, .bool true]) ∧ TreeAt w.heap.size w' t v
   | none => x = .returned (.tuple #[.nilIface, .bool false])) ∧ Below w.heap.size w w'

set_option maxRecDepth 100000 in
set_option maxHeartbeats 2000000 in
theorem readTree_long (s : ByteArray) (hs : 200 < s.size) (w : World) :
    Calls Tryd.prog 48 #[.string s] w fun x w' => x = .returned (.tuple #[.nilIface, .bool false]) ∧ Below w.heap.size w w' := by
  have hmf : ∀ (fn : Fn) (first cap : Array Value) (w : World), (Instr.makeFunc fn first cap).run Tryd.prog w = .ok (.func fn first cap) w := fun _ _ _ _ => rfl
  have hsi : (200 : Int) < (s.size : Int) := by omega
  go_enter_defers Tryd.func48, Tryd.ntmps48
  go_wp2
  simp [bodyPostD, Leaves, results, Tryd.results48, go_sem]
  exact ((Below.refl _ _).alloc (Nat.le_refl _) _).alloc (by simp) _

theorem VarsAt.lt {w : World} (h : VarsAt w) {R : Nat} (hR : w.heap.size ≤ R) : apartR R := by
  obtain ⟨⟨ev, er, a, _, c, _⟩, T, v, t⟩ := h
  have h1 := Lib.lt_of_cell a
  have h2 := Lib.lt_of_cell c
  have h3 := Lib.lt_of_cell t
  simp only at h1 h2 h3
  exact ⟨by omega, by omega, by omega⟩

theorem box_other {W : World} {B B' : Nat} {t : TypeId} {v : Value} (h : Boxed W B t v) (hne : B ≠ B') (u : Value) : Boxed (W.setCell ⟨B', 0, none⟩ u) B t v := h.kept (grownBy_setCell' W B' u) (fun e => hne (by cases e; rfl))
theorem below_set {B b : Nat} {w W : World} (h : Below B w W) (hB : B ≤ w.heap.size) (hb : B ≤ b) (v : Value) : Below B w (W.setCell ⟨b, 0, none⟩ v) := by
  have g := grownBy_setCell' W b v
  exact ⟨g.os.trans h.os, g.tape.trans h.tape, g.output.trans h.output, Nat.le_trans h.size g.size, fun k hk => (g.block k (Nat.lt_of_lt_of_le (Nat.lt_of_lt_of_le hk hB) h.size) (by simp; omega)).trans (h.block k hk)⟩

set_option maxRecDepth 100000 in
set_option maxHeartbeats 2000000 in
theorem readTree_dies (s : ByteArray) (hs : s.size ≤ 200) (hn : rdG bdL (s.size + 1) (ls s) = none) (w : World) (hV : VarsAt w) :
    Calls Tryd.prog 48 #[.string s] w fun x w' => x = .returned (.tuple #[.nilIface, .bool false]) ∧ Below w.heap.size w w' := by
  have hmf : ∀ (fn : Fn) (first cap : Array Value) (w : World), (Instr.makeFunc fn first cap).run Tryd.prog w = .ok (.func fn first cap) w := fun _ _ _ _ => rfl
  have hsi : (s.size : Int) ≤ 200 := by omega
  obtain ⟨W1, hW1⟩ : ∃ W1, W1 = w.alloc (.cells #[.nilIface] 61) := ⟨_, rfl⟩
  obtain ⟨W2, hW2⟩ : ∃ W2, W2 = W1.alloc (.cells #[.bool false] 4) := ⟨_, rfl⟩
  obtain ⟨W3, hW3⟩ : ∃ W3, W3 = W2.alloc (.cells #[.string s] 106) := ⟨_, rfl⟩
  have z1 : W1.heap.size = w.heap.size + 1 := by rw [hW1]; simp
  have z2 : W2.heap.size = w.heap.size + 2 := by rw [hW2]; simp [z1]
  have z3 : W3.heap.size = w.heap.size + 3 := by rw [hW3]; simp [z2]
  have g1 : Below w.heap.size w W1 := by rw [hW1]; exact (Below.refl _ _).alloc (Nat.le_refl _) _
  have g2 : Below w.heap.size w W2 := by rw [hW2]; exact g1.alloc (by omega) _
  have g3 : Below w.heap.size w W3 := by rw [hW3]; exact g2.alloc (by omega) _
  have B1 : Boxed W1 w.heap.size 61 .nilIface := by rw [hW1]; exact Boxed.new _ _ _
  have B2 : Boxed W2 (w.heap.size + 1) 4 (.bool false) := by rw [← z1, hW2]; exact Boxed.new _ _ _
  have C1 : Boxed W3 w.heap.size 61 .nilIface := by rw [hW3]; exact (by rw [hW2]; exact B1.alloc _ : Boxed W2 _ _ _).alloc _
  have C2 : Boxed W3 (w.heap.size + 1) 4 (.bool false) := by rw [hW3]; exact B2.alloc _
  have C3 : RdBox W3 (w.heap.size + 2) s := by rw [← z2, hW3]; exact Boxed.new _ _ _
  have V3 := hV.keptN (grown_of_belowT g3 none)
  have HT := Lib.hid ((tree_any (s.size + 1)).2 s hn (by omega) (by omega) (w.heap.size + 2) W3 C3 V3 (hV.lt (by omega)))
  have HC1 := Lib.hid C1
  have HC2 := Lib.hid C2
  have HG3 := Lib.hid g3
  have HW := Lib.hid (show ((w.alloc (.cells #[.nilIface] 61)).alloc (.cells #[.bool false] 4)).alloc (.cells #[.string s] 106) = W3 by rw [hW3, hW2, hW1])
  have HZ := Lib.hid z3
  clear hW1 hW2 hW3 z1 z2 z3 g1 g2 g3 B1 B2 C1 C2 C3 V3 hV hn
  go_enter_defers Tryd.func48, Tryd.ntmps48
  go_wp2_with fail
  rw [HW.out]
  refine HT.out.mono ?_
  rintro x w4 ⟨⟨T, v, rfl⟩, g4⟩
  have K1 := HC1.out.kept g4 (by simp)
  have K2 := HC2.out.kept g4 (by simp)
  have HG4 := Lib.hid (show Below w.heap.size w w4 from HG3.out.trans ⟨g4.os, g4.tape, g4.output, g4.size, fun k hk => g4.block k (by have := HZ.out; omega) (by simp; omega)⟩)
  clear g4
  go_wp2
  refine leaves_cons (f := 86) (args := #[.pointer (some ⟨w.heap.size, 0, none⟩), .pointer (some ⟨w.heap.size + 1, 0, none⟩)]) (by simp) (by simp [go_sem]) ?_
  refine (catch_panicking w.heap.size (w.heap.size + 1) _ _ T v [] w4 K1 K2 (by omega)).mono ?_
  rintro e u' w'' ⟨rfl, rfl, rfl⟩
  have D1 := (box_other (K1.set .nilIface) (show w.heap.size ≠ w.heap.size + 1 by omega) (.bool false)).cell
  have D2 := ((box_other K2 (show w.heap.size + 1 ≠ w.heap.size by omega) .nilIface).set (.bool false)).cell
  have HF := below_set (below_set HG4.out (Nat.le_refl _) (Nat.le_refl _) .nilIface) (Nat.le_refl _) (Nat.le_succ w.heap.size) (.bool false)
  simp [Leaves, settle, results, Tryd.results48, go_sem, D1, D2]
  exact HF

set_option maxRecDepth 100000 in
set_option maxHeartbeats 4000000 in
theorem readTree_some (s : ByteArray) (t : TreeD) (l : List UInt8) (hs : s.size ≤ 200) (hn : rdG bdL (s.size + 1) (ls s) = some (t, l)) (w : World) (hV : VarsAt w) :
    Calls Tryd.prog 48 #[.string s] w (ReadOut (if textL t = ls s then some t else none) w) := by
  have hmf : ∀ (fn : Fn) (first cap : Array Value) (w : World), (Instr.makeFunc fn first cap).run Tryd.prog w = .ok (.func fn first cap) w := fun _ _ _ _ => rfl
  have hsi : (s.size : Int) ≤ 200 := by omega
  obtain ⟨W1, hW1⟩ : ∃ W1, W1 = w.alloc (.cells #[.nilIface] 61) := ⟨_, rfl⟩
  obtain ⟨W2, hW2⟩ : ∃ W2, W2 = W1.alloc (.cells #[.bool false] 4) := ⟨_, rfl⟩
  obtain ⟨W3, hW3⟩ : ∃ W3, W3 = W2.alloc (.cells #[.string s] 106) := ⟨_, rfl⟩
  have z1 : W1.heap.size = w.heap.size + 1 := by rw [hW1]; simp
  have z2 : W2.heap.size = w.heap.size + 2 := by rw [hW2]; simp [z1]
  have z3 : W3.heap.size = w.heap.size + 3 := by rw [hW3]; simp [z2]
  have g1 : Below w.heap.size w W1 := by rw [hW1]; exact (Below.refl _ _).alloc (Nat.le_refl _) _
  have g2 : Below w.heap.size w W2 := by rw [hW2]; exact g1.alloc (by omega) _
  have g3 : Below w.heap.size w W3 := by rw [hW3]; exact g2.alloc (by omega) _
  have B1 : Boxed W1 w.heap.size 61 .nilIface := by rw [hW1]; exact Boxed.new _ _ _
  have B2 : Boxed W2 (w.heap.size + 1) 4 (.bool false) := by rw [← z1, hW2]; exact Boxed.new _ _ _
  have C1 : Boxed W3 w.heap.size 61 .nilIface := by rw [hW3]; exact (by rw [hW2]; exact B1.alloc _ : Boxed W2 _ _ _).alloc _
  have C2 : Boxed W3 (w.heap.size + 1) 4 (.bool false) := by rw [hW3]; exact B2.alloc _
  have C3 : RdBox W3 (w.heap.size + 2) s := by rw [← z2, hW3]; exact Boxed.new _ _ _
  have V3 := hV.keptN (grown_of_belowT g3 none)
  have HT := Lib.hid ((tree_any (s.size + 1)).1 s t l hn (by omega) (w.heap.size + 2) W3 C3 V3 (hV.lt (by omega)))
  have hgd := rdG_good bdL_good _ _ _ _ hn
  have hlen : (textL t).length ≤ 10000 := by have := hgd.2.1; rw [ls_len] at this; omega
  have HGD := Lib.hid hgd.1
  have HTX := Lib.hid (fun b w v h => nodeText_any t hgd.1 hlen b w v h)
  have HC1 := Lib.hid C1
  have HC2 := Lib.hid C2
  have HG3 := Lib.hid g3
  have HW := Lib.hid (show ((w.alloc (.cells #[.nilIface] 61)).alloc (.cells #[.bool false] 4)).alloc (.cells #[.string s] 106) = W3 by rw [hW3, hW2, hW1])
  have HZ := Lib.hid z3
  have HRO := Lib.hid (show ∀ x w', ReadOut (if textL t = ls s then some t else none) w x w' ↔ ((textT t = s ∧ ∃ v, x = .returned (.tuple #[v, .bool true]) ∧ TreeAt w.heap.size w' t v) ∨ (¬ textT t = s ∧ x = .returned (.tuple #[.nilIface, .bool false]))) ∧ Below w.heap.size w w' from fun x w' => by
    have he : textL t = ls s ↔ textT t = s := ⟨fun h => ls_ext (by rw [← h]; simp [ls, textT]), fun h => by rw [← h]; simp [ls, textT]⟩
    by_cases h : textL t = ls s
    · simp [ReadOut, h, he.1 h]
    · simp [ReadOut, h, show ¬ textT t = s from fun e => h (he.2 e)])
  obtain ⟨q, hq⟩ : ∃ q, q = textT t := ⟨_, rfl⟩
  rw [← hq] at HTX HRO
  obtain ⟨P, hP⟩ : ∃ P, P = ReadOut (if textL t = ls s then some t else none) w := ⟨_, rfl⟩
  rw [← hP] at HRO ⊢
  clear hW1 hW2 hW3 z1 z2 z3 g1 g2 g3 B1 B2 C1 C2 C3 V3 hV hn hgd hlen hq hP
  go_enter_defers Tryd.func48, Tryd.ntmps48
  go_wp2_with fail
  rw [HW.out]
  refine HT.out.mono ?_
  rintro x w4 ⟨⟨v, rfl, tv⟩, _, g4⟩
  obtain ⟨T, u, rfl⟩ := tv.iface
  have K1 := HC1.out.kept g4 (by simp)
  have K2 := HC2.out.kept g4 (by simp)
  have L1 := K1.set (.iface T u)
  have L2 := box_other K2 (show w.heap.size + 1 ≠ w.heap.size by omega) (.iface T u)
  have tv5 : TreeAt (w.heap.size + 3) (w4.setCell ⟨w.heap.size, 0, none⟩ (.iface T u)) t (.iface T u) := by
    have := tv.kept (grownBy_setCell' w4 w.heap.size (.iface T u)) (fun q e => by cases e; have := HZ.out; omega)
    rw [HZ.out] at this
    exact this
  obtain ⟨T', u', f, e, hm, he, hc⟩ := HTX.out _ _ _ tv5
  cases e
  have HG4 := Lib.hid (below_set (show Below w.heap.size w w4 from HG3.out.trans ⟨g4.os, g4.tape, g4.output, g4.size, fun k hk => g4.block k (by have := HZ.out; omega) (by simp; omega)⟩) (Nat.le_refl _) (Nat.le_refl _) (.iface T u))
  have HCL := Lib.hid (hc _ (Below.refl _ _))
  have zz : w.heap.size + 1 < w4.heap.size := by have := g4.size; have := HZ.out; omega
  have k1 := K1.cell
  have k2 := K1.frozen
  have HK2 := Lib.hid K2
  have HL1 := Lib.hid L1
  have HL2 := Lib.hid L2
  have HT5 := Lib.hid tv5
  obtain ⟨w5, hw5⟩ : ∃ w5, w5 = w4.setCell ⟨w.heap.size, 0, none⟩ (.iface T u) := ⟨_, rfl⟩
  have HW5 := Lib.hid hw5
  rw [← hw5] at HG4 HCL HL1 HL2 HT5
  have l1 := HL1.out.cell
  clear g4 tv5 hc K1 K2 L1 L2 tv hw5
  have hqs : (q.toList == s.toList) = true ↔ q = s := by
    rw [beq_iff_eq, ByteArray.toList_eq, ByteArray.toList_eq]
    exact ⟨fun h => ls_ext h, fun h => by rw [h]⟩
  cases hb : (q.toList == s.toList)
  all_goals
    rw [hb] at hqs
    have HQ := Lib.hid hqs
    clear hqs
    go_wp2_with (first | (simp only [← HW5.out]; go_at_fn f; refine HCL.out.mono ?_; rintro e w6 ⟨rfl, hb6⟩; have HB6 := Lib.hid hb6; have M1 := HL1.out.kept (grown_of_belowT hb6 none) (by simp); have M2 := HL2.out.kept (grown_of_belowT hb6 none) (by simp); have m1 := M1.cell; have n1 := M1.frozen; have m2 := M2.cell; have n2 := M2.frozen; have HM1 := Lib.hid M1; have HM2 := Lib.hid M2; clear hb6 M1 M2 l1 k1 k2))
  · refine leaves_cons (f := 86) (args := #[.pointer (some ⟨w.heap.size, 0, none⟩), .pointer (some ⟨w.heap.size + 1, 0, none⟩)]) (by simp) (by simp [go_sem]) ?_
    refine (catch_idle _ _ _).mono ?_
    rintro e u' w'' ⟨rfl, rfl, rfl⟩
    have D1 := (box_other (HM1.out.set (.nilIface)) (show w.heap.size ≠ w.heap.size + 1 by omega) (.bool false)).cell
    have D2 := ((box_other HM2.out (show w.heap.size + 1 ≠ w.heap.size by omega) (.nilIface)).set (.bool false)).cell
    have HF := below_set (below_set (HG4.out.trans (HB6.out.mono HG4.out.size)) (Nat.le_refl _) (Nat.le_refl _) (.nilIface)) (Nat.le_refl _) (Nat.le_succ w.heap.size) (.bool false)
    simp [Leaves, settle, results, Tryd.results48, go_sem, D1, D2]
    exact (HRO.out _ _).2 ⟨.inr ⟨fun e => by (have := HQ.out.2 e; cases this), rfl⟩, HF⟩
  · refine leaves_cons (f := 86) (args := #[.pointer (some ⟨w.heap.size, 0, none⟩), .pointer (some ⟨w.heap.size + 1, 0, none⟩)]) (by simp) (by simp [go_sem]) ?_
    refine (catch_idle _ _ _).mono ?_
    rintro e u' w'' ⟨rfl, rfl, rfl⟩
    have D1 := (box_other (HM1.out.set (.iface T u)) (show w.heap.size ≠ w.heap.size + 1 by omega) (.bool true)).cell
    have D2 := ((box_other HM2.out (show w.heap.size + 1 ≠ w.heap.size by omega) (.iface T u)).set (.bool true)).cell
    have HF := below_set (below_set (HG4.out.trans (HB6.out.mono HG4.out.size)) (Nat.le_refl _) (Nat.le_refl _) (.iface T u)) (Nat.le_refl _) (Nat.le_succ w.heap.size) (.bool true)
    simp [Leaves, settle, results, Tryd.results48, go_sem, D1, D2]
    have HT6 := HT5.out.below HB6.out
    have HT7 := HT6.kept (grownBy_setCell' _ w.heap.size (.iface T u)) (fun q e => by cases e; omega)
    have HT8 := HT7.kept (grownBy_setCell' _ (w.heap.size + 1) (.bool true)) (fun q e => by cases e; omega)
    exact (HRO.out _ _).2 ⟨.inl ⟨HQ.out.1 trivial, _, rfl, HT8.base (Nat.le_add_right w.heap.size 3)⟩, HF⟩

theorem implRead_any (s : ByteArray) (w : World) (hV : VarsAt w) : Calls Tryd.prog 48 #[.string s] w (ReadOut (treeS (ls s)) w) := by
  rw [← treeI_eq]
  by_cases hs : s.size ≤ 200
  · cases hn : rdG bdL (s.size + 1) (ls s) with
    | none =>
      have e : treeI (ls s) = none := by simp only [treeI, ls_len, hn]; split <;> rfl
      rw [e]
      exact readTree_dies s hs hn w hV
    | some q =>
      obtain ⟨t, l⟩ := q
      have e : treeI (ls s) = if textL t = ls s then some t else none := by simp only [treeI, ls_len, hn, if_pos hs]
      rw [e]
      exact readTree_some s t l hs hn w hV
  · have e : treeI (ls s) = none := by simp only [treeI, ls_len, if_neg hs]
    rw [e]
    exact readTree_long s (by omega) w
end Go.Proofs.YtkiaafpggjojiaaDoor
