
/- Reading a tree, the model: the whole tree. -/
import Derived.Test.YtndnbeijmhcepaaDoorKsTreeG
import Derived.Test.YtndnbeijmhcepaaDoorKsDec
namespace Go.Proofs.YtndnbeijmhcepaaDoor
open Go.RowKit Go.Lib

/-- A node of the model that holds a tree: its three fields. -/
def NodeIs (base : Nat) (w : World) : TreeD → ByteArray → Int → Value → Prop
  | .leaf c, tg, _, sd => tg = ⟨#[c]⟩ ∧ ∃ a cap, sd = .slice a 0 cap
  | .cmp k l r, _, k', sd => k' = k ∧ ∃ (B cap : Nat) (tl : ByteArray) (kl : Int) (sl : Value) (tr : ByteArray) (kr : Int) (sr : Value), sd = .slice (some ⟨B, 0, none⟩) 2 cap ∧ base ≤ B ∧ B < w.heap.size ∧
      (w.cell? ⟨B, 0, none⟩ = some (.string tl) ∧ w.cell? ⟨B, 1, none⟩ = some (.int .i64 kl) ∧ w.cell? ⟨B, 2, none⟩ = some sl ∧ w.cell? ⟨B, 3, none⟩ = some (.string tr) ∧ w.cell? ⟨B, 4, none⟩ = some (.int .i64 kr) ∧ w.cell? ⟨B, 5, none⟩ = some sr) ∧ NodeIs base w l tl kl sl ∧ NodeIs base w r tr kr sr
theorem NodeIs.kept {base : Nat} {w w' : World} {row : Option Nat} (hg : w.grownBy w' row) (hr : ∀ q, row = some q → q < base) : ∀ {t : TreeD} {tg : ByteArray} {k : Int} {sd : Value}, NodeIs base w t tg k sd → NodeIs base w' t tg k sd
  | .leaf _, _, _, _, h => h
  | .cmp _ _ _, _, _, _, ⟨e, B, cap, tl, kl, sl, tr, kr, sr, e2, hB, hlt, ⟨h0, h1, h2, h3, h4, h5⟩, hl, hr2⟩ => by
    have hne : some B ≠ row := fun e => absurd (hr B e.symm) (by omega)
    exact ⟨e, B, cap, tl, kl, sl, tr, kr, sr, e2, hB, Nat.lt_of_lt_of_le hlt hg.size, ⟨hg.cell h0 hne, hg.cell h1 hne, hg.cell h2 hne, hg.cell h3 hne, hg.cell h4 hne, hg.cell h5 hne⟩, hl.kept hg hr, hr2.kept hg hr⟩
theorem cell_of {w w' : World} {B o : Nat} {v : Value} (h : w'.heap[B]? = w.heap[B]?) (hc : w.cell? ⟨B, o, none⟩ = some v) : w'.cell? ⟨B, o, none⟩ = some v := (World.cell?_of_block (a := ⟨B, o, none⟩) h).trans hc
/-- Whatever keeps the blocks from base on that were there keeps the node. -/
theorem NodeIs.keptLt {base : Nat} {w w' : World} (hs : w.heap.size ≤ w'.heap.size) (hb : ∀ k, base ≤ k → k < w.heap.size → w'.heap[k]? = w.heap[k]?) : ∀ {t : TreeD} {tg : ByteArray} {k : Int} {sd : Value}, NodeIs base w t tg k sd → NodeIs base w' t tg k sd
  | .leaf _, _, _, _, h => h
  | .cmp _ _ _, _, _, _, ⟨e, B, cap, tl, kl, sl, tr, kr, sr, e2, hB, hlt, ⟨h0, h1, h2, h3, h4, h5⟩, hl, hr2⟩ => by
    have hk := hb B hB hlt
    exact ⟨e, B, cap, tl, kl, sl, tr, kr, sr, e2, hB, Nat.lt_of_lt_of_le hlt hs, ⟨cell_of hk h0, cell_of hk h1, cell_of hk h2, cell_of hk h3, cell_of hk h4, cell_of hk h5⟩, hl.keptLt hs hb, hr2.keptLt hs hb⟩
theorem NodeIs.base {b b' : Nat} (hb : b' ≤ b) {w : World} : ∀ {t : TreeD} {tg : ByteArray} {k : Int} {sd : Value}, NodeIs b w t tg k sd → NodeIs b' w t tg k sd
  | .leaf _, _, _, _, h => h
  | .cmp _ _ _, _, _, _, ⟨e, B, cap, tl, kl, sl, tr, kr, sr, e2, hB, hlt, hc, hl, hr⟩ => ⟨e, B, cap, tl, kl, sl, tr, kr, sr, e2, by omega, hlt, hc, hl.base hb, hr.base hb⟩
theorem NodeIs.slice {b : Nat} {w : World} {t : TreeD} {tg : ByteArray} {k : Int} {sd : Value} (h : NodeIs b w t tg k sd) : ∃ a n cap, sd = .slice a n cap := by
  cases t with
  | leaf c => obtain ⟨_, a, cap, e⟩ := h; exact ⟨_, _, _, e⟩
  | cmp k l r => obtain ⟨_, B, cap, _, _, _, _, _, _, e, _⟩ := h; exact ⟨_, _, _, e⟩

theorem grown_set_new {w W : World} {row : Option Nat} {b : Nat} (h : w.grownBy W row) (hb : w.heap.size ≤ b) (o : Nat) (v : Value) : w.grownBy (W.setCell ⟨b, o, none⟩ v) row := by
  have g := grown_setCell W b o v
  exact ⟨g.os.trans h.os, g.tape.trans h.tape, g.output.trans h.output, Nat.le_trans h.size g.size, fun k hk hne => (g.block k (Nat.lt_of_lt_of_le hk h.size) (by simp; omega)).trans (h.block k hk hne)⟩
theorem grown_set_row {w W : World} {R : Nat} (h : w.grownBy W (some R)) (o : Nat) (v : Value) : w.grownBy (W.setCell ⟨R, o, none⟩ v) (some R) := h.trans (grown_setCell W R o v)
theorem grown_alloc {w W : World} {row : Option Nat} (h : w.grownBy W row) (o : Obj) : w.grownBy (W.alloc o) row := h.trans (World.grownBy_alloc W o row)
theorem grown_drewNT' {w W : World} {row : Option Nat} (h : w.grownBy W row) (n : Nat) : w.grownBy (W.drewN n) row := ⟨h.os, h.tape, h.output, h.size, h.block⟩
theorem RdS.setOther {w : World} {R p : Nat} {s : ByteArray} {b : Bool} (h : RdS w R s p b) {k : Nat} (hk : R ≠ k) (o : Nat) (v : Value) : RdS (w.setCell ⟨k, o, none⟩ v) R s p b := h.kept (grown_setCell w k o v) (by intro e; cases e; exact hk rfl)
theorem RdS.drawn {w : World} {R p : Nat} {s : ByteArray} {b : Bool} (h : RdS w R s p b) (n : Nat) : RdS (w.drewN n) R s p b := h
theorem RdS.alloc {w : World} {R p : Nat} {s : ByteArray} {b : Bool} (h : RdS w R s p b) (o : Obj) : RdS (w.alloc o) R s p b := h.kept (World.grownBy_alloc w o none) (by simp)

/-- What the reader of a node leaves: a node, how much is read, whether it is bad. -/
def NodeOut (R : Nat) (s : ByteArray) (p : Nat) (b : Bool) (o : Option (TreeD × List UInt8)) (w : World) (x : Ending) (w' : World) : Prop :=
  (∃ (t : TreeD) (tg : ByteArray) (k : Int) (sd : Value) (q : Nat) (d : Bool), x = .returned (.agg #[.string tg, .int .i64 k, sd]) ∧ NodeIs w.heap.size w' t tg k sd ∧ RdS w' R s q d ∧ p ≤ q ∧ q ≤ s.size ∧ d = (b || o.isNone) ∧ (d = false → o = some (t, rest s q))) ∧ w.grownBy w' (some R)
def NodeC (f : Nat) : Prop := ∀ (R : Nat) (s : ByteArray) (p : Nat) (b : Bool) (w : World), RdS w R s p b → p ≤ s.size → s.size ≤ 2000000 → (b = false → s.size - p < f) →
  Calls Tryd.prog 62 #[.pointer (some ⟨R, 0, none⟩)] w (NodeOut R s p b (rdG nmL f (rest s p)) w)

set_option maxRecDepth 100000 in
set_option maxHeartbeats 1000000 in
theorem node_end (R : Nat) (s : ByteArray) (p : Nat) (b : Bool) (o : Option (TreeD × List UInt8)) (w : World) (hR : RdS w R s p b) (hp : p ≤ s.size) (hs : s.size ≤ 2000000) (h : b = true ∨ (b = false ∧ s.size ≤ p ∧ o = none)) :
    Calls Tryd.prog 62 #[.pointer (some ⟨R, 0, none⟩)] w (NodeOut R s p b o w) := by
  obtain ⟨wa, hwa⟩ : ∃ wa, wa = w.alloc (.cells #[.string ⟨#[]⟩, .int .i64 0, .slice none 0 0] 59) := ⟨_, rfl⟩
  have hRa : RdS wa R s p b := by rw [hwa]; exact hR.kept (World.grownBy_alloc _ _ none) (by simp)
  have ga : w.grownBy wa (some R) := by rw [hwa]; exact World.grownBy_alloc _ _ _
  have c0 := hRa.c0
  have c1 := hRa.c1
  have c2 := hRa.c2
  have z2 := hRa.z2
  have hX : Box3 wa w.heap.size 59 (.string ⟨#[]⟩) (.int .i64 0) (.slice none 0 0) := by rw [hwa]; exact Box3.new _ _ _ _ _
  have e0 := hX.c0
  have e1 := hX.c1
  have e2 := hX.c2
  have d0 := hX.z 0
  have d1 := hX.z 1
  have d2 := hX.z 2
  have HX := Lib.hid hX
  clear hX
  have hzz : w.heap.size < wa.heap.size := by rw [hwa]; simp
  have hRz : ¬ R = w.heap.size := by have := hR.lt; omega
  have HR := Lib.hid hRa
  have HGA := Lib.hid ga
  have HWA := Lib.hid hwa
  have HNO := Lib.hid (show ∀ x w', (∃ (t : TreeD) (tg : ByteArray) (k : Int) (sd : Value), x = .returned (.agg #[.string tg, .int .i64 k, sd]) ∧ NodeIs w.heap.size w' t tg k sd) ∧ RdS w' R s p true ∧ w.grownBy w' (some R) → NodeOut R s p b o w x w' from fun x w' ⟨⟨t, tg, k, sd, h1, h2⟩, h3, h4⟩ => by
    refine ⟨⟨t, tg, k, sd, p, true, h1, h2, h3, Nat.le_refl _, hp, ?_, fun e => by cases e⟩, h4⟩
    rcases h with h | ⟨_, _, h⟩
    · simp [h]
    · simp [h])
  obtain ⟨P, hP⟩ : ∃ P, P = NodeOut R s p b o w := ⟨_, rfl⟩
  rw [← hP] at HNO ⊢
  clear hP hwa hR hRa ga
  rcases h with rfl | ⟨rfl, hps, rfl⟩
  · go_enter Tryd.func62, Tryd.ntmps62
    go_wp2_with fail
    rw [← HWA.out]
    go_quiet (fail)
    go_wp2
    have HY := (((((HX.out.drawn nq).setOther (Ne.symm hRz) 2 (.bool true)).set0 (.string ⟨#[122]⟩)).set1 (.int .i64 0)).set2 (.slice (some ⟨wa.heap.size, 0, none⟩) 0 0)).alloc (.cells #[] 59)
    refine bodyPost_ret (v := .agg #[.string ⟨#[122]⟩, .int .i64 0, .slice (some ⟨wa.heap.size, 0, none⟩) 0 0]) (by simp [results, Tryd.results62, go_sem, HY.c0, HY.c1, HY.c2]) rfl ?_
    exact HNO.out _ _ ⟨⟨.leaf 122, ⟨#[122]⟩, 0, _, rfl, rfl, _, _, rfl⟩, (((((HR.out.drawn _).setBad true).setOther hRz _ _).setOther hRz _ _).setOther hRz _ _).alloc _,
      grown_alloc (grown_set_new (grown_set_new (grown_set_new (grown_set_row (grown_drewNT' HGA.out _) _ _) (Nat.le_refl _) _ _) (Nat.le_refl _) _ _) (Nat.le_refl _) _ _) _⟩
  · have hpi : (s.size : Int) ≤ (p : Int) := by omega
    go_enter Tryd.func62, Tryd.ntmps62
    go_wp2_with fail
    rw [← HWA.out]
    go_quiet (fail)
    go_wp2
    have HY := (((((HX.out.drawn nq).setOther (Ne.symm hRz) 2 (.bool true)).set0 (.string ⟨#[122]⟩)).set1 (.int .i64 0)).set2 (.slice (some ⟨wa.heap.size, 0, none⟩) 0 0)).alloc (.cells #[] 59)
    refine bodyPost_ret (v := .agg #[.string ⟨#[122]⟩, .int .i64 0, .slice (some ⟨wa.heap.size, 0, none⟩) 0 0]) (by simp [results, Tryd.results62, go_sem, HY.c0, HY.c1, HY.c2]) rfl ?_
    exact HNO.out _ _ ⟨⟨.leaf 122, ⟨#[122]⟩, 0, _, rfl, rfl, _, _, rfl⟩, (((((HR.out.drawn _).setBad true).setOther hRz _ _).setOther hRz _ _).setOther hRz _ _).alloc _,
      grown_alloc (grown_set_new (grown_set_new (grown_set_new (grown_set_row (grown_drewNT' HGA.out _) _ _) (Nat.le_refl _) _ _) (Nat.le_refl _) _ _) (Nat.le_refl _) _ _) _⟩

set_option maxRecDepth 100000 in
set_option maxHeartbeats 1000000 in
theorem node_leaf (R : Nat) (s : ByteArray) (p f : Nat) (w : World) (hR : RdS w R s p false) (hp : p < s.size) (hs : s.size ≤ 2000000) (ht : tgU s[p] = true) :
    Calls Tryd.prog 62 #[.pointer (some ⟨R, 0, none⟩)] w (NodeOut R s p false (rdG nmL (f + 1) (rest s p)) w) := by
  obtain ⟨wa, hwa⟩ : ∃ wa, wa = w.alloc (.cells #[.string ⟨#[]⟩, .int .i64 0, .slice none 0 0] 59) := ⟨_, rfl⟩
  have hRa : RdS wa R s p false := by rw [hwa]; exact hR.kept (World.grownBy_alloc _ _ none) (by simp)
  have ga : w.grownBy wa (some R) := by rw [hwa]; exact World.grownBy_alloc _ _ _
  have c0 := hRa.c0
  have c1 := hRa.c1
  have c2 := hRa.c2
  have z1 := hRa.z1
  have hX : Box3 wa w.heap.size 59 (.string ⟨#[]⟩) (.int .i64 0) (.slice none 0 0) := by rw [hwa]; exact Box3.new _ _ _ _ _
  have e0 := hX.c0
  have e1 := hX.c1
  have e2 := hX.c2
  have d0 := hX.z 0
  have d1 := hX.z 1
  have d2 := hX.z 2
  have HX := Lib.hid hX
  clear hX
  have hzz : w.heap.size < wa.heap.size := by rw [hwa]; simp
  have hRz : ¬ R = w.heap.size := by have := hR.lt; omega
  have HR := Lib.hid hRa
  have HGA := Lib.hid ga
  have HWA := Lib.hid hwa
  have hn40 : ¬ s[p] = 40 := fun e => by rw [e] at ht; revert ht; decide
  have ho : rdG nmL (f + 1) (rest s p) = some (.leaf s[p], rest s (p + 1)) := by
    rw [rest_cons hp]; simp only [rdG, if_neg hn40, if_pos ht]
  rw [ho]
  have HNO := Lib.hid (show ∀ x w', (∃ (tg : ByteArray) (k : Int) (sd : Value), x = .returned (.agg #[.string tg, .int .i64 k, sd]) ∧ NodeIs w.heap.size w' (.leaf s[p]) tg k sd) ∧ RdS w' R s (p + 1) false ∧ w.grownBy w' (some R) → NodeOut R s p false (some (.leaf s[p], rest s (p + 1))) w x w' from fun x w' ⟨⟨tg, k, sd, h1, h2⟩, h3, h4⟩ =>
    ⟨⟨_, tg, k, sd, p + 1, false, h1, h2, h3, by omega, by omega, rfl, fun _ => rfl⟩, h4⟩)
  obtain ⟨P, hP⟩ : ∃ P, P = NodeOut R s p false (some (.leaf s[p], rest s (p + 1))) w := ⟨_, rfl⟩
  rw [← hP] at HNO ⊢
  have hpi : (p : Int) < (s.size : Int) := by omega
  have hti : (inB (s[p].toNat : Int) 97 104 = true) ∨ (inB (s[p].toNat : Int) 97 104 = false ∧ ((s[p].toNat : Int) == 122) = true) := by
    simp only [tgU, Bool.or_eq_true, Bool.and_eq_true, decide_eq_true_eq] at ht
    rcases ht with h | h
    · left; simp [inB]; omega
    · right; simp [inB]; omega
  have hconv : ∀ (z : Int) (n : Nat) (v : Value), Sem.run Tryd.prog (convert 83 9 (.slice (some ⟨wa.heap.size, 0, none⟩) 1 1)) (((wa.drewN n).setCell ⟨R, 1, none⟩ v).alloc (.cells #[.int .u8 z] 5)) = .ok (.string ⟨#[UInt8.ofNat z.toNat]⟩) (((wa.drewN n).setCell ⟨R, 1, none⟩ v).alloc (.cells #[.int .u8 z] 5)) := fun z n v => by
    have := byte_string z ((wa.drewN n).setCell ⟨R, 1, none⟩ v)
    rw [show ((wa.drewN n).setCell ⟨R, 1, none⟩ v).heap.size = wa.heap.size by simp] at this
    exact this
  have hb : (s[p].toNat : Int) ≤ 255 := by have := s[p].toNat_lt; omega
  clear hP hwa hR hRa ga ho ht hn40
  rcases hti with h1 | ⟨h1, h2⟩
  all_goals
    go_enter Tryd.func62, Tryd.ntmps62
    go_wp2_with fail
    rw [← HWA.out]
    go_quiet (fail)
    obtain ⟨n1, hn1⟩ : ∃ n1, n1 = nq := ⟨nq, rfl⟩
    rw [← hn1]
    clear hn1
    go_wp2_with fail
    go_quiet (fail)
    go_wp2_with (go_at_call 57; refine (l1In_any _ _ _ _).mono ?_; rintro e w' ⟨rfl, rfl⟩)
    have HY := ((((((HX.out.drawn (n1 + nq)).setOther (Ne.symm hRz) 1 (.int .i64 ((p : Int) + 1))).set0 (.string ⟨#[s[p]]⟩)).set1 (.int .i64 0)).set2 (.slice (some ⟨wa.heap.size + 1, 0, none⟩) 0 0)).alloc (.cells #[.int .u8 s[p].toNat] 5)).alloc (.cells #[] 59)
    refine bodyPost_ret (v := .agg #[.string ⟨#[s[p]]⟩, .int .i64 0, .slice (some ⟨wa.heap.size + 1, 0, none⟩) 0 0]) (by simp [results, Tryd.results62, go_sem, HY.c0, HY.c1, HY.c2]) rfl ?_
    exact HNO.out _ _ ⟨⟨_, _, _, rfl, rfl, _, _, rfl⟩, ((((((HR.out.drawn (n1 + nq)).setAt (p + 1)).setOther hRz _ _).setOther hRz _ _).setOther hRz _ _).alloc _).alloc _,
      grown_alloc (grown_alloc (grown_set_new (grown_set_new (grown_set_new (grown_set_row (grown_drewNT' HGA.out _) _ _) (Nat.le_refl _) _ _) (Nat.le_refl _) _ _) (Nat.le_refl _) _ _) _) _⟩
end Go.Proofs.YtndnbeijmhcepaaDoor
