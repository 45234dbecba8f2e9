
/- Reading a tree, the program: the whole tree. · Reading a tree, the program: readTree, which recovers where the reader panics. -/
import Derived.Test.YtndnbeijmhcepaaDoorKsTreeP
import Derived.Test.YtndnbeijmhcepaaDoorKsTreeT
import Derived.Defers
import Derived.Recover
import Derived.Laws.Pointers
namespace Go.Proofs.YtndnbeijmhcepaaDoor
open Go.RowKit

def TreeOk (f : Nat) : Prop := ∀ (s : ByteArray) (t : TreeD) (l : List UInt8), rdG bdL f (ls s) = some (t, l) → s.size ≤ 100000 → ∀ (R : Nat) (w : World), RdBox w R s → VarsAt w → apartR R →
  Calls Tryd.prog 64 #[rdP R] w fun x w' => (∃ v, x = .returned v ∧ TreeAt w.heap.size w' t v) ∧ (∃ y, ls y = l ∧ RdBox w' R y) ∧ w.grownBy w' (some R)
def TreeNo (f : Nat) : Prop := ∀ (s : ByteArray), rdG bdL f (ls s) = none → s.size < f → s.size ≤ 100000 → ∀ (R : Nat) (w : World), RdBox w R s → VarsAt w → apartR R →
  Calls Tryd.prog 64 #[rdP R] w fun x w' => Dies x ∧ w.grownBy w' (some R)
theorem hasPrefix_any (s : ByteArray) (c : UInt8) (w : World) : Calls Tryd.prog 80 #[.string s, .string (oneS c)] w fun x w' => x = .returned (.bool (skL c (ls s)).isSome) ∧ w' = w := by
  have h := Any.strings_HasPrefix Tryd.lays99 s (oneS c) w
  rw [hp_one] at h
  exact h

set_option maxRecDepth 100000 in
set_option maxHeartbeats 2000000 in
theorem tree_leaf (s : ByteArray) (a : UInt8) (l : List UInt8) (h : ls s = a :: l) (ha : ¬ a = 40) (ht : tgU a = true) (R : Nat) (w : World) (hR : RdBox w R s) :
    Calls Tryd.prog 64 #[rdP R] w fun x w' => (∃ v, x = .returned v ∧ TreeAt w.heap.size w' (.leaf a) v) ∧ (∃ y, ls y = l ∧ RdBox w' R y) ∧ w.grownBy w' (some R) := by
  have hc := hR.cell
  have HP := Lib.hid (hasPrefix_any s 40 w)
  rw [h] at HP
  have HP : Hid (Calls Tryd.prog 80 #[.string s, .string (oneS 40)] w fun x w' => x = .returned (.bool false) ∧ w' = w) := by
    have := HP.out
    rw [show (skL 40 (a :: l)).isSome = false by simp [skL, ha]] at this
    exact Lib.hid this
  have HT := Lib.hid (target_ok R s a l h ht w hR)
  clear h ha ht hR
  go_enter Tryd.func64, Tryd.ntmps64
  go_wp2_with (go_at_call 80; refine HP.out.mono ?_; rintro e w' ⟨rfl, rfl⟩)
  refine HT.out.mono ?_
  rintro x w1 ⟨rfl, hy, hg⟩
  have HY := Lib.hid hy
  have HG := Lib.hid hg
  clear hy hg hc
  go_wp2
  go_ret
  exact ⟨⟨_, rfl, rfl⟩, HY.out, HG.out⟩

set_option maxRecDepth 100000 in
set_option maxHeartbeats 2000000 in
theorem tree_cmp (f : Nat) (ih : TreeOk f) (s : ByteArray) (l0 l1 l2 l4 : List UInt8) (k : Int) (x y : TreeD) (h : ls s = 40 :: l0) (h1 : bdL l0 = some (k, l1)) (h2 : rdG bdL f l1 = some (x, 44 :: l2)) (h3 : rdG bdL f l2 = some (y, 41 :: l4)) (hs : s.size ≤ 100000) (R : Nat) (w : World) (hR : RdBox w R s) (hV : VarsAt w) (hA : apartR R) :
    Calls Tryd.prog 64 #[rdP R] w fun v w' => (∃ u, v = .returned u ∧ TreeAt w.heap.size w' (.cmp k x y) u) ∧ (∃ z, ls z = l4 ∧ RdBox w' R z) ∧ w.grownBy w' (some R) := by
  have hc := hR.cell
  have hRl := hR.lt
  have hlen : l0.length < 100000 := by have := ls_len s; rw [h] at this; simp at this; omega
  have hl1 := (bdL_good _ _ _ h1).2
  have hl2 := (rdG_good bdL_good _ _ _ _ h2).2.2
  have hl3 := (rdG_good bdL_good _ _ _ _ h3).2.2
  have HP : Hid (Calls Tryd.prog 80 #[.string s, .string (oneS 40)] w fun x w' => x = .returned (.bool true) ∧ w' = w) := by
    have := hasPrefix_any s 40 w
    rw [h, show (skL 40 (40 :: l0)).isSome = true by simp [skL]] at this
    exact Lib.hid this
  have S1 := Lib.hid (skip_hit R s 40 l0 (by rw [h]; exact skL_hit _ _) w hR)
  have HIH := Lib.hid ih
  have HV := Lib.hid hV
  have HA := Lib.hid hA
  have H1 := Lib.hid h1
  have H2 := Lib.hid h2
  have H3 := Lib.hid h3
  simp only [List.length_cons] at hl2 hl3
  clear h h1 h2 h3 hR hV hA ih
  go_enter Tryd.func64, Tryd.ntmps64
  go_wp2_with (go_at_call 80; refine HP.out.mono ?_; rintro e w' ⟨rfl, rfl⟩)
  refine S1.out.mono ?_
  rintro _ w1 ⟨rfl, ⟨s1, e1, R1⟩, g1⟩
  have G1 := Lib.hid g1
  have V1 := Lib.hid (HV.out.kept g1 HA.out)
  have z1 : s1.size ≤ 100000 := by rw [← ls_len, e1]; omega
  have B1 := Lib.hid (border_ok R s1 k l1 (by rw [e1]; exact H1.out) w1 z1 R1 V1.out)
  clear g1 e1 R1 z1 hc
  go_wp2_with fail
  refine B1.out.mono ?_
  rintro _ w2 ⟨rfl, ⟨s2, e2, R2⟩, g2⟩
  have G2 := Lib.hid (G1.out.trans g2)
  have V2 := Lib.hid (V1.out.kept g2 HA.out)
  have z2 : s2.size ≤ 100000 := by rw [← ls_len, e2]; omega
  have T2 := Lib.hid (HIH.out s2 x (44 :: l2) (by rw [e2]; exact H2.out) z2 R w2 R2 V2.out HA.out)
  clear g2 e2 R2 z2
  go_wp2_with fail
  refine T2.out.mono ?_
  rintro _ w3 ⟨⟨u1, rfl, t1⟩, ⟨s3, e3, R3⟩, g3⟩
  obtain ⟨T1, p1, rfl⟩ := t1.iface
  have X3 := Lib.hid (t1.base G2.out.size)
  have G3 := Lib.hid (G2.out.trans g3)
  have V3 := Lib.hid (V2.out.kept g3 HA.out)
  have z3 : s3.size ≤ 100000 := by rw [← ls_len, e3]; simp; omega
  have S3 := Lib.hid (skip_hit R s3 44 l2 (by rw [e3]; exact skL_hit _ _) w3 R3)
  clear g3 e3 R3 z3 t1
  go_wp2_with fail
  refine S3.out.mono ?_
  rintro _ w4 ⟨rfl, ⟨s4, e4, R4⟩, g4⟩
  have X4 := Lib.hid (X3.out.kept g4 (fun q e => by cases e; exact hRl))
  have G4 := Lib.hid (G3.out.trans g4)
  have V4 := Lib.hid (V3.out.kept g4 HA.out)
  have z4 : s4.size ≤ 100000 := by rw [← ls_len, e4]; omega
  have T4 := Lib.hid (HIH.out s4 y (41 :: l4) (by rw [e4]; exact H3.out) z4 R w4 R4 V4.out HA.out)
  clear g4 e4 R4 z4
  go_wp2_with fail
  refine T4.out.mono ?_
  rintro _ w5 ⟨⟨u2, rfl, t2⟩, ⟨s5, e5, R5⟩, g5⟩
  obtain ⟨T2, p2, rfl⟩ := t2.iface
  have X5 := Lib.hid (X4.out.kept g5 (fun q e => by cases e; exact hRl))
  have Y5 := Lib.hid (t2.base G4.out.size)
  have G5 := Lib.hid (G4.out.trans g5)
  have S5 := Lib.hid (skip_hit R s5 41 l4 (by rw [e5]; exact skL_hit _ _) w5 R5)
  clear g5 e5 R5 t2
  go_wp2_with fail
  refine S5.out.mono ?_
  rintro _ w6 ⟨rfl, hz6, g6⟩
  have X6 := Lib.hid (X5.out.kept g6 (fun q e => by cases e; exact hRl))
  have Y6 := Lib.hid (Y5.out.kept g6 (fun q e => by cases e; exact hRl))
  have G6 := Lib.hid (G5.out.trans g6)
  have Z6 := Lib.hid hz6
  clear g6 hz6
  go_wp2
  go_ret
  have ga := World.grownBy_alloc w6 (.cells #[.int .i64 k, .iface T1 p1, .iface T2 p2] 117) (some R)
  have gn := World.grownBy_alloc w6 (.cells #[.int .i64 k, .iface T1 p1, .iface T2 p2] 117) none
  obtain ⟨z, hz, hzR⟩ := Z6.out
  exact ⟨⟨_, rfl, _, _, _, rfl, G6.out.size, World.alloc_heap_new _ _, X6.out.kept gn (fun q e => by cases e), Y6.out.kept gn (fun q e => by cases e)⟩, ⟨z, hz, hzR.alloc _⟩, G6.out.trans ga⟩

set_option maxRecDepth 100000 in
set_option maxHeartbeats 2000000 in
theorem tree_dies_target (s : ByteArray) (h0 : skL 40 (ls s) = none) (h : ∀ a l, ls s = a :: l → tgU a = false) (R : Nat) (w : World) (hR : RdBox w R s) (hV : VarsAt w) :
    Calls Tryd.prog 64 #[rdP R] w fun x w' => Dies x ∧ w.grownBy w' (some R) := by
  have hc := hR.cell
  have HP : Hid (Calls Tryd.prog 80 #[.string s, .string (oneS 40)] w fun x w' => x = .returned (.bool false) ∧ w' = w) := by
    have := hasPrefix_any s 40 w
    rw [h0] at this
    exact Lib.hid this
  have HT := Lib.hid (target_no R s h w hR hV)
  clear h h0 hR hV
  go_enter Tryd.func64, Tryd.ntmps64
  go_wp2_with (go_at_call 80; refine HP.out.mono ?_; rintro e w' ⟨rfl, rfl⟩)
  refine HT.out.mono ?_
  rintro x w1 ⟨⟨T, v, rfl⟩, hg⟩
  have HG := Lib.hid hg
  clear hg hc
  go_wp2
  exact ⟨rfl, ⟨_, _, rfl⟩, HG.out⟩

set_option maxRecDepth 100000 in
set_option maxHeartbeats 4000000 in
theorem tree_dies_cmp (f : Nat) (ihO : TreeOk f) (ihN : TreeNo f) (s : ByteArray) (l0 : List UInt8) (h : ls s = 40 :: l0) (hn : rdG bdL (f + 1) (40 :: l0) = none) (hf : s.size < f + 1) (hs : s.size ≤ 100000) (R : Nat) (w : World) (hR : RdBox w R s) (hV : VarsAt w) (hA : apartR R) :
    Calls Tryd.prog 64 #[rdP R] w fun v w' => Dies v ∧ w.grownBy w' (some R) := by
  have hc := hR.cell
  have hlen : l0.length + 1 = s.size := by have := ls_len s; rw [h] at this; simpa using this
  have HP : Hid (Calls Tryd.prog 80 #[.string s, .string (oneS 40)] w fun x w' => x = .returned (.bool true) ∧ w' = w) := by
    have := hasPrefix_any s 40 w
    rw [h, show (skL 40 (40 :: l0)).isSome = true by simp [skL]] at this
    exact Lib.hid this
  have S1 := Lib.hid (skip_hit R s 40 l0 (by rw [h]; exact skL_hit _ _) w hR)
  have HIO := Lib.hid ihO
  have HIN := Lib.hid ihN
  have HV := Lib.hid hV
  have HA := Lib.hid hA
  have HNN := Lib.hid hn
  clear h hR hV hA ihO ihN hn
  go_enter Tryd.func64, Tryd.ntmps64
  go_wp2_with (go_at_call 80; refine HP.out.mono ?_; rintro e w' ⟨rfl, rfl⟩)
  refine S1.out.mono ?_
  rintro _ w1 ⟨rfl, ⟨s1, e1, R1⟩, g1⟩
  have G1 := Lib.hid g1
  have V1 := Lib.hid (HV.out.kept g1 HA.out)
  have z1 : s1.size ≤ 100000 := by rw [← ls_len, e1]; omega
  cases h1 : bdL l0 with
  | none =>
    have B1 := Lib.hid (border_no R s1 (by rw [e1]; exact h1) w1 z1 R1 V1.out)
    clear g1 e1 R1 z1 hc h1
    go_wp2_with fail
    refine B1.out.mono ?_
    rintro _ w2 ⟨⟨T, v, rfl⟩, g2⟩
    have G2 := Lib.hid (G1.out.trans g2)
    clear g2
    go_wp2
    exact ⟨rfl, ⟨_, _, rfl⟩, G2.out⟩
  | some q =>
    obtain ⟨k, l1⟩ := q
    have B1 := Lib.hid (border_ok R s1 k l1 (by rw [e1]; exact h1) w1 z1 R1 V1.out)
    have hl1 := (bdL_good _ _ _ h1).2
    have H1 := Lib.hid h1
    clear g1 e1 R1 z1 hc h1
    go_wp2_with fail
    refine B1.out.mono ?_
    rintro _ w2 ⟨rfl, ⟨s2, e2, R2⟩, g2⟩
    have G2 := Lib.hid (G1.out.trans g2)
    have V2 := Lib.hid (V1.out.kept g2 HA.out)
    have z2 : s2.size ≤ 100000 := by rw [← ls_len, e2]; omega
    have y2 : s2.size < f := by rw [← ls_len, e2]; omega
    cases h2 : rdG bdL f l1 with
    | none =>
      have T2 := Lib.hid (HIN.out s2 (by rw [e2]; exact h2) y2 z2 R w2 R2 V2.out HA.out)
      clear g2 e2 R2 z2 h2 y2
      go_wp2_with fail
      refine T2.out.mono ?_
      rintro _ w3 ⟨⟨T, v, rfl⟩, g3⟩
      have G3 := Lib.hid (G2.out.trans g3)
      clear g3
      go_wp2
      exact ⟨rfl, ⟨_, _, rfl⟩, G3.out⟩
    | some q =>
      obtain ⟨x, l2⟩ := q
      have hl2 := (rdG_good bdL_good _ _ _ _ h2).2.2
      have T2 := Lib.hid (HIO.out s2 x l2 (by rw [e2]; exact h2) z2 R w2 R2 V2.out HA.out)
      have H2 := Lib.hid h2
      clear g2 e2 R2 z2 h2 y2
      go_wp2_with fail
      refine T2.out.mono ?_
      rintro _ w3 ⟨⟨u1, rfl, t1⟩, ⟨s3, e3, R3⟩, g3⟩
      obtain ⟨T1, p1, rfl⟩ := t1.iface
      have G3 := Lib.hid (G2.out.trans g3)
      have V3 := Lib.hid (V2.out.kept g3 HA.out)
      cases h3 : skL 44 l2 with
      | none =>
        have S3 := Lib.hid (skip_miss R s3 44 (by rw [e3]; exact h3) w3 R3 V3.out)
        clear g3 e3 R3 t1 h3
        go_wp2_with fail
        refine S3.out.mono ?_
        rintro _ w4 ⟨⟨T, v, rfl⟩, g4⟩
        have G4 := Lib.hid (G3.out.trans g4)
        clear g4
        go_wp2
        exact ⟨rfl, ⟨_, _, rfl⟩, G4.out⟩
      | some l3 =>
        have S3 := Lib.hid (skip_hit R s3 44 l3 (by rw [e3]; exact h3) w3 R3)
        have H3 := Lib.hid h3
        have hl3 : l3.length + 1 = l2.length := by rw [skL_some h3]; rfl
        clear g3 e3 R3 t1 h3
        go_wp2_with fail
        refine S3.out.mono ?_
        rintro _ w4 ⟨rfl, ⟨s4, e4, R4⟩, g4⟩
        have G4 := Lib.hid (G3.out.trans g4)
        have V4 := Lib.hid (V3.out.kept g4 HA.out)
        have z4 : s4.size ≤ 100000 := by rw [← ls_len, e4]; omega
        have y4 : s4.size < f := by rw [← ls_len, e4]; omega
        cases h4 : rdG bdL f l3 with
        | none =>
          have T4 := Lib.hid (HIN.out s4 (by rw [e4]; exact h4) y4 z4 R w4 R4 V4.out HA.out)
          clear g4 e4 R4 z4 h4 y4
          go_wp2_with fail
          refine T4.out.mono ?_
          rintro _ w5 ⟨⟨T, v, rfl⟩, g5⟩
          have G5 := Lib.hid (G4.out.trans g5)
          clear g5
          go_wp2
          exact ⟨rfl, ⟨_, _, rfl⟩, G5.out⟩
        | some q =>
          obtain ⟨y, l4⟩ := q
          have T4 := Lib.hid (HIO.out s4 y l4 (by rw [e4]; exact h4) z4 R w4 R4 V4.out HA.out)
          have h5 : skL 41 l4 = none := by
            have := HNN.out
            simp only [rdG, if_true, H1.out, H2.out, H3.out, h4] at this
            cases h5 : skL 41 l4 with
            | none => rfl
            | some l5 => rw [h5] at this; cases this
          have H5 := Lib.hid h5
          clear g4 e4 R4 z4 h4 y4 h5
          go_wp2_with fail
          refine T4.out.mono ?_
          rintro _ w5 ⟨⟨u2, rfl, t2⟩, ⟨s5, e5, R5⟩, g5⟩
          obtain ⟨T2, p2, rfl⟩ := t2.iface
          have G5 := Lib.hid (G4.out.trans g5)
          have V5 := Lib.hid (V4.out.kept g5 HA.out)
          have S5 := Lib.hid (skip_miss R s5 41 (by rw [e5]; exact H5.out) w5 R5 V5.out)
          clear g5 e5 R5 t2
          go_wp2_with fail
          refine S5.out.mono ?_
          rintro _ w6 ⟨⟨T, v, rfl⟩, g6⟩
          have G6 := Lib.hid (G5.out.trans g6)
          clear g6
          go_wp2
          exact ⟨rfl, ⟨_, _, rfl⟩, G6.out⟩

theorem tree_any : ∀ f, TreeOk f ∧ TreeNo f
  | 0 => ⟨fun _ _ _ h => by (cases h), fun _ _ h => absurd h (Nat.not_lt_zero _)⟩
  | f + 1 => by
    obtain ⟨io, ino⟩ := tree_any f
    constructor
    · intro s t l h hs R w hR hV hA
      cases hl : ls s with
      | nil => rw [hl] at h; cases h
      | cons a l0 =>
        rw [hl] at h
        by_cases ha : a = 40
        · subst ha
          obtain ⟨k, l1, x, l2, y, l4, h1, h2, h3, rfl, rfl⟩ := rdG_cmp h
          exact tree_cmp f io s l0 l1 l2 _ k x y hl h1 h2 h3 hs R w hR hV hA
        · obtain ⟨ht, rfl, rfl⟩ := rdG_leaf ha h
          exact tree_leaf s a l hl ha ht R w hR
    · intro s h hf hs R w hR hV hA
      cases hl : ls s with
      | nil => exact tree_dies_target s (by rw [hl]; rfl) (fun a l e => by rw [hl] at e; cases e) R w hR hV
      | cons a l0 =>
        by_cases ha : a = 40
        · subst ha
          exact tree_dies_cmp f io ino s l0 hl (by rw [← hl]; exact h) hf hs R w hR hV hA
        · refine tree_dies_target s (by rw [hl]; simp [skL, ha]) (fun b l e => ?_) R w hR hV
          rw [hl] at e h
          cases e
          simp only [rdG, if_neg ha] at h
          split at h
          · cases h
          · simpa using ‹¬ tgU a = true›
end Go.Proofs.YtndnbeijmhcepaaDoor

namespace Go.Proofs.YtndnbeijmhcepaaDoor
open Go.RowKit

theorem catch_panicking (b1 b2 : Nat) (x y : Value) (T : TypeId) (pv : Value) (older : List PanicEntry) (w : World) (h1 : Boxed w b1 69 x) (h2 : Boxed w b2 4 y) (hne : b1 ≠ b2) :
    CallsD Tryd.prog 63 #[.pointer (some ⟨b1, 0, none⟩), .pointer (some ⟨b2, 0, none⟩)] (.panicking ({ v := .iface T pv, recovered := false } :: older)) w fun e u' w' =>
      e = .returned (.tuple #[]) ∧ u' = .panicking ({ v := .iface T pv, recovered := true } :: older) ∧ w' = (w.setCell ⟨b1, 0, none⟩ .nilIface).setCell ⟨b2, 0, none⟩ (.bool false) := by
  have c1 := h1.cell
  have z1 := h1.frozen
  have k2 : Boxed (w.setCell ⟨b1, 0, none⟩ .nilIface) b2 4 y := h2.kept (grownBy_setCell' w b1 _) (by intro e; cases e; exact hne rfl)
  have c2 := k2.cell
  have z2 := k2.frozen
  refine callsD_of_wpS Tryd.func63 rfl fun c₀ cs hu => ?_
  apply wpS_seq
  apply wpS_region
  simp [wpOpsS, go_sem, recoverD, hu, Tryd.ntmps63, Exit.thenS]
  refine wpS_cond (t := true) (by simp [Act.eval, Array.replicate]) ?_
  simp only [if_true]
  apply wpS_region
  simp [wpOpsS, go_sem, c1, z1, c2, z2, bodyPostS, results, Tryd.results63]

theorem catch_idle (a b : Value) (w : World) :
    CallsD Tryd.prog 63 #[a, b] .returning w fun e u' w' => e = .returned (.tuple #[]) ∧ u' = .returning ∧ w' = w := by
  refine callsD_of_wpS Tryd.func63 rfl fun c₀ cs hu => ?_
  apply wpS_seq
  apply wpS_region
  simp [wpOpsS, go_sem, recoverD, hu, Tryd.ntmps63, Exit.thenS]
  refine wpS_cond (t := false) (by simp [Act.eval, Array.replicate]) ?_
  simp only [Bool.false_eq_true, if_false]
  refine wpS_of_wp (wp_skip ?_)
  cases c₀
  simp_all [bodyPostS, results, Tryd.results63]

/-- What readTree hands back. -/
def ReadOut (o : Option TreeD) (w : World) (x : Ending) (w' : World) : Prop :=
  (match o with
   | some t => ∃ v, x = .returned (.tuple #[v, .bool true]) ∧ TreeAt w.heap.size w' t v
   | none => x = .returned (.tuple #[.nilIface, .bool false])) ∧ Below w.heap.size w w'

set_option maxRecDepth 100000 in
set_option maxHeartbeats 2000000 in
theorem readTree_long (s : ByteArray) (hs : 200 < s.size) (w : World) :
    Calls Tryd.prog 43 #[.string s] w fun x w' => x = .returned (.tuple #[.nilIface, .bool false]) ∧ Below w.heap.size w w' := by
  have hmf : ∀ (fn : Fn) (first cap : Array Value) (w : World), (Instr.makeFunc fn first cap).run Tryd.prog w = .ok (.func fn first cap) w := fun _ _ _ _ => rfl
  have hsi : (200 : Int) < (s.size : Int) := by omega
  go_enter_defers Tryd.func43, Tryd.ntmps43
  go_wp2
  simp [bodyPostD, Leaves, results, Tryd.results43, go_sem]
  exact ((Below.refl _ _).alloc (Nat.le_refl _) _).alloc (by simp) _

theorem VarsAt.lt {w : World} (h : VarsAt w) {R : Nat} (hR : w.heap.size ≤ R) : apartR R := by
  obtain ⟨⟨ev, er, a, _, c, _⟩, T, v, t⟩ := h
  have h1 := Lib.lt_of_cell a
  have h2 := Lib.lt_of_cell c
  have h3 := Lib.lt_of_cell t
  simp only at h1 h2 h3
  exact ⟨by omega, by omega, by omega⟩

theorem box_other {W : World} {B B' : Nat} {t : TypeId} {v : Value} (h : Boxed W B t v) (hne : B ≠ B') (u : Value) : Boxed (W.setCell ⟨B', 0, none⟩ u) B t v := h.kept (grownBy_setCell' W B' u) (fun e => hne (by cases e; rfl))
theorem below_set {B b : Nat} {w W : World} (h : Below B w W) (hB : B ≤ w.heap.size) (hb : B ≤ b) (v : Value) : Below B w (W.setCell ⟨b, 0, none⟩ v) := by
  have g := grownBy_setCell' W b v
  exact ⟨g.os.trans h.os, g.tape.trans h.tape, g.output.trans h.output, Nat.le_trans h.size g.size, fun k hk => (g.block k (Nat.lt_of_lt_of_le (Nat.lt_of_lt_of_le hk hB) h.size) (by simp; omega)).trans (h.block k hk)⟩

set_option maxRecDepth 100000 in
set_option maxHeartbeats 2000000 in
theorem readTree_dies (s : ByteArray) (hs : s.size ≤ 200) (hn : rdG bdL (s.size + 1) (ls s) = none) (w : World) (hV : VarsAt w) :
    Calls Tryd.prog 43 #[.string s] w fun x w' => x = .returned (.tuple #[.nilIface, .bool false]) ∧ Below w.heap.size w w' := by
  have hmf : ∀ (fn : Fn) (first cap : Array Value) (w : World), (Instr.makeFunc fn first cap).run Tryd.prog w = .ok (.func fn first cap) w := fun _ _ _ _ => rfl
  have hsi : (s.size : Int) ≤ 200 := by omega
  obtain ⟨W1, hW1⟩ : ∃ W1, W1 = w.alloc (.cells #[.nilIface] 69) := ⟨_, rfl⟩
  obtain ⟨W2, hW2⟩ : ∃ W2, W2 = W1.alloc (.cells #[.bool false] 4) := ⟨_, rfl⟩
  obtain ⟨W3, hW3⟩ : ∃ W3, W3 = W2.alloc (.cells #[.string s] 102) := ⟨_, rfl⟩
  have z1 : W1.heap.size = w.heap.size + 1 := by rw [hW1]; simp
  have z2 : W2.heap.size = w.heap.size + 2 := by rw [hW2]; simp [z1]
  have z3 : W3.heap.size = w.heap.size + 3 := by rw [hW3]; simp [z2]
  have g1 : Below w.heap.size w W1 := by rw [hW1]; exact (Below.refl _ _).alloc (Nat.le_refl _) _
  have g2 : Below w.heap.size w W2 := by rw [hW2]; exact g1.alloc (by omega) _
  have g3 : Below w.heap.size w W3 := by rw [hW3]; exact g2.alloc (by omega) _
  have B1 : Boxed W1 w.heap.size 69 .nilIface := by rw [hW1]; exact Boxed.new _ _ _
  have B2 : Boxed W2 (w.heap.size + 1) 4 (.bool false) := by rw [← z1, hW2]; exact Boxed.new _ _ _
  have C1 : Boxed W3 w.heap.size 69 .nilIface := by rw [hW3]; exact (by rw [hW2]; exact B1.alloc _ : Boxed W2 _ _ _).alloc _
  have C2 : Boxed W3 (w.heap.size + 1) 4 (.bool false) := by rw [hW3]; exact B2.alloc _
  have C3 : RdBox W3 (w.heap.size + 2) s := by rw [← z2, hW3]; exact Boxed.new _ _ _
  have V3 := hV.keptN (grown_of_belowT g3 none)
  have HT := Lib.hid ((tree_any (s.size + 1)).2 s hn (by omega) (by omega) (w.heap.size + 2) W3 C3 V3 (hV.lt (by omega)))
  have HC1 := Lib.hid C1
  have HC2 := Lib.hid C2
  have HG3 := Lib.hid g3
  have HW := Lib.hid (show ((w.alloc (.cells #[.nilIface] 69)).alloc (.cells #[.bool false] 4)).alloc (.cells #[.string s] 102) = W3 by rw [hW3, hW2, hW1])
  have HZ := Lib.hid z3
  clear hW1 hW2 hW3 z1 z2 z3 g1 g2 g3 B1 B2 C1 C2 C3 V3 hV hn
  go_enter_defers Tryd.func43, Tryd.ntmps43
  go_wp2_with fail
  rw [HW.out]
  refine HT.out.mono ?_
  rintro x w4 ⟨⟨T, v, rfl⟩, g4⟩
  have K1 := HC1.out.kept g4 (by simp)
  have K2 := HC2.out.kept g4 (by simp)
  have HG4 := Lib.hid (show Below w.heap.size w w4 from HG3.out.trans ⟨g4.os, g4.tape, g4.output, g4.size, fun k hk => g4.block k (by have := HZ.out; omega) (by simp; omega)⟩)
  clear g4
  go_wp2
  refine leaves_cons (f := 63) (args := #[.pointer (some ⟨w.heap.size, 0, none⟩), .pointer (some ⟨w.heap.size + 1, 0, none⟩)]) (by simp) (by simp [go_sem]) ?_
  refine (catch_panicking w.heap.size (w.heap.size + 1) _ _ T v [] w4 K1 K2 (by omega)).mono ?_
  rintro e u' w'' ⟨rfl, rfl, rfl⟩
  have D1 := (box_other (K1.set .nilIface) (show w.heap.size ≠ w.heap.size + 1 by omega) (.bool false)).cell
  have D2 := ((box_other K2 (show w.heap.size + 1 ≠ w.heap.size by omega) .nilIface).set (.bool false)).cell
  have HF := below_set (below_set HG4.out (Nat.le_refl _) (Nat.le_refl _) .nilIface) (Nat.le_refl _) (Nat.le_succ w.heap.size) (.bool false)
  simp [Leaves, settle, results, Tryd.results43, go_sem, D1, D2]
  exact HF

set_option maxRecDepth 100000 in
set_option maxHeartbeats 4000000 in
theorem readTree_some (s : ByteArray) (t : TreeD) (l : List UInt8) (hs : s.size ≤ 200) (hn : rdG bdL (s.size + 1) (ls s) = some (t, l)) (w : World) (hV : VarsAt w) :
    Calls Tryd.prog 43 #[.string s] w (ReadOut (if textL t = ls s then some t else none) w) := by
  have hmf : ∀ (fn : Fn) (first cap : Array Value) (w : World), (Instr.makeFunc fn first cap).run Tryd.prog w = .ok (.func fn first cap) w := fun _ _ _ _ => rfl
  have hsi : (s.size : Int) ≤ 200 := by omega
  obtain ⟨W1, hW1⟩ : ∃ W1, W1 = w.alloc (.cells #[.nilIface] 69) := ⟨_, rfl⟩
  obtain ⟨W2, hW2⟩ : ∃ W2, W2 = W1.alloc (.cells #[.bool false] 4) := ⟨_, rfl⟩
  obtain ⟨W3, hW3⟩ : ∃ W3, W3 = W2.alloc (.cells #[.string s] 102) := ⟨_, rfl⟩
  have z1 : W1.heap.size = w.heap.size + 1 := by rw [hW1]; simp
  have z2 : W2.heap.size = w.heap.size + 2 := by rw [hW2]; simp [z1]
  have z3 : W3.heap.size = w.heap.size + 3 := by rw [hW3]; simp [z2]
  have g1 : Below w.heap.size w W1 := by rw [hW1]; exact (Below.refl _ _).alloc (Nat.le_refl _) _
  have g2 : Below w.heap.size w W2 := by rw [hW2]; exact g1.alloc (by omega) _
  have g3 : Below w.heap.size w W3 := by rw [hW3]; exact g2.alloc (by omega) _
  have B1 : Boxed W1 w.heap.size 69 .nilIface := by rw [hW1]; exact Boxed.new _ _ _
  have B2 : Boxed W2 (w.heap.size + 1) 4 (.bool false) := by rw [← z1, hW2]; exact Boxed.new _ _ _
  have C1 : Boxed W3 w.heap.size 69 .nilIface := by rw [hW3]; exact (by rw [hW2]; exact B1.alloc _ : Boxed W2 _ _ _).alloc _
  have C2 : Boxed W3 (w.heap.size + 1) 4 (.bool false) := by rw [hW3]; exact B2.alloc _
  have C3 : RdBox W3 (w.heap.size + 2) s := by rw [← z2, hW3]; exact Boxed.new _ _ _
  have V3 := hV.keptN (grown_of_belowT g3 none)
  have HT := Lib.hid ((tree_any (s.size + 1)).1 s t l hn (by omega) (w.heap.size + 2) W3 C3 V3 (hV.lt (by omega)))
  have hgd := rdG_good bdL_good _ _ _ _ hn
  have hlen : (textL t).length ≤ 10000 := by have := hgd.2.1; rw [ls_len] at this; omega
  have HGD := Lib.hid hgd.1
  have HTX := Lib.hid (fun b w v h => nodeText_any t hgd.1 hlen b w v h)
  have HC1 := Lib.hid C1
  have HC2 := Lib.hid C2
  have HG3 := Lib.hid g3
  have HW := Lib.hid (show ((w.alloc (.cells #[.nilIface] 69)).alloc (.cells #[.bool false] 4)).alloc (.cells #[.string s] 102) = W3 by rw [hW3, hW2, hW1])
  have HZ := Lib.hid z3
  have HRO := Lib.hid (show ∀ x w', ReadOut (if textL t = ls s then some t else none) w x w' ↔ ((textT t = s ∧ ∃ v, x = .returned (.tuple #[v, .bool true]) ∧ TreeAt w.heap.size w' t v) ∨ (¬ textT t = s ∧ x = .returned (.tuple #[.nilIface, .bool false]))) ∧ Below w.heap.size w w' from fun x w' => by
    have he : textL t = ls s ↔ textT t = s := ⟨fun h => ls_ext (by rw [← h]; simp [ls, textT]), fun h => by rw [← h]; simp [ls, textT]⟩
    by_cases h : textL t = ls s
    · simp [ReadOut, h, he.1 h]
    · simp [ReadOut, h, show ¬ textT t = s from fun e => h (he.2 e)])
  obtain ⟨q, hq⟩ : ∃ q, q = textT t := ⟨_, rfl⟩
  rw [← hq] at HTX HRO
  obtain ⟨P, hP⟩ : ∃ P, P = ReadOut (if textL t = ls s then some t else none) w := ⟨_, rfl⟩
  rw [← hP] at HRO ⊢
  clear hW1 hW2 hW3 z1 z2 z3 g1 g2 g3 B1 B2 C1 C2 C3 V3 hV hn hgd hlen hq hP
  go_enter_defers Tryd.func43, Tryd.ntmps43
  go_wp2_with fail
  rw [HW.out]
  refine HT.out.mono ?_
  rintro x w4 ⟨⟨v, rfl, tv⟩, _, g4⟩
  obtain ⟨T, u, rfl⟩ := tv.iface
  have K1 := HC1.out.kept g4 (by simp)
  have K2 := HC2.out.kept g4 (by simp)
  have L1 := K1.set (.iface T u)
  have L2 := box_other K2 (show w.heap.size + 1 ≠ w.heap.size by omega) (.iface T u)
  have tv5 : TreeAt (w.heap.size + 3) (w4.setCell ⟨w.heap.size, 0, none⟩ (.iface T u)) t (.iface T u) := by
    have := tv.kept (grownBy_setCell' w4 w.heap.size (.iface T u)) (fun q e => by cases e; have := HZ.out; omega)
    rw [HZ.out] at this
    exact this
  obtain ⟨T', u', f, e, hm, he, hc⟩ := HTX.out _ _ _ tv5
  cases e
  have HG4 := Lib.hid (below_set (show Below w.heap.size w w4 from HG3.out.trans ⟨g4.os, g4.tape, g4.output, g4.size, fun k hk => g4.block k (by have := HZ.out; omega) (by simp; omega)⟩) (Nat.le_refl _) (Nat.le_refl _) (.iface T u))
  have HCL := Lib.hid (hc _ (Below.refl _ _))
  have zz : w.heap.size + 1 < w4.heap.size := by have := g4.size; have := HZ.out; omega
  have k1 := K1.cell
  have k2 := K1.frozen
  have HK2 := Lib.hid K2
  have HL1 := Lib.hid L1
  have HL2 := Lib.hid L2
  have HT5 := Lib.hid tv5
  obtain ⟨w5, hw5⟩ : ∃ w5, w5 = w4.setCell ⟨w.heap.size, 0, none⟩ (.iface T u) := ⟨_, rfl⟩
  have HW5 := Lib.hid hw5
  rw [← hw5] at HG4 HCL HL1 HL2 HT5
  have l1 := HL1.out.cell
  clear g4 tv5 hc K1 K2 L1 L2 tv hw5
  have hqs : (q.toList == s.toList) = true ↔ q = s := by
    rw [beq_iff_eq, ByteArray.toList_eq, ByteArray.toList_eq]
    exact ⟨fun h => ls_ext h, fun h => by rw [h]⟩
  cases hb : (q.toList == s.toList)
  all_goals
    rw [hb] at hqs
    have HQ := Lib.hid hqs
    clear hqs
    go_wp2_with (first | (simp only [← HW5.out]; go_at_fn f; refine HCL.out.mono ?_; rintro e w6 ⟨rfl, hb6⟩; have HB6 := Lib.hid hb6; have M1 := HL1.out.kept (grown_of_belowT hb6 none) (by simp); have M2 := HL2.out.kept (grown_of_belowT hb6 none) (by simp); have m1 := M1.cell; have n1 := M1.frozen; have m2 := M2.cell; have n2 := M2.frozen; have HM1 := Lib.hid M1; have HM2 := Lib.hid M2; clear hb6 M1 M2 l1 k1 k2))
  · refine leaves_cons (f := 63) (args := #[.pointer (some ⟨w.heap.size, 0, none⟩), .pointer (some ⟨w.heap.size + 1, 0, none⟩)]) (by simp) (by simp [go_sem]) ?_
    refine (catch_idle _ _ _).mono ?_
    rintro e u' w'' ⟨rfl, rfl, rfl⟩
    have D1 := (box_other (HM1.out.set (.nilIface)) (show w.heap.size ≠ w.heap.size + 1 by omega) (.bool false)).cell
    have D2 := ((box_other HM2.out (show w.heap.size + 1 ≠ w.heap.size by omega) (.nilIface)).set (.bool false)).cell
    have HF := below_set (below_set (HG4.out.trans (HB6.out.mono HG4.out.size)) (Nat.le_refl _) (Nat.le_refl _) (.nilIface)) (Nat.le_refl _) (Nat.le_succ w.heap.size) (.bool false)
    simp [Leaves, settle, results, Tryd.results43, go_sem, D1, D2]
    exact (HRO.out _ _).2 ⟨.inr ⟨fun e => by (have := HQ.out.2 e; cases this), rfl⟩, HF⟩
  · refine leaves_cons (f := 63) (args := #[.pointer (some ⟨w.heap.size, 0, none⟩), .pointer (some ⟨w.heap.size + 1, 0, none⟩)]) (by simp) (by simp [go_sem]) ?_
    refine (catch_idle _ _ _).mono ?_
    rintro e u' w'' ⟨rfl, rfl, rfl⟩
    have D1 := (box_other (HM1.out.set (.iface T u)) (show w.heap.size ≠ w.heap.size + 1 by omega) (.bool true)).cell
    have D2 := ((box_other HM2.out (show w.heap.size + 1 ≠ w.heap.size by omega) (.iface T u)).set (.bool true)).cell
    have HF := below_set (below_set (HG4.out.trans (HB6.out.mono HG4.out.size)) (Nat.le_refl _) (Nat.le_refl _) (.iface T u)) (Nat.le_refl _) (Nat.le_succ w.heap.size) (.bool true)
    simp [Leaves, settle, results, Tryd.results43, go_sem, D1, D2]
    have HT6 := HT5.out.below HB6.out
    have HT7 := HT6.kept (grownBy_setCell' _ w.heap.size (.iface T u)) (fun q e => by cases e; omega)
    have HT8 := HT7.kept (grownBy_setCell' _ (w.heap.size + 1) (.bool true)) (fun q e => by cases e; omega)
    exact (HRO.out _ _).2 ⟨.inl ⟨HQ.out.1 trivial, _, rfl, HT8.base (Nat.le_add_right w.heap.size 3)⟩, HF⟩

theorem implRead_any (s : ByteArray) (w : World) (hV : VarsAt w) : Calls Tryd.prog 43 #[.string s] w (ReadOut (treeS (ls s)) w) := by
  rw [← treeI_eq]
  by_cases hs : s.size ≤ 200
  · cases hn : rdG bdL (s.size + 1) (ls s) with
    | none =>
      have e : treeI (ls s) = none := by simp only [treeI, ls_len, hn]; split <;> rfl
      rw [e]
      exact readTree_dies s hs hn w hV
    | some q =>
      obtain ⟨t, l⟩ := q
      have e : treeI (ls s) = if textL t = ls s then some t else none := by simp only [treeI, ls_len, hn, if_pos hs]
      rw [e]
      exact readTree_some s t l hs hn w hV
  · have e : treeI (ls s) = none := by simp only [treeI, ls_len, if_neg hs]
    rw [e]
    exact readTree_long s (by omega) w
end Go.Proofs.YtndnbeijmhcepaaDoor
