
/- Reading a tree, the program: the whole tree. -/
import Derived.Test.YtkiaafpggjojiaaDoorKsTreeC
import Derived.Test.YtkiaafpggjojiaaDoorKsTreeT
namespace Go.Proofs.YtkiaafpggjojiaaDoor
open Go.RowKit

def TreeOk (f : Nat) : Prop := ∀ (s : ByteArray) (t : TreeD) (l : List UInt8), rdG bdL f (ls s) = some (t, l) → s.size ≤ 100000 → ∀ (R : Nat) (w : World), RdBox w R s → VarsAt w → apartR R →
  Calls Tryd.prog 87 #[rdP R] w fun x w' => (∃ v, x = .returned v ∧ TreeAt w.heap.size w' t v) ∧ (∃ y, ls y = l ∧ RdBox w' R y) ∧ w.grownBy w' (some R)
def TreeNo (f : Nat) : Prop := ∀ (s : ByteArray), rdG bdL f (ls s) = none → s.size < f → s.size ≤ 100000 → ∀ (R : Nat) (w : World), RdBox w R s → VarsAt w → apartR R →
  Calls Tryd.prog 87 #[rdP R] w fun x w' => Dies x ∧ w.grownBy w' (some R)
theorem hasPrefix_any (s : ByteArray) (c : UInt8) (w : World) : Calls Tryd.prog 112 #[.string s, .string (oneS c)] w fun x w' => x = .returned (.bool (skL c (ls s)).isSome) ∧ w' = w := by
  have h := Any.strings_HasPrefix Tryd.lays99 s (oneS c) w
  rw [hp_one] at h
  exact h

set_option maxRecDepth 100000 in
set_option maxHeartbeats 2000000 in
theorem tree_leaf (s : ByteArray) (a : UInt8) (l : List UInt8) (h : ls s = a :: l) (ha : ¬ a = 40) (ht : tgU a = true) (R : Nat) (w : World) (hR : RdBox w R s) :
    Calls Tryd.prog 87 #[rdP R] w fun x w' => (∃ v, x = .returned v ∧ TreeAt w.heap.size w' (.leaf a) v) ∧ (∃ y, ls y = l ∧ RdBox w' R y) ∧ w.grownBy w' (some R) := by
  have hc := hR.cell
  have HP := Lib.hid (hasPrefix_any s 40 w)
  rw [h] at HP
  have HP : Hid (Calls Tryd.prog 112 #[.string s, .string (oneS 40)] w fun x w' => x = .returned (.bool false) ∧ w' = w) := by
    have := HP.out
    rw [show (skL 40 (a :: l)).isSome = false by simp [skL, ha]] at this
    exact Lib.hid this
  have HT := Lib.hid (target_ok R s a l h ht w hR)
  clear h ha ht hR
  go_enter Tryd.func87, Tryd.ntmps87
  go_wp2_with (go_at_call 112; refine HP.out.mono ?_; rintro e w' ⟨rfl, rfl⟩)
  refine HT.out.mono ?_
  rintro x w1 ⟨rfl, hy, hg⟩
  have HY := Lib.hid hy
  have HG := Lib.hid hg
  clear hy hg hc
  go_wp2
  go_ret
  exact ⟨⟨_, rfl, rfl⟩, HY.out, HG.out⟩

set_option maxRecDepth 100000 in
set_option maxHeartbeats 2000000 in
theorem tree_cmp (f : Nat) (ih : TreeOk f) (s : ByteArray) (l0 l1 l2 l4 : List UInt8) (k : Int) (x y : TreeD) (h : ls s = 40 :: l0) (h1 : bdL l0 = some (k, l1)) (h2 : rdG bdL f l1 = some (x, 44 :: l2)) (h3 : rdG bdL f l2 = some (y, 41 :: l4)) (hs : s.size ≤ 100000) (R : Nat) (w : World) (hR : RdBox w R s) (hV : VarsAt w) (hA : apartR R) :
    Calls Tryd.prog 87 #[rdP R] w fun v w' => (∃ u, v = .returned u ∧ TreeAt w.heap.size w' (.cmp k x y) u) ∧ (∃ z, ls z = l4 ∧ RdBox w' R z) ∧ w.grownBy w' (some R) := by
  have hc := hR.cell
  have hRl := hR.lt
  have hlen : l0.length < 100000 := by have := ls_len s; rw [h] at this; simp at this; omega
  have hl1 := (bdL_good _ _ _ h1).2
  have hl2 := (rdG_good bdL_good _ _ _ _ h2).2.2
  have hl3 := (rdG_good bdL_good _ _ _ _ h3).2.2
  have HP : Hid (Calls Tryd.prog 112 #[.string s, .string (oneS 40)] w fun x w' => x = .returned (.bool true) ∧ w' = w) := by
    have := hasPrefix_any s 40 w
    rw [h, show (skL 40 (40 :: l0)).isSome = true by simp [skL]] at this
    exact Lib.hid this
  have S1 := Lib.hid (skip_hit R s 40 l0 (by rw [h]; exact skL_hit _ _) w hR)
  have HIH := Lib.hid ih
  have HV := Lib.hid hV
  have HA := Lib.hid hA
  have H1 := Lib.hid h1
  have H2 := Lib.hid h2
  have H3 := Lib.hid h3
  simp only [List.length_cons] at hl2 hl3
  clear h h1 h2 h3 hR hV hA ih
  go_enter Tryd.func87, Tryd.ntmps87
  go_wp2_with (go_at_call 112; refine HP.out.mono ?_; rintro e w' ⟨rfl, rfl⟩)
  refine S1.out.mono ?_
  rintro _ w1 ⟨rfl, ⟨s1, e1, R1⟩, g1⟩
  have G1 := Lib.hid g1
  have V1 := Lib.hid (HV.out.kept g1 HA.out)
  have z1 : s1.size ≤ 100000 := by rw [← ls_len, e1]; omega
  have B1 := Lib.hid (border_ok R s1 k l1 (by rw [e1]; exact H1.out) w1 z1 R1 V1.out)
  clear g1 e1 R1 z1 hc
  go_wp2_with fail
  refine B1.out.mono ?_
  rintro _ w2 ⟨rfl, ⟨s2, e2, R2⟩, g2⟩
  have G2 := Lib.hid (G1.out.trans g2)
  have V2 := Lib.hid (V1.out.kept g2 HA.out)
  have z2 : s2.size ≤ 100000 := by rw [← ls_len, e2]; omega
  have T2 := Lib.hid (HIH.out s2 x (44 :: l2) (by rw [e2]; exact H2.out) z2 R w2 R2 V2.out HA.out)
  clear g2 e2 R2 z2
  go_wp2_with fail
  refine T2.out.mono ?_
  rintro _ w3 ⟨⟨u1, rfl, t1⟩, ⟨s3, e3, R3⟩, g3⟩
  obtain ⟨T1, p1, rfl⟩ := t1.iface
  have X3 := Lib.hid (t1.base G2.out.size)
  have G3 := Lib.hid (G2.out.trans g3)
  have V3 := Lib.hid (V2.out.kept g3 HA.out)
  have z3 : s3.size ≤ 100000 := by rw [← ls_len, e3]; simp; omega
  have S3 := Lib.hid (skip_hit R s3 44 l2 (by rw [e3]; exact skL_hit _ _) w3 R3)
  clear g3 e3 R3 z3 t1
  go_wp2_with fail
  refine S3.out.mono ?_
  rintro _ w4 ⟨rfl, ⟨s4, e4, R4⟩, g4⟩
  have X4 := Lib.hid (X3.out.kept g4 (fun q e => by cases e; exact hRl))
  have G4 := Lib.hid (G3.out.trans g4)
  have V4 := Lib.hid (V3.out.kept g4 HA.out)
  have z4 : s4.size ≤ 100000 := by rw [← ls_len, e4]; omega
  have T4 := Lib.hid (HIH.out s4 y (41 :: l4) (by rw [e4]; exact H3.out) z4 R w4 R4 V4.out HA.out)
  clear g4 e4 R4 z4
  go_wp2_with fail
  refine T4.out.mono ?_
  rintro _ w5 ⟨⟨u2, rfl, t2⟩, ⟨s5, e5, R5⟩, g5⟩
  obtain ⟨T2, p2, rfl⟩ := t2.iface
  have X5 := Lib.hid (X4.out.kept g5 (fun q e => by cases e; exact hRl))
  have Y5 := Lib.hid (t2.base G4.out.size)
  have G5 := Lib.hid (G4.out.trans g5)
  have S5 := Lib.hid (skip_hit R s5 41 l4 (by rw [e5]; exact skL_hit _ _) w5 R5)
  clear g5 e5 R5 t2
  go_wp2_with fail
  refine S5.out.mono ?_
  rintro _ w6 ⟨rfl, hz6, g6⟩
  have X6 := Lib.hid (X5.out.kept g6 (fun q e => by cases e; exact hRl))
  have Y6 := Lib.hid (Y5.out.kept g6 (fun q e => by cases e; exact hRl))
  have G6 := Lib.hid (G5.out.trans g6)
  have Z6 := Lib.hid hz6
  clear g6 hz6
  go_wp2
  go_ret
  have ga := World.grownBy_alloc w6 (.cells #[.int .i64 k, .iface T1 p1, .iface T2 p2] 138) (some R)
  have gn := World.grownBy_alloc w6 (.cells #[.int .i64 k, .iface T1 p1, .iface T2 p2] 138) none
  obtain ⟨z, hz, hzR⟩ := Z6.out
  exact ⟨⟨_, rfl, _, _, _, rfl, G6.out.size, World.alloc_heap_new _ _, X6.out.kept gn (fun q e => by cases e), Y6.out.kept gn (fun q e => by cases e)⟩, ⟨z, hz, hzR.alloc _⟩, G6.out.trans ga⟩

set_option maxRecDepth 100000 in
set_option maxHeartbeats 2000000 in
theorem tree_dies_target (s : ByteArray) (h0 : skL 40 (ls s) = none) (h : ∀ a l, ls s = a :: l → tgU a = false) (R : Nat) (w : World) (hR : RdBox w R s) (hV : VarsAt w) :
    Calls Tryd.prog 87 #[rdP R] w fun x w' => Dies x ∧ w.grownBy w' (some R) := by
  have hc := hR.cell
  have HP : Hid (Calls Tryd.prog 112 #[.string s, .string (oneS 40)] w fun x w' => x = .returned (.bool false) ∧ w' = w) := by
    have := hasPrefix_any s 40 w
    rw [h0] at this
    exact Lib.hid this
  have HT := Lib.hid (target_no R s h w hR hV)
  clear h h0 hR hV
  go_enter Tryd.func87, Tryd.ntmps87
  go_wp2_with (go_at_call 112; refine HP.out.mono ?_; rintro e w' ⟨rfl, rfl⟩)
  refine HT.out.mono ?_
  rintro x w1 ⟨⟨T, v, rfl⟩, hg⟩
  have HG := Lib.hid hg
  clear hg hc
  go_wp2
  exact ⟨rfl, ⟨_, _, rfl⟩, HG.out⟩

set_option maxRecDepth 100000 in
set_option maxHeartbeats 4000000 in
theorem tree_dies_cmp (f : Nat) (ihO : TreeOk f) (ihN : TreeNo f) (s : ByteArray) (l0 : List UInt8) (h : ls s = 40 :: l0) (hn : rdG bdL (f + 1) (40 :: l0) = none) (hf : s.size < f + 1) (hs : s.size ≤ 100000) (R : Nat) (w : World) (hR : RdBox w R s) (hV : VarsAt w) (hA : apartR R) :
    Calls Tryd.prog 87 #[rdP R] w fun v w' => Dies v ∧ w.grownBy w' (some R) := by
  have hc := hR.cell
  have hlen : l0.length + 1 = s.size := by have := ls_len s; rw [h] at this; simpa using this
  have HP : Hid (Calls Tryd.prog 112 #[.string s, .string (oneS 40)] w fun x w' => x = .returned (.bool true) ∧ w' = w) := by
    have := hasPrefix_any s 40 w
    rw [h, show (skL 40 (40 :: l0)).isSome = true by simp [skL]] at this
    exact Lib.hid this
  have S1 := Lib.hid (skip_hit R s 40 l0 (by rw [h]; exact skL_hit _ _) w hR)
  have HIO := Lib.hid ihO
  have HIN := Lib.hid ihN
  have HV := Lib.hid hV
  have HA := Lib.hid hA
  have HNN := Lib.hid hn
  clear h hR hV hA ihO ihN hn
  go_enter Tryd.func87, Tryd.ntmps87
  go_wp2_with (go_at_call 112; refine HP.out.mono ?_; rintro e w' ⟨rfl, rfl⟩)
  refine S1.out.mono ?_
  rintro _ w1 ⟨rfl, ⟨s1, e1, R1⟩, g1⟩
  have G1 := Lib.hid g1
  have V1 := Lib.hid (HV.out.kept g1 HA.out)
  have z1 : s1.size ≤ 100000 := by rw [← ls_len, e1]; omega
  cases h1 : bdL l0 with
  | none =>
    have B1 := Lib.hid (border_no R s1 (by rw [e1]; exact h1) w1 z1 R1 V1.out)
    clear g1 e1 R1 z1 hc h1
    go_wp2_with fail
    refine B1.out.mono ?_
    rintro _ w2 ⟨⟨T, v, rfl⟩, g2⟩
    have G2 := Lib.hid (G1.out.trans g2)
    clear g2
    go_wp2
    exact ⟨rfl, ⟨_, _, rfl⟩, G2.out⟩
  | some q =>
    obtain ⟨k, l1⟩ := q
    have B1 := Lib.hid (border_ok R s1 k l1 (by rw [e1]; exact h1) w1 z1 R1 V1.out)
    have hl1 := (bdL_good _ _ _ h1).2
    have H1 := Lib.hid h1
    clear g1 e1 R1 z1 hc h1
    go_wp2_with fail
    refine B1.out.mono ?_
    rintro _ w2 ⟨rfl, ⟨s2, e2, R2⟩, g2⟩
    have G2 := Lib.hid (G1.out.trans g2)
    have V2 := Lib.hid (V1.out.kept g2 HA.out)
    have z2 : s2.size ≤ 100000 := by rw [← ls_len, e2]; omega
    have y2 : s2.size < f := by rw [← ls_len, e2]; omega
    cases h2 : rdG bdL f l1 with
    | none =>
      have T2 := Lib.hid (HIN.out s2 (by rw [e2]; exact h2) y2 z2 R w2 R2 V2.out HA.out)
      clear g2 e2 R2 z2 h2 y2
      go_wp2_with fail
      refine T2.out.mono ?_
      rintro _ w3 ⟨⟨T, v, rfl⟩, g3⟩
      have G3 := Lib.hid (G2.out.trans g3)
      clear g3
      go_wp2
      exact ⟨rfl, ⟨_, _, rfl⟩, G3.out⟩
    | some q =>
      obtain ⟨x, l2⟩ := q
      have hl2 := (rdG_good bdL_good _ _ _ _ h2).2.2
      have T2 := Lib.hid (HIO.out s2 x l2 (by rw [e2]; exact h2) z2 R w2 R2 V2.out HA.out)
      have H2 := Lib.hid h2
      clear g2 e2 R2 z2 h2 y2
      go_wp2_with fail
      refine T2.out.mono ?_
      rintro _ w3 ⟨⟨u1, rfl, t1⟩, ⟨s3, e3, R3⟩, g3⟩
      obtain ⟨T1, p1, rfl⟩ := t1.iface
      have G3 := Lib.hid (G2.out.trans g3)
      have V3 := Lib.hid (V2.out.kept g3 HA.out)
      cases h3 : skL 44 l2 with
      | none =>
        have S3 := Lib.hid (skip_miss R s3 44 (by rw [e3]; exact h3) w3 R3 V3.out)
        clear g3 e3 R3 t1 h3
        go_wp2_with fail
        refine S3.out.mono ?_
        rintro _ w4 ⟨⟨T, v, rfl⟩, g4⟩
        have G4 := Lib.hid (G3.out.trans g4)
        clear g4
        go_wp2
        exact ⟨rfl, ⟨_, _, rfl⟩, G4.out⟩
      | some l3 =>
        have S3 := Lib.hid (skip_hit R s3 44 l3 (by rw [e3]; exact h3) w3 R3)
        have H3 := Lib.hid h3
        have hl3 : l3.length + 1 = l2.length := by rw [skL_some h3]; rfl
        clear g3 e3 R3 t1 h3
        go_wp2_with fail
        refine S3.out.mono ?_
        rintro _ w4 ⟨rfl, ⟨s4, e4, R4⟩, g4⟩
        have G4 := Lib.hid (G3.out.trans g4)
        have V4 := Lib.hid (V3.out.kept g4 HA.out)
        have z4 : s4.size ≤ 100000 := by rw [← ls_len, e4]; omega
        have y4 : s4.size < f := by rw [← ls_len, e4]; omega
        cases h4 : rdG bdL f l3 with
        | none =>
          have T4 := Lib.hid (HIN.out s4 (by rw [e4]; exact h4) y4 z4 R w4 R4 V4.out HA.out)
          clear g4 e4 R4 z4 h4 y4
          go_wp2_with fail
          refine T4.out.mono ?_
          rintro _ w5 ⟨⟨T, v, rfl⟩, g5⟩
          have G5 := Lib.hid (G4.out.trans g5)
          clear g5
          go_wp2
          exact ⟨rfl, ⟨_, _, rfl⟩, G5.out⟩
        | some q =>
          obtain ⟨y, l4⟩ := q
          have T4 := Lib.hid (HIO.out s4 y l4 (by rw [e4]; exact h4) z4 R w4 R4 V4.out HA.out)
          have h5 : skL 41 l4 = none := by
            have := HNN.out
            simp only [rdG, if_true, H1.out, H2.out, H3.out, h4] at this
            cases h5 : skL 41 l4 with
            | none => rfl
            | some l5 => rw [h5] at this; cases this
          have H5 := Lib.hid h5
          clear g4 e4 R4 z4 h4 y4 h5
          go_wp2_with fail
          refine T4.out.mono ?_
          rintro _ w5 ⟨⟨u2, rfl, t2⟩, ⟨s5, e5, R5⟩, g5⟩
          obtain ⟨T2, p2, rfl⟩ := t2.iface
          have G5 := Lib.hid (G4.out.trans g5)
          have V5 := Lib.hid (V4.out.kept g5 HA.out)
          have S5 := Lib.hid (skip_miss R s5 41 (by rw [e5]; exact H5.out) w5 R5 V5.out)
          clear g5 e5 R5 t2
          go_wp2_with fail
          refine S5.out.mono ?_
          rintro _ w6 ⟨⟨T, v, rfl⟩, g6⟩
          have G6 := Lib.hid (G5.out.trans g6)
          clear g6
          go_wp2
          exact ⟨rfl, ⟨_, _, rfl⟩, G6.out⟩

theorem tree_any : ∀ f, TreeOk f ∧ TreeNo f
  | 0 => ⟨fun _ _ _ h => by (cases h), fun _ _ h => absurd h (Nat.not_lt_zero _)⟩
  | f + 1 => by
    obtain ⟨io, ino⟩ := tree_any f
    constructor
    · intro s t l h hs R w hR hV hA
      cases hl : ls s with
      | nil => rw [hl] at h; cases h
      | cons a l0 =>
        rw [hl] at h
        by_cases ha : a = 40
        · subst ha
          obtain ⟨k, l1, x, l2, y, l4, h1, h2, h3, rfl, rfl⟩ := rdG_cmp h
          exact tree_cmp f io s l0 l1 l2 _ k x y hl h1 h2 h3 hs R w hR hV hA
        · obtain ⟨ht, rfl, rfl⟩ := rdG_leaf ha h
          exact tree_leaf s a l hl ha ht R w hR
    · intro s h hf hs R w hR hV hA
      cases hl : ls s with
      | nil => exact tree_dies_target s (by rw [hl]; rfl) (fun a l e => by rw [hl] at e; cases e) R w hR hV
      | cons a l0 =>
        by_cases ha : a = 40
        · subst ha
          exact tree_dies_cmp f io ino s l0 hl (by rw [← hl]; exact h) hf hs R w hR hV hA
        · refine tree_dies_target s (by rw [hl]; simp [skL, ha]) (fun b l e => ?_) R w hR hV
          rw [hl] at e h
          cases e
          simp only [rdG, if_neg ha] at h
          split at h
          · cases h
          · simpa using ‹¬ tgU a = true›
end Go.Proofs.YtkiaafpggjojiaaDoor
