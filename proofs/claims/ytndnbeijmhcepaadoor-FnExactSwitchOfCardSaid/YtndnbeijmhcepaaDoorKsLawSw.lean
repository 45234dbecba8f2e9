
/- The law on SwitchOf, walked: it returns true whatever the text. -/
import Derived.Test.YtndnbeijmhcepaaDoorKsCopyH
import Derived.Test.YtndnbeijmhcepaaDoorKsSwOwn
import Derived.Test.YtndnbeijmhcepaaDoorKsSwS
import Derived.Test.YtndnbeijmhcepaaDoorKsTrFn
import Derived.Deep.RegionHeld3
namespace Go.Proofs.YtndnbeijmhcepaaDoor
open Go.RowKit Go.Shelf Go.Lib Go.Sort

/-- What the walk knows of a world: nothing below the argument's box has turned since, nor the box. -/
theorem ownsQ_below {B : Nat} {v : Value} {l : List CaseD} {w w' : World} (h : OwnsC B v l w) (hb : RowKit.Below w.heap.size w w') : OwnsC B v l w' := owns_below h hb
theorem ownsQ_grown {B : Nat} {v : Value} {l : List CaseD} {w w' : World} {row : Option Nat} (h : OwnsC B v l w) (hg : w.grownBy w' row) (hne : v.ownBlock = none ∨ v.ownBlock ≠ row) : OwnsC B v l w' := World.ownsRow.kept h hg hne
theorem not_blockQ {B g : Nat} {v : Value} {l : List CaseD} {w : World} (h : OwnsC B v l w) (hg : w.heap.size ≤ g ∨ g < B) : v.ownBlock = none ∨ v.ownBlock ≠ some g := by
  cases hv : v.ownBlock with
  | none => exact .inl rfl
  | some q =>
    refine .inr fun e => ?_
    have := World.ownsRow.lt h q hv
    cases e
    omega

theorem not_sameQ {B0 B1 : Nat} {v0 v1 : Value} {l0 l1 : List CaseD} {w0 w1 : World} (h0 : OwnsC B0 v0 l0 w0) (h1 : OwnsC B1 v1 l1 w1) (h : w0.heap.size ≤ B1) : v0.ownBlock = none ∨ v0.ownBlock ≠ v1.ownBlock := by
  cases hv : v0.ownBlock with
  | none => exact .inl rfl
  | some q =>
    refine .inr fun e => ?_
    have a := World.ownsRow.lt h0 q hv
    have b := World.ownsRow.lt h1 q e.symm
    omega
theorem decide_negQ {m : Int} (h : 0 ≤ m) : decide (m < 0) = false := by simp; omega

set_option maxRecDepth 100000 in
set_option maxHeartbeats 8000000 in
theorem lawSw_any (s : ByteArray) (w : World) (hV : VarsAt w) :
    Calls Tryd.prog 6 #[.string s] w fun x w' => x = .returned (.bool true) ∧ RowKit.Below w.heap.size w w' := by
  by_cases hn : (s.size : Int) ≤ 1048576
  · have HS := Lib.hid (fun W => specSwitchOf_any s (by omega) W)
    have HIS := Lib.hid (fun W hW => implSwitchOf_any s W hW)
    have HV := Lib.hid hV
    have HLEN := Lib.hid (show (swN (treeS (ls s))).length ≤ 1048576 by have := swN_len (treeS (ls s)); omega)
    unfold SwOf2 at HS HIS
    obtain ⟨L, hL⟩ : ∃ L, L = swN (treeS (ls s)) := ⟨_, rfl⟩
    obtain ⟨ok, hok⟩ : ∃ ok, ok = swK (treeS (ls s)) := ⟨_, rfl⟩
    rw [← hL] at HS HIS HLEN
    rw [← hok] at HS HIS
    clear hV hL hok
    cases ok
    all_goals
      go_enter Tryd.func6, Tryd.ntmps6
      go_wp2_with fail
      -- the model's answer
      refine (HS.out _).mono ?_
      rintro x w3 ⟨v0, rfl, ho, hb3⟩
      have O3 := Lib.hid ho
      have B3 := Lib.hid hb3
      have hz3 := hb3.size
      clear ho hb3
      obtain ⟨pv, pc, hform⟩ := row_slice O3.out
      subst hform
      have hwz : w.heap.size ≤ w3.heap.size := hz3
      obtain ⟨w3b, hw3b⟩ : ∃ w3b, w3b = w3.alloc (.cells #[.slice pv L.length pc, .int .i64 0] 35) := ⟨_, rfl⟩
      have K3 := Lib.hid (show BoxS w3b w3.heap.size (.slice pv L.length pc) 0 by rw [hw3b]; exact BoxS.new _ _ _)
      have hb3b : RowKit.Below w3.heap.size w3 w3b := by rw [hw3b]; exact (Below.refl _ _).alloc (Nat.le_refl _) _
      have B3b := Lib.hid (B3.out.trans (hb3b.mono B3.out.size))
      have O3b := Lib.hid (ownsQ_below O3.out hb3b)
      have hz3b := hb3b.size
      have hk3 : w3.heap.size < w3b.heap.size := K3.out.lt
      have HW3b := Lib.hid hw3b
      clear hw3b hb3b
      go_wp2_with fail
      rw [← HW3b.out]
      refine (HIS.out w3b (HV.out.below B3b.out)).mono ?_
      rintro x w6 ⟨v1, rfl, ho1, hb6⟩
      obtain ⟨pv1, pc1, hf1⟩ := row_slice ho1
      subst hf1
      have P6 := Lib.hid ho1
      have B6 := Lib.hid (B3b.out.trans (hb6.mono B3b.out.size))
      have O6 := Lib.hid (ownsQ_below O3b.out hb6)
      have K6 := Lib.hid (BoxS.kept K3.out (grown_of_below hb6) (by simp))
      have hz6 := hb6.size
      clear ho1 hb6
      obtain ⟨w7, hw7⟩ : ∃ w7, w7 = w6.alloc (.cells #[.slice pv1 L.length pc1, .int .i64 0] 35) := ⟨_, rfl⟩
      have hz7 : w6.heap.size < w7.heap.size := by rw [hw7]; simp
      have hb7 : RowKit.Below w6.heap.size w6 w7 := by rw [hw7]; exact (Below.refl _ _).alloc (Nat.le_refl _) _
      have G7 := Lib.hid (show BoxS w7 w6.heap.size (.slice pv1 L.length pc1) 0 by rw [hw7]; exact BoxS.new _ _ _)
      have P7 := Lib.hid (ownsQ_below P6.out hb7)
      have O7 := Lib.hid (ownsQ_below O6.out hb7)
      have K7 := Lib.hid (BoxS.kept K6.out (grown_of_below hb7) (by simp))
      have B7 := Lib.hid (B6.out.trans (hb7.mono B6.out.size))
      have k0 := K6.out.c0
      have k1 := K6.out.c1
      have hk6 : w3.heap.size < w6.heap.size := K6.out.lt
      have HW7 := Lib.hid hw7
      clear hw7 hb7
      go_wp2_with fail
      rw [← HW7.out]
      refine (eqSwOwn_any 0 P7.out O7.out HLEN.out).mono ?_
      rintro x w10 ⟨rfl, hb8⟩
      have P10 := Lib.hid (ownsQ_below P7.out hb8)
      have O10 := Lib.hid (ownsQ_below O7.out hb8)
      have K10 := Lib.hid (BoxS.kept K7.out (grown_of_below hb8) (by simp))
      have G10 := Lib.hid (BoxS.kept G7.out (grown_of_below hb8) (by simp))
      have B12 := Lib.hid (B7.out.trans (hb8.mono B7.out.size))
      have hz12 := hb8.size
      have j0 := G10.out.c0
      have j1 := G10.out.c1
      clear hb8 k0 k1
      -- the result is marked, and the marks stand
      have hm2 := markSwOwn_any 0 P10.out HLEN.out
      have hh2 := fun W (hM : MarkedC W (.slice pv1 L.length pc1) L.length) => heldSwOwn_any 0 (owns_formC P6.out) hM HLEN.out
      obtain ⟨mq, hmq⟩ : ∃ mq, mq = ((1 + L.length * 4 : Nat) : Int) := ⟨_, rfl⟩
      rw [← hmq] at hm2 hh2
      have hmq0 := decide_negQ (show 0 ≤ mq by omega)
      have HM2 := Lib.hid hm2
      have HH2 := Lib.hid hh2
      clear hm2 hh2 hmq
      go_wp2_with fail
      refine HM2.out.mono ?_
      rintro x w13 ⟨rfl, hM13, hg13⟩
      have M13 := Lib.hid hM13
      have B13 := Lib.hid (B12.out.grown hg13 B12.out.size (fun k e => by have := (World.ownsRow.lt P6.out k e).1; omega))
      have O13 := Lib.hid (ownsQ_grown O10.out hg13 (not_sameQ O3.out P6.out (by omega)))
      have K13 := Lib.hid (BoxS.kept K10.out hg13 (Ne.symm (K10.out.not_row P10.out)))
      have G13 := Lib.hid (BoxS.kept G10.out hg13 (Ne.symm (G10.out.not_row P10.out)))
      clear hM13 hg13 j0 j1
      have j0 := G13.out.c0
      have j1 := G13.out.c1
      go_wp2_with fail
      refine (HH2.out _ M13.out).mono ?_
      rintro x w15 ⟨rfl, hb14⟩
      have M15 := Lib.hid (M13.out.below hb14)
      have B15 := Lib.hid (B13.out.trans (hb14.mono B13.out.size))
      have O15 := Lib.hid (ownsQ_below O13.out hb14)
      have K15 := Lib.hid (BoxS.kept K13.out (grown_of_below hb14) (by simp))
      have G15 := Lib.hid (BoxS.kept G13.out (grown_of_below hb14) (by simp))
      clear hb14 j0 j1
      go_wp2_with fail
      refine (HIS.out w15 (HV.out.below B15.out)).mono ?_
      rintro x w16 ⟨v2, rfl, ho2, hb16⟩
      obtain ⟨pv2, pc2, hf2⟩ := row_slice ho2
      subst hf2
      have M16 := Lib.hid (M15.out.below hb16)
      have B16 := Lib.hid (B15.out.trans (hb16.mono B15.out.size))
      have O16 := Lib.hid (ownsQ_below O15.out hb16)
      have K16 := Lib.hid (BoxS.kept K15.out (grown_of_below hb16) (by simp))
      have G16 := Lib.hid (BoxS.kept G15.out (grown_of_below hb16) (by simp))
      have k0 := K16.out.c0
      have k1 := K16.out.c1
      have hk16 : w3.heap.size < w16.heap.size := K16.out.lt
      obtain ⟨w17, hw17⟩ : ∃ w17, w17 = w16.alloc (.cells #[.slice pv2 L.length pc2, .int .i64 0] 35) := ⟨_, rfl⟩
      have hb17 : RowKit.Below w16.heap.size w16 w17 := by rw [hw17]; exact (Below.refl _ _).alloc (Nat.le_refl _) _
      have Q17 := Lib.hid (ownsQ_below ho2 hb17)
      have O17 := Lib.hid (ownsQ_below O16.out hb17)
      have M17 := Lib.hid (M16.out.below hb17)
      have B17 := Lib.hid (B16.out.trans (hb17.mono B16.out.size))
      have G17 := Lib.hid (BoxS.kept G16.out (grown_of_below hb17) (by simp))
      have HW17 := Lib.hid hw17
      clear ho2 hb16 hw17 hb17
      go_wp2_with fail
      rw [← HW17.out]
      refine (eqSwOwn_any 0 Q17.out O17.out HLEN.out).mono ?_
      rintro x w18 ⟨rfl, hb18⟩
      have M18 := Lib.hid (M17.out.below hb18)
      have B18 := Lib.hid (B17.out.trans (hb18.mono B17.out.size))
      have G18 := Lib.hid (BoxS.kept G17.out (grown_of_below hb18) (by simp))
      have j0 := G18.out.c0
      have j1 := G18.out.c1
      clear hb18 k0 k1
      go_wp2_with fail
      refine (HH2.out _ M18.out).mono ?_
      rintro x w19 ⟨rfl, hb19⟩
      have B19 := Lib.hid (B18.out.trans (hb19.mono B18.out.size))
      clear hb19 j0 j1
      go_wp2
      go_ret
      exact ⟨rfl, B19.out⟩
  · have hn' : (1048576 : Int) < (s.size : Int) := by omega
    go_enter Tryd.func6, Tryd.ntmps6
    go_wp2
    go_ret
    exact ⟨rfl, Below.refl _ _⟩
end Go.Proofs.YtndnbeijmhcepaaDoor
