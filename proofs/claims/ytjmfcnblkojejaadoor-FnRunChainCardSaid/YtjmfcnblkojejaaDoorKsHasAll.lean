
/- slices.Sorted of a chain's values; firstChain; hasAll. -/
import Derived.Test.YtjmfcnblkojejaaDoorKsVals
namespace Go.Proofs.YtjmfcnblkojejaaDoor
open Go.RowKit Go.Shelf Go.Lib Go.Sort

set_option maxHeartbeats 400000 in
theorem insN_nil (p : Option Addr) (cap : Nat) (w : World) : Calls Tryd.prog 154 #[.slice p 0 cap, .int .i64 0, .int .i64 0] w fun e w' => e = .returned (.tuple #[]) ∧ w' = w := by
  go_enter Tryd.func154, Tryd.ntmps154
  go_wp2
  refine wp_loop_rounds 1 ?_
  rw [rounds_succ]
  go_wp2
  go_end0
  exact ⟨rfl, rfl⟩

set_option maxHeartbeats 400000 in
theorem pdqN_nil (p : Option Addr) (cap : Nat) (l : Int) (w : World) : Calls Tryd.prog 142 #[.slice p 0 cap, .int .i64 0, .int .i64 0, .int .i64 l] w fun e w' => e = .returned (.tuple #[]) ∧ w' = w := by
  go_enter Tryd.func142, Tryd.ntmps142
  go_wp2
  refine wp_loop_rounds 1 ?_
  rw [rounds_succ]
  go_wp2_with fail
  refine (insN_nil p cap w).mono ?_
  rintro x w' ⟨rfl, rfl⟩
  go_wp2
  refine bodyPost_ret (results_none rfl _ _ _) rfl ?_
  exact ⟨rfl, rfl⟩

set_option maxHeartbeats 400000 in
theorem sortN_nil (p : Option Addr) (cap : Nat) (w : World) : Calls Tryd.prog 130 #[.slice p 0 cap] w fun e w' => e = .returned (.tuple #[]) ∧ w' = w := by
  have hlen : ∀ W, Calls Tryd.prog 143 #[.int .u64 0] W fun e w' => (∃ l : Int, e = .returned (.int .i64 l)) ∧ w' = W := fun W =>
    (Any.bits_Len Tryd.laysLenN 0 W (by omega) (by omega)).mono fun _ _ ⟨h1, h2⟩ => ⟨⟨_, h1⟩, h2⟩
  have HL := Lib.hid hlen
  clear hlen
  go_enter Tryd.func130, Tryd.ntmps130
  go_wp2_with fail
  refine (HL.out _).mono ?_
  rintro x w' ⟨⟨l, rfl⟩, rfl⟩
  go_wp2_with fail
  refine (pdqN_nil p cap l _).mono ?_
  rintro x w2 ⟨rfl, rfl⟩
  go_wp2
  go_end0
  exact ⟨rfl, rfl⟩

theorem map_getN (l : List Int) (j : Nat) (hj : j < l.length) : (l.map encN)[j]? = some (.int .i64 l.toArray[j]!) := by simp [hj]
/-- Numbers of the call's own, as the sort asks for them. -/
theorem holds_owns {w : World} {base : Nat} {v : Value} {l : List Int} (h : OwnsN base v l w) (hne : l ≠ []) :
    ∃ g cap, v = .slice (some ⟨g, 0, none⟩) l.length cap ∧ base ≤ g ∧ g < w.heap.size ∧ l.length ≤ cap ∧ Holds encN w g 0 l.toArray := by
  rcases h.2 with ⟨_, h2⟩ | ⟨g, cap, cur, rfl, hg, hh, hc, _⟩
  · exact absurd (List.eq_nil_of_length_eq_zero h2) hne
  · refine ⟨g, cap, rfl, hg, (Array.getElem?_eq_some_iff.1 hh).1, hc, fun j hj => ⟨?_, by simp [World.frozen?, hh]⟩⟩
    have hj' : j < l.length := by simpa using hj
    rw [Nat.zero_add, World.ownsRow.cellAt h j (by simpa using hj'), map_getN l j hj']

/-- A slice that holds these numbers, in a block of the call's own; of none it may be nil. -/
def RowV (base : Nat) (v : Value) (o : Array Int) (w : World) : Prop :=
  (∃ cap, v = .slice none 0 cap ∧ o = #[]) ∨ ∃ g cap, v = .slice (some ⟨g, 0, none⟩) o.size cap ∧ base ≤ g ∧ RowN w g 0 o

set_option maxHeartbeats 1000000 in
theorem sortedN_any (gf b N : Nat) (lb : Array Value) (o : Array Int) (w : World) (hN : N ≤ 1048576) (hb : b < w.heap.size) (hn : o.size ≤ 12) (eg : ∀ args w, (callFunc gf args).run Tryd.prog w = .ok (.enter gf args) w)
    (hseq : SeqStopsK Fence.wide 4 Tryd.prog gf lb (fun x : Int => #[Value.int .i64 x]) (KpS fun i => i = b) (fun ys => ys = o.toList) (fun _ => True) N (w.alloc (.cells #[.slice none 0 0] 43))) :
    Calls Tryd.prog 116 #[.func (.func gf) #[] lb] w fun x w' => ∃ v, x = .returned v ∧ RowV w.heap.size v (insertionSort ltZ o 0 o.size) w' ∧ RowKit.Below w.heap.size w w' := by
  have hc := Lib.hid (collectN_any gf b N lb o.toList w hN hb eg hseq)
  clear hseq eg
  by_cases hz : o.toList = []
  · have ho : o = #[] := by simpa using hz
    subst ho
    go_enter Tryd.func116, Tryd.ntmps116
    go_wp2_with fail
    refine hc.out.mono ?_
    rintro x w1 ⟨v, rfl, ho, hb1⟩
    have HB1 := Lib.hid hb1
    obtain ⟨p, cap, hv⟩ : ∃ p cap, v = .slice p 0 cap := by
      rcases ho.2 with ⟨h1, _⟩ | ⟨g, cap, cur, h1, _⟩
      · exact ⟨_, _, h1⟩
      · exact ⟨_, _, h1⟩
    subst hv
    have hr : RowV w.heap.size (.slice p 0 cap) (insertionSort ltZ #[] 0 (#[] : Array Int).size) w1 := by
      have e : insertionSort ltZ #[] 0 (#[] : Array Int).size = #[] := Array.eq_empty_of_size_eq_zero (sort_perm #[]).1
      rw [e]
      rcases ho.2 with ⟨h1, _⟩ | ⟨g, c2, cur, h1, h2, h3, _⟩
      · cases h1
        exact .inl ⟨_, rfl, rfl⟩
      · cases h1
        exact .inr ⟨g, cap, rfl, h2, (Array.getElem?_eq_some_iff.1 h3).1, fun j hj => absurd hj (Nat.not_lt_zero j)⟩
    have HR := Lib.hid hr
    clear ho hb1 hr hz
    go_wp2_with fail
    refine (sortN_nil p cap w1).mono ?_
    rintro x w2 ⟨rfl, rfl⟩
    go_wp2
    go_ret
    exact ⟨_, rfl, HR.out, HB1.out⟩
  · have HZ := Lib.hid hz
    have hsz : o.toList.length = o.size := by simp
    have HSZ := Lib.hid hsz
    clear hz hsz
    go_enter Tryd.func116, Tryd.ntmps116
    go_wp2_with fail
    refine hc.out.mono ?_
    rintro x w1 ⟨v, rfl, ho, hb1⟩
    have HB1 := Lib.hid hb1
    have hz1 := hb1.size
    obtain ⟨g, cap, rfl, hg, hgs, hcap, hH⟩ := holds_owns ho HZ.out
    have hH' : Holds encN w1 g 0 o := by simpa using hH
    have HSO := Lib.hid (sortN_any g cap o w1 hH' hn)
    rw [HSZ.out]
    clear ho hb1 hH hH'
    go_wp2_with fail
    refine HSO.out.mono ?_
    rintro x w2 ⟨rfl, hs2, hg2⟩
    have hsp := (sort_perm o).1
    have hr : RowV w.heap.size (.slice (some ⟨g, 0, none⟩) o.size cap) (insertionSort ltZ o 0 o.size) w2 := .inr ⟨g, cap, by rw [hsp], hg, Nat.lt_of_lt_of_le hgs hg2.size, fun j hj => (hs2 j hj).1⟩
    have HR := Lib.hid hr
    have HB2 := Lib.hid (HB1.out.grown hg2 hz1 (fun q hq => by injection hq with hq; omega))
    clear hs2 hg2 hsp hr
    go_wp2
    go_ret
    exact ⟨_, rfl, HR.out, HB2.out⟩

/-! firstChain -/
theorem run_makeChain (n : Nat) (hn : n ≤ 1048576) (W : World) :
    (Instr.makeSlice 87 (.int .i64 (n : Int)) (.int .i64 (n : Int))).run Tryd.prog W = .ok (.slice (some ⟨W.heap.size, 0, none⟩) n n) (W.alloc (.cells (madeCells #[.int .i64 0] n) 3)) := by
  obtain ⟨i0, hi, hz0, hz1, hz2⟩ := info_parts infoN
  have h := run_make (P := Tryd.prog) W 87 3 i0 _ Tryd.underlying87 hi hz0 .i64 .i64 (n : Int) (n : Int) (by omega) (by omega) (by rw [hz2]; omega) (by omega)
  rw [hz1] at h
  simp only [Int.toNat_natCast, Nat.mul_one] at h
  exact h

set_option maxRecDepth 100000 in
set_option maxHeartbeats 1000000 in
theorem firstChain_any (n : Nat) (w : World) (hn : n ≤ 8) :
    Calls Tryd.prog 85 #[.int .i64 n] w fun x w' => x = .returned (.slice (some ⟨w.heap.size, 0, none⟩) n n) ∧ Holds encN w' w.heap.size 0 (upTo n) ∧ RowKit.Below w.heap.size w w' ∧ w.heap.size < w'.heap.size := by
  have hn' : (n : Int) ≤ 8 := by omega
  have hmk := run_makeChain n (by omega)
  go_enter Tryd.func85, Tryd.ntmps85
  go_wp2
  have hH0 := made_holdsG encN 0 rfl n 3 w w.heap.size rfl
  obtain ⟨wa, hwa⟩ : ∃ wa, wa = w.alloc (.cells (madeCells #[.int .i64 0] n) 3) := ⟨_, rfl⟩
  rw [← hwa] at hH0
  have hz : w.heap.size < wa.heap.size := by rw [hwa]; simp
  have hba : RowKit.Below w.heap.size w wa := by rw [hwa]; exact (Below.refl _ _).alloc (Nat.le_refl _) _
  rw [← hwa]
  have HH0 := Lib.hid hH0
  have HB := Lib.hid hba
  clear hwa hba hH0 hmk
  obtain ⟨g, hg⟩ : ∃ g, g = w.heap.size := ⟨_, rfl⟩
  rw [← hg] at HH0 hz ⊢
  have HG := Lib.hid hg
  clear hg
  go_loopw [9] (fun i wr => ∃ (k : Nat) (A : Array Int), i = .int .i64 k ∧ k ≤ n ∧ Hid (A.size = n) ∧ Hid (Holds encN wr g 0 A) ∧ Hid (∀ j, j < k → A[j]! = (j : Int)) ∧ Hid (RowKit.Below g w wr) ∧ wa.heap.size ≤ wr.heap.size) (fun i _ => n - (Lib.intOf i).toNat)
  case atStart => exact ⟨0, _, rfl, Nat.zero_le _, by simp [Hid], HH0.out, (show Hid _ from fun j hj => absurd hj (Nat.not_lt_zero _)), (show RowKit.Below g w wa by rw [HG.out]; exact HB.out), Nat.le_refl _⟩
  case round =>
    obtain ⟨k, A, rfl, hk, HAZ, HH, HM, HW, hw2⟩ := hrel
    by_cases hlt : k < n
    · have hkA : k < A.size := by rw [HAZ.out]; exact hlt
      have y0 := (HH.out k hkA).1
      have y1 := (HH.out k hkA).2
      simp only [Nat.zero_add] at y0 y1
      have HKA := Lib.hid hkA
      clear hkA
      go_wp2
      go_roundw
      case rel =>
        refine ⟨k + 1, A.setIfInBounds k k, by go_num, by omega, (show _ = _ by simpa using HAZ.out), holds_setG encN HH.out k k HKA.out, (show Hid _ from fun j hj => ?_), HW.out.setCell (p := ⟨g, k, none⟩) (Nat.le_refl _) _, by simpa [World.setCell] using hw2⟩
        by_cases e : j = k
        · subst e
          rw [getElem!_set_same _ _ _ HKA.out]
        · rw [getElem!_set_other _ _ _ _ e]
          exact HM.out j (by omega)
      case measure => simp [Lib.intOf]; omega
    · go_wp2
      go_ret
      have e : A = upTo n := Array.ext (by rw [HAZ.out, upTo_size]) fun j h1 h2 => by
        have hj : j < n := by rw [HAZ.out] at h1; exact h1
        have e1 : A[j] = A[j]! := by simp [h1]
        have e2 : (upTo n)[j] = (upTo n)[j]! := by simp [h2]
        rw [e1, e2, upTo_get hj]
        exact HM.out j (by omega)
      rw [← HG.out]
      exact ⟨rfl, e ▸ HH.out, HW.out, Nat.lt_of_lt_of_le hz hw2⟩

/-! hasAll -/
theorem allEq_toList (xs ys : List Int) : Lib.allEq (fun x y : Int => x == y) xs ys = decide (xs = ys) := by
  induction xs generalizing ys with
  | nil => cases ys <;> simp [Lib.allEq]
  | cons x xs ih => cases ys with
    | nil => simp [Lib.allEq]
    | cons y ys => simp only [Lib.allEq, ih, List.cons.injEq]; by_cases h : x = y <;> simp [h]
theorem arr_list (a b : Array Int) : decide (a = b) = decide (a.toList = b.toList) := by
  rw [Bool.eq_iff_iff, decide_eq_true_iff, decide_eq_true_iff]
  exact ⟨fun h => by rw [h], fun h => by cases a; cases b; simpa using h⟩
theorem toListN_get (d : Array Int) (j : Nat) : d.toList[j]! = d[j]! := by
  by_cases h : j < d.size <;> simp [h]
theorem equalN_any (b1 c1 b2 c2 : Nat) (xs ys : Array Int) (w : World) (h1 : RowN w b1 0 xs) (h2 : RowN w b2 0 ys) (hs : xs.size ≤ 1048576) (hs2 : ys.size ≤ 1048576) :
    Calls Tryd.prog 115 #[.slice (some ⟨b1, 0, none⟩) xs.size c1, .slice (some ⟨b2, 0, none⟩) ys.size c2] w fun e w' => e = .returned (.bool (decide (xs = ys))) ∧ ∃ q, w' = w.drewN q := by
  have h := AnyE.slices_Equal Tryd.laysEqN encN (fun x y : Int => x == y) (NeqAt.int _ _ _) b1 0 xs.size c1 b2 0 ys.size c2 xs.toList ys.toList w (by simp) (by simp) (by omega) (by omega)
    (fun j hj => by rw [toListN_get]; exact h1.cell j (by simpa using hj)) (fun j hj => by rw [toListN_get]; exact h2.cell j (by simpa using hj))
  rw [allEq_toList, List.take_of_length_le (by simp), List.take_of_length_le (by simp), ← arr_list] at h
  exact h
set_option maxHeartbeats 400000 in
theorem equalN_nil (c1 b2 c2 : Nat) (w : World) :
    Calls Tryd.prog 115 #[.slice none 0 c1, .slice (some ⟨b2, 0, none⟩) 0 c2] w fun e w' => e = .returned (.bool true) ∧ ∃ q, w' = w.drewN q := by
  go_enter Tryd.func115, Tryd.ntmps115
  go_wp2
  refine wp_loop_rounds 1 ?_
  rw [rounds_succ]
  go_wp2
  go_ret
  exact ⟨rfl, 0, rfl⟩

set_option maxRecDepth 100000 in
set_option maxHeartbeats 1000000 in
theorem hasAll_any (b cap n : Nat) (o : Array Int) (w : World) (hn : n ≤ 8) (hR : RowN w b 0 o) (ho : o.size ≤ 1048576) :
    Calls Tryd.prog 78 #[.slice (some ⟨b, 0, none⟩) o.size cap, .int .i64 n] w fun x w' => x = .returned (.bool (ordB n o)) ∧ RowKit.Below w.heap.size w w' := by
  have HR := Lib.hid hR
  have hn' : (n : Int) ≤ 8 := by omega
  have ho' : (o.size : Int) ≤ 1048576 := by omega
  clear hR
  by_cases hsz : o.size = n
  · have hq : ((o.size : Int) == (n : Int)) = true := by simp; omega
    have HO := Lib.hid (ordB_sorted hsz)
    have HSZ := Lib.hid hsz
    clear hsz
    go_enter Tryd.func78, Tryd.ntmps78
    go_wp2_with fail
    refine (values_any (some ⟨b, 0, none⟩) o.size cap w).mono ?_
    rintro x w1 ⟨rfl, rfl⟩
    obtain ⟨w1, hw1⟩ : ∃ w1, w1 = w.alloc (.cells #[.slice (some ⟨b, 0, none⟩) o.size cap] 87) := ⟨_, rfl⟩
    have c0 : w1.cell? ⟨w.heap.size, 0, none⟩ = some (.slice (some ⟨b, 0, none⟩) o.size cap) := by rw [hw1]; simp
    have hz1 : w1.heap.size = w.heap.size + 1 := by rw [hw1]; simp
    have hb1 : RowKit.Below w.heap.size w w1 := by rw [hw1]; exact (Below.refl _ _).alloc (Nat.le_refl _) _
    rw [← hw1]
    have hR1 := HR.out.below hb1
    have hbox : RowKit.Below w1.heap.size w1 (w1.alloc (.cells #[.slice none 0 0] 43)) := (Below.refl _ _).alloc (Nat.le_refl _) _
    have hS := sortedN_any 131 b o.size #[.pointer (some ⟨w.heap.size, 0, none⟩)] o w1 ho hR1.old (by have := HSZ.out; omega) (enters_of Tryd.func131 (by kernel_rfl) rfl)
      (values_stops 4 b 0 cap w.heap.size o.size o _ (by decide) (Nat.le_refl _) ho ((hbox.cell (p := ⟨w.heap.size, 0, none⟩) (by omega : w.heap.size < w1.heap.size)).trans c0) (hR1.below hbox) (by simp; omega))
    have HS := Lib.hid hS
    have HB1 := Lib.hid hb1
    clear hw1 c0 hb1 hR1 hbox hS
    go_wp2_with fail
    refine HS.out.mono ?_
    rintro x w2 ⟨v, rfl, hv, hb2⟩
    have HV := Lib.hid hv
    have hz2 := hb2.size
    have HB2 := Lib.hid (HB1.out.trans (hb2.mono (by omega)))
    clear hv hb2 HS
    go_wp2_with fail
    refine (firstChain_any n w2 hn).mono ?_
    rintro x w3 ⟨rfl, hh3, hb3, hlt3⟩
    have HR3 := Lib.hid (show RowN w3 w2.heap.size 0 (upTo n) from ⟨hlt3, fun j hj => (hh3 j hj).1⟩)
    have HB3 := Lib.hid (HB2.out.trans (hb3.mono HB2.out.size))
    have HV3 := Lib.hid hb3
    clear hh3 hb3 hlt3
    have hE : Calls Tryd.prog 115 #[v, .slice (some ⟨w2.heap.size, 0, none⟩) n n] w3 fun e w' => e = .returned (.bool (ordB n o)) ∧ ∃ q, w' = w3.drewN q := by
      rw [HO.out]
      obtain ⟨s, hs⟩ : ∃ s, s = insertionSort ltZ o 0 o.size := ⟨_, rfl⟩
      have hsz : s.size = o.size := by rw [hs]; exact (sort_perm o).1
      have hvv := HV.out
      rw [← hs] at hvv ⊢
      rcases hvv with ⟨c, rfl, rfl⟩ | ⟨g, c, rfl, hg, hr⟩
      · have hn0 : n = 0 := by have := HSZ.out; simp at hsz; omega
        subst hn0
        have e : (#[] : Array Int) = upTo 0 := rfl
        rw [decide_eq_true e]
        exact equalN_nil c _ 0 w3
      · have h := equalN_any g c w2.heap.size n s (upTo n) w3 (hr.below HV3.out) HR3.out (by omega) (by rw [upTo_size]; omega)
        rw [upTo_size] at h
        exact h
    have HE := Lib.hid hE
    clear hE HV HV3 HR3
    go_wp2_with fail
    refine HE.out.mono ?_
    rintro x w4 ⟨rfl, q, rfl⟩
    clear HE
    go_wp2
    go_ret
    exact ⟨rfl, below_drewN HB3.out q⟩
  · have hq : ((o.size : Int) == (n : Int)) = false := by simp; omega
    have HSZ := Lib.hid hsz
    clear hsz
    go_enter Tryd.func78, Tryd.ntmps78
    go_wp2_with fail
    go_ret
    exact ⟨retB ((ordB_not n o).2 fun h => HSZ.out h.1).symm, Below.refl _ _⟩
end Go.Proofs.YtjmfcnblkojejaaDoor
