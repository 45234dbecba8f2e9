
/- slices.SortStableFunc on at most eight cases, by the library's insertion sort; the comparison of two cases by Low. · A slice of cases as its cells; two cases compared; what the insertion sort by Low gives. No walk. · ascending: sorting leaves the cases as they are just where they ascend by Low. · apart: no key is in two cases. · impl.SwitchValid reports whether a switch is valid; so does the model. -/
import Derived.Test.YtjpcpiffffobcaaGreatDoorKsLeaf
import Derived.Test.YtjpcpiffffobcaaGreatDoorKsLay
import Derived.Sort.LotA
import Derived.Deep.LoopGhost
import Derived.Test.YtjpcpiffffobcaaGreatDoorKsQuiet
namespace Go.Proofs.YtjpcpiffffobcaaGreatDoor
open Go.RowKit Go.Shelf Go.Lib Go.Sort

def lowCf (x y : CaseD) : Int := if x.low < y.low then -1 else if y.low < x.low then 1 else 0

set_option maxHeartbeats 400000 in
theorem compare_any (x y : Int) (w : World) : Calls Tryz.prog 96 #[.int .i64 x, .int .i64 y] w fun e w' => e = .returned (.int .i64 (if x < y then -1 else if y < x then 1 else 0)) ∧ w = w' := by
  rcases Int.lt_trichotomy x y with h | h | h
  · go_enter Tryz.func96, Tryz.ntmps96
    go_wp2
    go_ret
    exact ⟨rfl, rfl⟩
  · subst h
    go_enter Tryz.func96, Tryz.ntmps96
    go_wp2
    go_ret
    simp
  · have h' : ¬ x < y := by omega
    go_enter Tryz.func96, Tryz.ntmps96
    go_wp2
    go_ret
    exact ⟨rfl, rfl⟩

set_option maxHeartbeats 400000 in
theorem lowCmp_any (x y : CaseD) (w : World) : Calls Tryz.prog 95 #[aggC x, aggC y] w fun e w' => e = .returned (.int .i64 (lowCf x y)) ∧ ∃ q os', w' = grow (w.drewN q) os' := by
  unfold aggC
  have hcon := fun W' => compare_any x.low y.low W'
  change ∀ W', Calls _ _ _ W' fun e w' => e = .returned (.int .i64 (lowCf x y)) ∧ _ at hcon
  generalize lowCf x y = r at hcon ⊢
  go_enter Tryz.func95, Tryz.ntmps95
  go_wp2_with (go_at_call 96; refine (hcon _).mono ?_; rintro e w' ⟨rfl, rfl⟩)
  go_ret
  exact ⟨rfl, 0, _, by rw [alloc_eq_grow, alloc_eq_grow, grow_grow]; rfl⟩

theorem lowCmp_lays (blk off size : Nat) (w : World) : CmpLays Tryz.prog 95 #[] encC 4 lowCf blk off size w :=
  fun _ _ _ _ x y => lowCmp_any x y _

theorem encC_one (x : CaseD) : ∀ v ∈ encC x, v.oneCell' = true := fun v hv => by
  simp [encC] at hv
  rcases hv with rfl | rfl | rfl | rfl <;> rfl

def ltLow : CaseD → CaseD → Bool := ltOf lowCf

theorem insC (blk off cap : Nat) (d : Array CaseD) (w : World) (hH : HoldsK encC 4 w blk off d) (hblk : blk < w.heap.size) (hsz : d.size ≤ 8) :
    Calls Tryz.prog 113 #[.slice (some ⟨blk, off, none⟩) d.size cap, .int .i64 0, .int .i64 d.size, .func (.func 95) #[] #[]] w fun e w' =>
      e = .returned (.tuple #[]) ∧ ∃ n os, w' = sortWorldK encC 4 w blk off n (Sort.insertionSort ltLow d 0 d.size) os := by
  have eg : ∀ args w, (callFunc 95 args).run Tryz.prog w = .ok (.enter 95 args) w := enters_of Tryz.func95 (by kernel_rfl) rfl
  exact AnyQ.insertionSortCmpFunc Tryz.laysIns 4 Tryz.isAgg67 Tryz.sizeOf67 encC (fun _ => rfl) encC_one lowCf 95 #[] blk off cap 0 d.size d w eg (lowCmp_lays blk off d.size w) hH hblk (Nat.zero_le _) (Nat.le_refl _) (by omega)

set_option maxHeartbeats 1000000 in
theorem stableC (blk off cap : Nat) (d : Array CaseD) (w : World) (hH : HoldsK encC 4 w blk off d) (hblk : blk < w.heap.size) (hsz : d.size ≤ 8) :
    Calls Tryz.prog 106 #[.slice (some ⟨blk, off, none⟩) d.size cap, .int .i64 d.size, .func (.func 95) #[] #[]] w fun e w' =>
      e = .returned (.tuple #[]) ∧ ∃ n os, w' = sortWorldK encC 4 w blk off n (Sort.insertionSort ltLow d 0 d.size) os := by
  have hcon := Lib.hid (insC blk off cap d w hH hblk hsz)
  clear hH
  generalize Sort.insertionSort ltLow d 0 d.size = r at hcon ⊢
  have b1 : (d.size : Int) ≤ 8 := by omega
  go_enter Tryz.func106, Tryz.ntmps106
  go_wp2
  refine wp_loop_rounds 1 ?_
  rw [rounds_succ]
  go_wp2_with (go_at_call 113; refine hcon.out.mono ?_; rintro e w' ⟨rfl, n, os, rfl⟩)
  refine wp_loop_rounds 1 ?_
  rw [rounds_succ]
  go_wp2
  go_end0
  exact ⟨rfl, n, os, rfl⟩

set_option maxHeartbeats 400000 in
theorem sortStableC (blk off cap : Nat) (d : Array CaseD) (w : World) (hH : HoldsK encC 4 w blk off d) (hblk : blk < w.heap.size) (hsz : d.size ≤ 8) :
    Calls Tryz.prog 94 #[.slice (some ⟨blk, off, none⟩) d.size cap, .func (.func 95) #[] #[]] w fun e w' =>
      e = .returned (.tuple #[]) ∧ ∃ n os, w' = sortWorldK encC 4 w blk off n (Sort.insertionSort ltLow d 0 d.size) os := by
  have hcon := Lib.hid (stableC blk off cap d w hH hblk hsz)
  clear hH
  generalize Sort.insertionSort ltLow d 0 d.size = r at hcon ⊢
  go_enter Tryz.func94, Tryz.ntmps94
  go_wp2_with (go_at_call 106; refine hcon.out.mono ?_; rintro e w' ⟨rfl, n, os, rfl⟩)
  go_end0
  exact ⟨rfl, n, os, rfl⟩
end Go.Proofs.YtjpcpiffffobcaaGreatDoor

namespace Go.Proofs.YtjpcpiffffobcaaGreatDoor
open Go.RowKit Go.Shelf Go.Lib Go.Sort

/-- The cases of an array lie one behind the other from a place on. -/
structure RowC (w : World) (b off : Nat) (d : Array CaseD) : Prop where
  old : b < w.heap.size
  low : ∀ j, j < d.size → w.cell? ⟨b, off + j * 4, none⟩ = some (.int .i64 d[j]!.low)
  high : ∀ j, j < d.size → w.cell? ⟨b, off + j * 4 + 1, none⟩ = some (.int .i64 d[j]!.high)
  target : ∀ j, j < d.size → w.cell? ⟨b, off + j * 4 + 2, none⟩ = some (.string d[j]!.target)
  weight : ∀ j, j < d.size → w.cell? ⟨b, off + j * 4 + 3, none⟩ = some (.int .i64 d[j]!.weight)

theorem RowC.below {w w' : World} {b off : Nat} {d : Array CaseD} (h : RowC w b off d) (hb : Below w.heap.size w w') : RowC w' b off d :=
  ⟨Nat.lt_of_lt_of_le h.old hb.size, fun j hj => (hb.cell (p := ⟨b, _, none⟩) h.old).trans (h.low j hj), fun j hj => (hb.cell (p := ⟨b, _, none⟩) h.old).trans (h.high j hj),
    fun j hj => (hb.cell (p := ⟨b, _, none⟩) h.old).trans (h.target j hj), fun j hj => (hb.cell (p := ⟨b, _, none⟩) h.old).trans (h.weight j hj)⟩

theorem RowC.flat {w : World} {b off : Nat} {d : Array CaseD} (h : RowC w b off d) (t : Nat) (ht : t < d.size * 4) : w.cell? ⟨b, off + t, none⟩ = some (flatK encC 4 d)[t]! := by
  rw [get_flatK _ _ _ _ ht]
  have hj : t / 4 < d.size := by omega
  have e : off + t = off + t / 4 * 4 + t % 4 := by omega
  rw [e]
  have hm : t % 4 < 4 := by omega
  generalize t % 4 = r at hm ⊢
  match r, hm with
  | 0, _ => exact h.low _ hj
  | 1, _ => exact h.high _ hj
  | 2, _ => exact h.target _ hj
  | 3, _ => exact h.weight _ hj

theorem RowC.of_holds {w : World} {b off : Nat} {d : Array CaseD} (h : HoldsK encC 4 w b off d) (hb : b < w.heap.size) : RowC w b off d :=
  ⟨hb, fun j hj => (h.cell (c := 0) hj (by decide)).1, fun j hj => (h.cell (c := 1) hj (by decide)).1, fun j hj => (h.cell (c := 2) hj (by decide)).1, fun j hj => (h.cell (c := 3) hj (by decide)).1⟩

theorem flat_one (d : Array CaseD) : ∀ u ∈ (flatK encC 4 d).toList, u.oneCell' = true := fun u hu => by
  obtain ⟨t, ht, rfl⟩ := List.getElem_of_mem hu
  have ht' : t < d.size * 4 := by simpa using ht
  have e : (flatK encC 4 d).toList[t] = (flatK encC 4 d)[t]! := by simp [ht']
  rw [e, get_flatK _ _ _ _ ht']
  have hm : t % 4 < 4 := by omega
  generalize t % 4 = r at hm ⊢
  match r, hm with
  | 0, _ => rfl
  | 1, _ => rfl
  | 2, _ => rfl
  | 3, _ => rfl

/-- What a slice owns is a row that may be sorted. -/
theorem holds_of_cells {w : World} {g e : Nat} {cur : Array Value} {d : Array CaseD} (hh : w.heap[g]? = some (.cells cur e (0, 0))) (hc : cur.toList.take (d.size * 4) = (flatK encC 4 d).toList) : HoldsK encC 4 w g 0 d := by
  intro t ht
  have ht' : t < d.size * 4 := by simpa using ht
  have h1 : cur.toList[t]? = (flatK encC 4 d).toList[t]? := by rw [← hc, List.getElem?_take, if_pos ht']
  constructor
  · simp only [World.cell?, hh, Nat.zero_add]
    simp at h1
    simp [h1, ht']
  · simp [World.frozen?, hh]

def eqC (x y : CaseD) : Bool := x.low == y.low && (x.high == y.high && (x.target.toList == y.target.toList && x.weight == y.weight))
theorem eqC_iff (x y : CaseD) : eqC x y = true ↔ x = y := by
  obtain ⟨a1, a2, a3, a4⟩ := x
  obtain ⟨b1, b2, b3, b4⟩ := y
  simp only [eqC, Bool.and_eq_true, beq_iff_eq, CaseD.mk.injEq, ByteArray.toList_eq]
  constructor
  · rintro ⟨h1, h2, h3, h4⟩
    refine ⟨h1, h2, ?_, h4⟩
    obtain ⟨⟨a⟩⟩ := a3
    obtain ⟨⟨b⟩⟩ := b3
    simp at h3
    rw [h3]
  · rintro ⟨rfl, rfl, rfl, rfl⟩
    exact ⟨rfl, rfl, rfl, rfl⟩

theorem neqC (x y : CaseD) (w : World) : Sem.run Tryz.prog (binOp .neq 67 (.agg #[.int .i64 x.low, .int .i64 x.high, .string x.target, .int .i64 x.weight]) (.agg #[.int .i64 y.low, .int .i64 y.high, .string y.target, .int .i64 y.weight])) w = .ok (.bool (!eqC x y)) w := by
  have u3 := Tryz.underlying3
  have a3 := Tryz.isAgg3
  have z3 := Tryz.sizeOf3
  have u9 := Tryz.underlying9
  have a9 := Tryz.isAgg9
  have z9 := Tryz.sizeOf9
  have hS : Tryz.prog.underlying 67 = some (.struct (Tryz.prog.fieldsOf 67)) := by kernel_rfl
  have hp : Tryz.prog.stoodInHeld 67 = false := by kernel_rfl
  rw [run_neq_struct, show (10000 : Nat) = 9999 + 1 from rfl, run_equalIn_agg w 9999 67 _ _ hS hp]
  simp only [Program.fieldsOf, Tryz.underlying67]
  go_simp
  unfold eqC
  by_cases h1 : x.low = y.low <;> by_cases h2 : x.high = y.high <;> by_cases h3 : x.target.toList = y.target.toList <;> by_cases h4 : x.weight = y.weight <;> simp [h1, h2, h3, h4]

/-! the sort, plain -/
def AscL (d : Array CaseD) : Prop := ∀ i, i + 1 < d.size → d[i]!.low ≤ d[i + 1]!.low
theorem ltLow_iff (x y : CaseD) : ltLow x y = true ↔ x.low < y.low := by
  unfold ltLow ltOf lowCf
  simp
  split <;> try split
  all_goals simp <;> omega
theorem ltLow_false (x y : CaseD) : ltLow x y = false ↔ y.low ≤ x.low := by
  rw [← Bool.not_eq_true, ltLow_iff]; omega
theorem swo_low : SWO ltLow :=
  ⟨fun x => (ltLow_false x x).2 (Int.le_refl _), fun x y z h1 h2 => (ltLow_iff x z).2 (by have := (ltLow_iff x y).1 h1; have := (ltLow_iff y z).1 h2; omega),
    fun x y z h1 h2 => (ltLow_false x z).2 (by have := (ltLow_false x y).1 h1; have := (ltLow_false y z).1 h2; omega)⟩
theorem outer_asc {d : Array CaseD} (h : AscL d) : ∀ (n i : Nat), d.size - i = n → 0 < i → insOuter ltLow 0 d.size i d = d
  | 0, i, hn, _ => insOuter_stop _ _ _ _ _ (by omega)
  | n + 1, i, hn, hi => by
    rw [insOuter_go _ _ _ _ _ (by omega), insInner_stop _ _ _ _ (.inr ?_)]
    · exact outer_asc h n (i + 1) (by omega) (by omega)
    · obtain ⟨p, rfl⟩ : ∃ p, i = p + 1 := ⟨i - 1, by omega⟩
      exact (ltLow_false _ _).2 (h p (by omega))
theorem sort_asc {d : Array CaseD} (h : AscL d) : insertionSort ltLow d 0 d.size = d := outer_asc h _ 1 rfl (by omega)
theorem asc_sort (d : Array CaseD) : AscL (insertionSort ltLow d 0 d.size) ∧ (insertionSort ltLow d 0 d.size).size = d.size := by
  obtain ⟨hp, hs⟩ := insertionSort_holds swo_low d 0 d.size (Nat.zero_le _) (Nat.le_refl _)
  exact ⟨fun i hi => (ltLow_false _ _).1 (hs i (i + 1) (Nat.zero_le _) (by omega) (by rw [hp.1] at hi; exact hi)), hp.1⟩
/-- The sort leaves the cases as they are just where they ascend. -/
theorem sort_same (d : Array CaseD) : (∀ j, j < d.size → (insertionSort ltLow d 0 d.size)[j]! = d[j]!) ↔ AscL d := by
  constructor
  · intro h i hi
    have := (asc_sort d).1 i (by rw [(asc_sort d).2]; exact hi)
    rwa [h i (by omega), h (i + 1) hi] at this
  · intro h j _
    rw [sort_asc h]
end Go.Proofs.YtjpcpiffffobcaaGreatDoor

namespace Go.Proofs.YtjpcpiffffobcaaGreatDoor
open Go.RowKit Go.Shelf Go.Lib Go.Sort

noncomputable def ascB (d : Array CaseD) : Bool := @decide (AscL d) (Classical.propDecidable _)
theorem ascB_iff (d : Array CaseD) : ascB d = true ↔ AscL d := @decide_eq_true_iff _ (Classical.propDecidable _)
theorem ascB_not (d : Array CaseD) : ascB d = false ↔ ¬ AscL d := @decide_eq_false_iff_not _ (Classical.propDecidable _)

set_option maxHeartbeats 400000 in
theorem cloneC (b off cap : Nat) (d : Array CaseD) (w : World) (hR : RowC w b off d) (hsz : d.size ≤ 8) :
    Calls Tryz.prog 93 #[.slice (some ⟨b, off, none⟩) d.size cap] w fun e w' =>
      ∃ (g cap' : Nat), e = .returned (.slice (some ⟨g, 0, none⟩) d.size cap') ∧ w.heap.size ≤ g ∧ HoldsK encC 4 w' g 0 d ∧ g < w'.heap.size ∧ RowKit.Below w.heap.size w w' := by
  obtain ⟨i0, hi, hz0, hz1, hz2⟩ := info_parts (show (Tryz.prog.info? 67).map (fun i => (i.zero, i.size, i.bytes)) = some (some (.agg #[.int .i64 0, .int .i64 0, .string ⟨#[]⟩, .int .i64 0]), 4, 40) by kernel_rfl)
  refine (AnyE.slices_Clone Tryz.laysClone i0 _ 4 40 hi hz0 hz1 hz2 rfl (by decide) Tryz.sizeOf67 b off d.size cap (flatK encC 4 d).toList w (by simp) (by unfold maxLen; omega) (by omega)
    (fun j u hj => ?_) (flat_one d)).mono ?_
  · obtain ⟨hj', rfl⟩ := List.getElem?_eq_some_iff.1 hj
    have ht : j < d.size * 4 := by simpa using hj'
    rw [hR.flat j ht]
    simp [ht]
  · rintro e w' ⟨v', rfl, ⟨_, ho⟩, hn, hb⟩
    rcases ho with ⟨rfl, _⟩ | ⟨g, cap', cur, rfl, hg, hh, _, _, _, hc⟩
    · exact absurd rfl hn
    · exact ⟨g, cap', rfl, hg, holds_of_cells hh hc, (Array.getElem?_eq_some_iff.1 hh).1, hb⟩

/-- Behind the sort: what lay below the clone's block is as it was; the row is the sorted one. -/
theorem sorted_world {w W : World} {g n : Nat} {os : Array Obj} {d r : Array CaseD} (hb : RowKit.Below w.heap.size w W) (hg : w.heap.size ≤ g) (hgs : g < W.heap.size) (hH : HoldsK encC 4 W g 0 d) (hs : r.size = d.size) :
    RowC (sortWorldK encC 4 W g 0 n r os) g 0 r ∧ RowKit.Below w.heap.size w (sortWorldK encC 4 W g 0 n r os) ∧ w.heap.size ≤ (sortWorldK encC 4 W g 0 n r os).heap.size := by
  refine ⟨RowC.of_holds (holdsK_sortWorldK_c encC 4 W g 0 d r n os hH hgs hs) (Nat.lt_of_lt_of_le hgs (size_sortWorldK_c encC 4 W g 0 n r os)), ?_, Nat.le_trans hb.size (size_sortWorldK_c encC 4 W g 0 n r os)⟩
  refine hb.trans ⟨rfl, rfl, rfl, size_sortWorldK_c encC 4 W g 0 n r os, fun k hk => ?_⟩
  have h1 : k < W.heap.size := Nat.lt_of_lt_of_le hk hb.size
  unfold sortWorldK grow putRowK putRow mapBlock Sort.ahead
  simp only [Array.getElem?_append, Array.size_modify, h1, if_true, Array.getElem?_modify]
  rw [if_neg (by omega)]

set_option maxRecDepth 100000 in
set_option maxHeartbeats 400000 in
theorem ascending_any (b off cap : Nat) (d : Array CaseD) (w : World) (hR : RowC w b off d) (hsz : d.size ≤ 8) :
    Calls Tryz.prog 77 #[.slice (some ⟨b, off, none⟩) d.size cap] w fun e w' => e = .returned (.bool (ascB d)) ∧ RowKit.Below w.heap.size w w' := by
  have hcl := Lib.hid (cloneC b off cap d w hR hsz)
  have HR := Lib.hid hR
  have b1 : (d.size : Int) ≤ 8 := by omega
  clear hR
  go_enter Tryz.func77, Tryz.ntmps77
  go_wp2_with (go_at_call 93; refine hcl.out.mono ?_; rintro e w1 ⟨g, cap', rfl, hg, hH, hgs, hb1⟩)
  have hst := Lib.hid (sortStableC g 0 cap' d w1 hH hgs hsz)
  have hsm := Lib.hid (sort_same d)
  have hss := (asc_sort d).2
  have HH := Lib.hid hH
  have HB := Lib.hid hb1
  clear hH hb1 hcl
  generalize insertionSort ltLow d 0 d.size = r at hst hsm hss
  have HS := Lib.hid hss
  clear hss
  go_wp2_with (go_at_call 94; refine hst.out.mono ?_; rintro e w2 ⟨rfl, n, os, rfl⟩)
  obtain ⟨hR2, hb2, hz2⟩ := sorted_world (n := n) (os := os) HB.out hg hgs HH.out HS.out
  have HR2 := Lib.hid hR2
  have HB2 := Lib.hid hb2
  clear hR2 hb2 hst
  generalize sortWorldK encC 4 w1 g 0 n r os = W at HR2 HB2 hz2 ⊢
  have hb0 : b < w.heap.size := HR.out.old
  have hg2 : g < W.heap.size := HR2.out.old
  have hm : Tryz.prog.eqGuardType Tryz.prog.depth 67 = false := by kernel_rfl
  go_loopw [12] (fun i wr => ∃ k : Nat, i = .int .i64 k ∧ k ≤ d.size ∧ Hid (RowKit.Below W.heap.size W wr) ∧ W.heap.size ≤ wr.heap.size ∧ Hid (∀ j, j < k → r[j]! = d[j]!)) (fun i _ => d.size - (intOf i).toNat)
  case atStart => exact ⟨0, rfl, Nat.zero_le _, Below.refl _ _, Nat.le_refl _, fun j hj => absurd hj (Nat.not_lt_zero _)⟩
  case round =>
    obtain ⟨k, rfl, hk, HW, hw2, HE⟩ := hrel
    by_cases hlt : k < d.size
    · have hx := (HR2.out.below HW.out)
      have hy := (HR.out.below (HB2.out.trans (HW.out.mono hz2)))
      have hrs : k < r.size := by rw [HS.out]; exact hlt
      have x0 := hx.low k hrs
      have x1 := hx.high k hrs
      have x2 := hx.target k hrs
      have x3 := hx.weight k hrs
      simp only [Nat.zero_add] at x0 x1 x2 x3
      have y0 := hy.low k hlt
      have y1 := hy.high k hlt
      have y2 := hy.target k hlt
      have y3 := hy.weight k hlt
      clear hx hy
      obtain ⟨x, hxe⟩ : ∃ x, x = r[k]! := ⟨_, rfl⟩
      obtain ⟨y, hye⟩ : ∃ y, y = d[k]! := ⟨_, rfl⟩
      rw [← hxe] at x0 x1 x2 x3
      rw [← hye] at y0 y1 y2 y3
      have XE := Lib.hid hxe
      have YE := Lib.hid hye
      clear hxe hye
      have he := neqC x y
      have l1 : g < wr.heap.size := by omega
      have l2 : b < wr.heap.size := by omega
      go_wp2
      cases hq : eqC x y with
      | true =>
        rw [hq] at he
        go_quiet (fail)
        go_wp2
        go_roundw
        case rel =>
          refine ⟨k + 1, by go_num, by omega, below_drewN ((HW.out.alloc hw2 _)) _, by simp; omega, (show Hid _ from fun j hj => ?_)⟩
          by_cases e : j = k
          · subst e
            rw [← XE.out, ← YE.out]
            exact (eqC_iff x y).1 hq
          · exact HE.out j (by omega)
        case measure => simp [intOf]; omega
      | false =>
        rw [hq] at he
        go_quiet (fail)
        go_wp2
        go_ret
        refine ⟨retB ?_, HB2.out.trans (below_drewN ((HW.out.alloc hw2 _).mono hz2) _)⟩
        symm
        rw [ascB_not, ← hsm.out]
        intro h
        have := h k hlt
        rw [← XE.out, ← YE.out] at this
        rw [(eqC_iff x y).2 this] at hq
        cases hq
    · go_wp2
      go_ret
      refine ⟨retB ?_, HB2.out.trans (HW.out.mono hz2)⟩
      symm
      rw [ascB_iff, ← hsm.out]
      exact fun j hj => HE.out j (by omega)
end Go.Proofs.YtjpcpiffffobcaaGreatDoor

namespace Go.Proofs.YtjpcpiffffobcaaGreatDoor
open Go.RowKit Go.Shelf Go.Lib Go.Sort

/-- n cases lie one behind the other from a place on: the j-th is e j. -/
structure RowF (w : World) (b off n : Nat) (e : Nat → CaseD) : Prop where
  old : b < w.heap.size
  low : ∀ j, j < n → w.cell? ⟨b, off + j * 4, none⟩ = some (.int .i64 (e j).low)
  high : ∀ j, j < n → w.cell? ⟨b, off + j * 4 + 1, none⟩ = some (.int .i64 (e j).high)
  target : ∀ j, j < n → w.cell? ⟨b, off + j * 4 + 2, none⟩ = some (.string (e j).target)
  weight : ∀ j, j < n → w.cell? ⟨b, off + j * 4 + 3, none⟩ = some (.int .i64 (e j).weight)
theorem RowF.below {w w' : World} {b off n : Nat} {d : Nat → CaseD} (h : RowF w b off n d) (hb : RowKit.Below w.heap.size w w') : RowF w' b off n d :=
  ⟨Nat.lt_of_lt_of_le h.old hb.size, fun j hj => (hb.cell (p := ⟨b, _, none⟩) h.old).trans (h.low j hj), fun j hj => (hb.cell (p := ⟨b, _, none⟩) h.old).trans (h.high j hj),
    fun j hj => (hb.cell (p := ⟨b, _, none⟩) h.old).trans (h.target j hj), fun j hj => (hb.cell (p := ⟨b, _, none⟩) h.old).trans (h.weight j hj)⟩
theorem RowC.from {w : World} {b off : Nat} {d : Array CaseD} (h : RowC w b off d) (k : Nat) : RowF w b (off + k * 4) (d.size - k) (fun j => d[k + j]!) :=
  ⟨h.old, fun j hj => by rw [← h.low (k + j) (by omega)]; congr 2; omega, fun j hj => by rw [← h.high (k + j) (by omega)]; congr 2; omega,
    fun j hj => by rw [← h.target (k + j) (by omega)]; congr 2; omega, fun j hj => by rw [← h.weight (k + j) (by omega)]; congr 2; omega⟩

/-- What IndexFunc hands back: -1 where no case meets c, an index where one does. -/
def IdxM (c : CaseD) (n : Nat) (e : Nat → CaseD) (w : World) (x : Ending) (w' : World) : Prop :=
  ∃ r : Int, x = .returned (.int .i64 r) ∧ (0 ≤ r ↔ ∃ j, j < n ∧ meetB c (e j) = true) ∧ RowKit.Below w.heap.size w w'

set_option maxRecDepth 100000 in
set_option maxHeartbeats 400000 in
theorem indexMeets (c : CaseD) (b off n cap : Nat) (e : Nat → CaseD) (w : World) (hR : RowF w b off n e) (hn : n ≤ 8) :
    Calls Tryz.prog 67 #[.slice (some ⟨b, off, none⟩) n cap, .func (.func 98) #[aggC c] #[]] w (IdxM c n e w) := by
  have HR := Lib.hid hR
  have hn' : (n : Int) ≤ 8 := by omega
  clear hR
  go_enter Tryz.func67, Tryz.ntmps67
  go_wp2
  go_loopw [5, 8] (fun _ i wr => ∃ k : Nat, i = .int .i64 k ∧ k ≤ n ∧ Hid (RowKit.Below w.heap.size w wr) ∧ w.heap.size ≤ wr.heap.size ∧ Hid (∀ j, j < k → meetB c (e j) = false)) (fun _ i _ => n - (intOf i).toNat)
  case atStart => exact ⟨0, rfl, Nat.zero_le _, Below.refl _ _, Nat.le_refl _, fun j hj => absurd hj (Nat.not_lt_zero _)⟩
  case round =>
    obtain ⟨k, rfl, hk, HW, hw2, HE⟩ := hrel
    by_cases hlt : k < n
    · have hx := HR.out.below HW.out
      have x0 := hx.low k hlt
      have x1 := hx.high k hlt
      have x2 := hx.target k hlt
      have x3 := hx.weight k hlt
      have hcall := Lib.hid (meets_any c (e k) wr)
      clear hx
      cases hq : meetB c (e k) with
      | true =>
        have HQ := Lib.hid hq
        rw [hq] at hcall
        clear hq
        go_wp2_with (go_at_call 98; refine hcall.out.mono ?_; rintro x w' ⟨rfl, hb⟩)
        go_ret
        exact ⟨k, rfl, ⟨fun _ => ⟨k, hlt, HQ.out⟩, fun _ => by omega⟩, HW.out.trans (hb.mono hw2)⟩
      | false =>
        have HQ := Lib.hid hq
        rw [hq] at hcall
        clear hq
        go_wp2_with (go_at_call 98; refine hcall.out.mono ?_; rintro x w' ⟨rfl, hb⟩)
        go_roundw
        case rel =>
          refine ⟨k + 1, by go_num, by omega, HW.out.trans (hb.mono hw2), Nat.le_trans hw2 hb.size, (show Hid _ from fun j hj => ?_)⟩
          by_cases e : j = k
          · subst e
            exact HQ.out
          · exact HE.out j (by omega)
        case measure => simp [intOf]; omega
    · go_wp2
      go_ret
      refine ⟨-1, rfl, ⟨fun h => by omega, fun ⟨j, hj, hm⟩ => ?_⟩, HW.out⟩
      rw [HE.out j (by omega)] at hm
      cases hm

/-- ContainsFunc with the method value. -/
def anyM (c : CaseD) (n : Nat) (e : Nat → CaseD) : Prop := ∃ j, j < n ∧ meetB c (e j) = true
set_option maxHeartbeats 400000 in
theorem containsMeets (c : CaseD) (b off n cap : Nat) (e : Nat → CaseD) (w : World) (hR : RowF w b off n e) (hn : n ≤ 8) (v : Bool) (hv : v = true ↔ anyM c n e) :
    Calls Tryz.prog 97 #[.slice (some ⟨b, off, none⟩) n cap, .func (.func 98) #[aggC c] #[]] w fun x w' => x = .returned (.bool v) ∧ RowKit.Below w.heap.size w w' := by
  have HC := Lib.hid (indexMeets c b off n cap e w hR hn)
  have HV := Lib.hid hv
  clear hR hv
  go_enter Tryz.func97, Tryz.ntmps97
  go_wp2_with (go_at_call 67; refine HC.out.mono ?_; rintro x w' ⟨r, rfl, hr, hb⟩; have HRR := Lib.hid hr; clear hr)
  go_ret
  refine ⟨retB ?_, hb⟩
  rw [Bool.eq_iff_iff, HV.out, decide_eq_true_iff]
  exact HRR.out

theorem RowF.none (w : World) (b off : Nat) (e : Nat → CaseD) (hb : b < w.heap.size) : RowF w b off 0 e :=
  ⟨hb, fun j hj => absurd hj (Nat.not_lt_zero j), fun j hj => absurd hj (Nat.not_lt_zero j), fun j hj => absurd hj (Nat.not_lt_zero j), fun j hj => absurd hj (Nat.not_lt_zero j)⟩

def ApartL (d : Array CaseD) : Prop := ∀ i j, i < j → j < d.size → meetB d[i]! d[j]! = false
noncomputable def apB (d : Array CaseD) : Bool := @decide (ApartL d) (Classical.propDecidable _)
theorem apB_iff (d : Array CaseD) : apB d = true ↔ ApartL d := @decide_eq_true_iff _ (Classical.propDecidable _)
theorem apB_not (d : Array CaseD) : apB d = false ↔ ¬ ApartL d := @decide_eq_false_iff_not _ (Classical.propDecidable _)

set_option maxRecDepth 100000 in
set_option maxHeartbeats 1000000 in
theorem apart_any (b off cap : Nat) (d : Array CaseD) (w : World) (hR : RowC w b off d) (hsz : d.size ≤ 8) (hcap : d.size ≤ cap) (hmax : cap ≤ maxLen) :
    Calls Tryz.prog 78 #[.slice (some ⟨b, off, none⟩) d.size cap] w fun e w' => e = .returned (.bool (apB d)) ∧ RowKit.Below w.heap.size w w' := by
  have HR := Lib.hid hR
  have b1 : (d.size : Int) ≤ 8 := by omega
  unfold maxLen at hmax
  have hb0 : b < w.heap.size := hR.old
  clear hR
  go_enter Tryz.func78, Tryz.ntmps78
  go_wp2
  go_loopw [7] (fun i wr => ∃ k : Nat, i = .int .i64 k ∧ k ≤ d.size ∧ Hid (RowKit.Below w.heap.size w wr) ∧ w.heap.size ≤ wr.heap.size ∧ Hid (∀ i j, i < k → i < j → j < d.size → meetB d[i]! d[j]! = false)) (fun i _ => d.size - (intOf i).toNat)
  case atStart => exact ⟨0, rfl, Nat.zero_le _, Below.refl _ _, Nat.le_refl _, fun j _ hj => absurd hj (Nat.not_lt_zero _)⟩
  case round =>
    obtain ⟨k, rfl, hk, HW, hw2, HE⟩ := hrel
    by_cases hlt : k < d.size
    · have hx := HR.out.below HW.out
      have x0 := hx.low k hlt
      have x1 := hx.high k hlt
      have x2 := hx.target k hlt
      have x3 := hx.weight k hlt
      clear hx
      obtain ⟨x, hxe⟩ : ∃ x, x = d[k]! := ⟨_, rfl⟩
      rw [← hxe] at x0 x1 x2 x3
      have XE := Lib.hid hxe
      clear hxe
      go_wp2
      have hsub := HR.out.below HW.out
      have hsub2 := Lib.hid (hsub.from (k + 1))
      have hbw : b < wr.heap.size := hsub.old
      clear hsub x0 x1 x2 x3
      obtain ⟨wa, hwa⟩ : ∃ wa, wa = wr.alloc (.cells #[.int .i64 x.low, .int .i64 x.high, .string x.target, .int .i64 x.weight] 67) := ⟨_, rfl⟩
      have c0 : wa.cell? ⟨wr.heap.size, 0, none⟩ = some (.int .i64 x.low) := by rw [hwa]; simp
      have c1 : wa.cell? ⟨wr.heap.size, 1, none⟩ = some (.int .i64 x.high) := by rw [hwa]; simp
      have c2 : wa.cell? ⟨wr.heap.size, 2, none⟩ = some (.string x.target) := by rw [hwa]; simp
      have c3 : wa.cell? ⟨wr.heap.size, 3, none⟩ = some (.int .i64 x.weight) := by rw [hwa]; simp
      have hz : wr.heap.size < wa.heap.size := by rw [hwa]; simp
      have hba : RowKit.Below wr.heap.size wr wa := by rw [hwa]; exact (Below.refl _ _).alloc (Nat.le_refl _) _
      have HB := Lib.hid hba
      rw [← hwa]
      clear hwa hba
      have f0 := fun p : BW wa => p.cell (a := ⟨wr.heap.size, 0, none⟩) hz c0
      have f1 := fun p : BW wa => p.cell (a := ⟨wr.heap.size, 1, none⟩) hz c1
      have f2 := fun p : BW wa => p.cell (a := ⟨wr.heap.size, 2, none⟩) hz c2
      have f3 := fun p : BW wa => p.cell (a := ⟨wr.heap.size, 3, none⟩) hz c3
      clear c0 c1 c2 c3
      have hcl := fun (v : Bool) (hv : v = true ↔ anyM x (d.size - (k + 1)) (fun j => d[k + 1 + j]!)) (p : BW wa) => containsMeets x b (off + (k + 1) * 4) (d.size - (k + 1)) (cap - (k + 1)) (fun j => d[k + 1 + j]!) p.W (hsub2.out.below (HB.out.trans (p.h.mono (by omega)))) (by omega) v hv
      have HCL := Lib.hid hcl
      clear hcl
      have hs1 : IntKind.i64.wrap ((k : Int) + 1) = (k : Int) + 1 := IntWalk.i64_in _ (by omega)
      have hs2 : (0 : Int) ≤ (k : Int) + 1 := by omega
      have hs3 : ((k : Int) + 1).toNat = k + 1 := by omega
      have hBp : ∀ p : BW wa, RowKit.Below w.heap.size w p.W := fun p => HW.out.trans ((HB.out.trans (p.h.mono (by omega))).mono hw2)
      have HBP := Lib.hid hBp
      clear hBp
      by_cases hany : anyM x (d.size - (k + 1)) (fun j => d[k + 1 + j]!)
      · have HA := Lib.hid hany
        have hv := Lib.hid (HCL.out true ⟨fun _ => hany, fun _ => rfl⟩)
        clear hany
        by_cases hkc : k + 1 = cap
        · obtain ⟨j, hj, _⟩ := HA.out
          omega
        · have hk2 : (k : Int) + 1 < cap := by omega
          refine wp_region_bw (by kernel_rfl) (by kernel_rfl) ?_
          repeat (go_big_quiet_step ((go_at_call 97; refine bw_of (hv.out _))))
          refine wpQuiet_nil ?_
          rintro _ ⟨p, rfl⟩
          go_wp2
          go_ret
          refine ⟨retB ?_, HBP.out p⟩
          symm
          rw [apB_not]
          intro h
          obtain ⟨j, hj, hm⟩ := HA.out
          have := h k (k + 1 + j) (by omega) (by omega)
          rw [← XE.out] at this
          rw [this] at hm
          cases hm
      · have HA := Lib.hid hany
        have hv := Lib.hid (HCL.out false (Iff.intro (fun h => nomatch h) (fun h => absurd h hany)))
        clear hany
        have hrel : Hid (∀ i j, i < k + 1 → i < j → j < d.size → meetB d[i]! d[j]! = false) := (show Hid _ from fun i j hi hij hj => by
          by_cases e : i = k
          · subst e
            cases hq : meetB d[i]! d[j]! with
            | false => rfl
            | true => exact absurd ⟨j - (i + 1), by omega, by rw [XE.out]; show meetB d[i]! d[i + 1 + (j - (i + 1))]! = true; rw [show i + 1 + (j - (i + 1)) = j by omega]; exact hq⟩ HA.out
          · exact HE.out i j (by omega) hij hj)
        by_cases hkc : k + 1 = cap
        · have hn0 : d.size - (k + 1) = 0 := by omega
          have hk2 : ¬ (k : Int) + 1 < cap := by omega
          have hv0 := Lib.hid (fun p : BW wa => containsMeets x b off 0 0 (fun j => d[j]!) p.W (RowF.none _ _ _ _ (by have := p.h.size; omega)) (by omega) false (Iff.intro (fun h => nomatch h) (fun ⟨j, hj, _⟩ => absurd hj (Nat.not_lt_zero j))))
          refine wp_region_bw (by kernel_rfl) (by kernel_rfl) ?_
          repeat (go_big_quiet_step ((go_at_call 97; refine bw_of (hv0.out _))))
          refine wpQuiet_nil ?_
          rintro _ ⟨p, rfl⟩
          go_wp2
          go_roundw
          case rel => exact ⟨k + 1, by go_num, by omega, HBP.out p, by have := p.h.size; omega, hrel⟩
          case measure => simp [intOf]; omega
        · have hk2 : (k : Int) + 1 < cap := by omega
          refine wp_region_bw (by kernel_rfl) (by kernel_rfl) ?_
          repeat (go_big_quiet_step ((go_at_call 97; refine bw_of (hv.out _))))
          refine wpQuiet_nil ?_
          rintro _ ⟨p, rfl⟩
          go_wp2
          go_roundw
          case rel => exact ⟨k + 1, by go_num, by omega, HBP.out p, by have := p.h.size; omega, hrel⟩
          case measure => simp [intOf]; omega
    · go_wp2
      go_ret
      refine ⟨retB ?_, HW.out⟩
      symm
      rw [apB_iff]
      exact fun i j hij hj => HE.out i j (by omega) hij hj
end Go.Proofs.YtjpcpiffffobcaaGreatDoor

namespace Go.Proofs.YtjpcpiffffobcaaGreatDoor
open Go.RowKit Go.Shelf Go.Lib Go.Sort

/-- A valid switch. -/
structure SwOK (d : Array CaseD) (rest : Int) : Prop where
  size : d.size ≤ 8
  rest : wgtB rest = true
  case : ∀ j, j < d.size → caseB d[j]! = true
  next : ∀ i, i + 1 < d.size → d[i]!.high < d[i + 1]!.low
noncomputable def swB (d : Array CaseD) (rest : Int) : Bool := @decide (SwOK d rest) (Classical.propDecidable _)
theorem swB_iff (d : Array CaseD) (rest : Int) : swB d rest = true ↔ SwOK d rest := @decide_eq_true_iff _ (Classical.propDecidable _)
theorem swB_not (d : Array CaseD) (rest : Int) : swB d rest = false ↔ ¬ SwOK d rest := @decide_eq_false_iff_not _ (Classical.propDecidable _)

theorem caseB_le {c : CaseD} (h : caseB c = true) : c.low ≤ c.high := by simp [caseB] at h; exact h.1.2
theorem caseB_low {c : CaseD} (h : caseB c = true) : 0 ≤ c.low ∧ c.low ≤ 31 := by simp [caseB, keyB] at h; exact h.1.1.1.2
theorem caseB_high {c : CaseD} (h : caseB c = true) : 0 ≤ c.high ∧ c.high ≤ 31 := by simp [caseB, keyB] at h; exact h.1.1.2
theorem caseB_weight {c : CaseD} (h : caseB c = true) : 0 ≤ c.weight ∧ c.weight ≤ 99 := by simp [caseB, wgtB] at h; exact h.2

theorem SwOK.lt {d : Array CaseD} {rest : Int} (h : SwOK d rest) : ∀ (n i : Nat), i + n + 1 < d.size → d[i]!.high < d[i + n + 1]!.low
  | 0, i, hi => h.next i hi
  | n + 1, i, hi => by
    have h1 := h.lt n i (by omega)
    have h2 := caseB_le (h.case (i + n + 1) (by omega))
    have h3 := h.next (i + n + 1) (by omega)
    show _ < d[i + n + 1 + 1]!.low
    omega
theorem SwOK.before {d : Array CaseD} {rest : Int} (h : SwOK d rest) {i j : Nat} (hij : i < j) (hj : j < d.size) : d[i]!.high < d[j]!.low := by
  have := h.lt (j - i - 1) i (by omega)
  rwa [show i + (j - i - 1) + 1 = j by omega] at this
theorem swOK_of {d : Array CaseD} {rest : Int} (h1 : d.size ≤ 8) (h2 : wgtB rest = true) (h3 : ∀ j, j < d.size → caseB d[j]! = true) : SwOK d rest ↔ AscL d ∧ ApartL d := by
  constructor
  · intro h
    refine ⟨fun i hi => ?_, fun i j hij hj => ?_⟩
    · have := h.next i hi
      have := caseB_le (h3 i (by omega))
      omega
    · have := h.before hij hj
      simp [meetB]
      omega
  · rintro ⟨ha, hp⟩
    refine ⟨h1, h2, h3, fun i hi => ?_⟩
    have e := hp i (i + 1) (Nat.lt_succ_self _) hi
    have := ha i hi
    have := caseB_le (h3 (i + 1) hi)
    simp [meetB] at e
    omega

theorem swB_eq {d : Array CaseD} {rest : Int} (h1 : d.size ≤ 8) (h2 : wgtB rest = true) (h3 : ∀ j, j < d.size → caseB d[j]! = true) : swB d rest = (ascB d && apB d) := by
  rw [Bool.eq_iff_iff, swB_iff, swOK_of h1 h2 h3, Bool.and_eq_true, ascB_iff, apB_iff]

set_option maxRecDepth 100000 in
set_option maxHeartbeats 400000 in
theorem switchValid_off (b off cap : Nat) (d : Array CaseD) (rest : Int) (w : World) (h : 8 < d.size ∨ d.size ≤ 8 ∧ wgtB rest = false) :
    Calls Tryz.prog 49 #[.agg #[.slice (some ⟨b, off, none⟩) d.size cap, .int .i64 rest]] w fun e w' => e = .returned (.bool false) ∧ RowKit.Below w.heap.size w w' := by
  rcases h with h | ⟨h, hr⟩
  · have h' : (8 : Int) < d.size := by omega
    go_enter Tryz.func49, Tryz.ntmps49
    go_wp2
    go_ret
    exact ⟨rfl, (Below.refl _ _).alloc (Nat.le_refl _) _⟩
  · have h' : (d.size : Int) ≤ 8 := by omega
    go_enter Tryz.func49, Tryz.ntmps49
    go_wp2_with (go_at_call 75; refine (isWeight_any _ _).mono ?_; rintro e w' ⟨rfl, rfl⟩)
    go_ret
    exact ⟨rfl, (Below.refl _ _).alloc (Nat.le_refl _) _⟩

set_option maxRecDepth 100000 in
set_option maxHeartbeats 1000000 in
theorem switchValid_on (b off cap : Nat) (d : Array CaseD) (rest : Int) (w : World) (hR : RowC w b off d) (hE : ErrAt w) (hcap : d.size ≤ cap) (hmax : cap ≤ maxLen) (h : d.size ≤ 8) (hr : wgtB rest = true) :
    Calls Tryz.prog 49 #[.agg #[.slice (some ⟨b, off, none⟩) d.size cap, .int .i64 rest]] w fun e w' => e = .returned (.bool (swB d rest)) ∧ RowKit.Below w.heap.size w w' := by
  have h' : (d.size : Int) ≤ 8 := by omega
  have hd : decide ((8 : Int) < (d.size : Int)) = false := by simp; omega
  have HR := Lib.hid hR
  have HE := Lib.hid hE
  clear hR hE
  go_enter Tryz.func49, Tryz.ntmps49
  go_wp2_with (go_at_call 75; refine (isWeight_any _ _).mono ?_; rintro e w' ⟨rfl, rfl⟩)
  obtain ⟨wa, hwa⟩ : ∃ wa, wa = w.alloc (.cells #[.slice (some ⟨b, off, none⟩) d.size cap, .int .i64 rest] 32) := ⟨_, rfl⟩
  have c0 : wa.cell? ⟨w.heap.size, 0, none⟩ = some (.slice (some ⟨b, off, none⟩) d.size cap) := by rw [hwa]; simp
  have hz : w.heap.size < wa.heap.size := by rw [hwa]; simp
  have hba : RowKit.Below w.heap.size w wa := by rw [hwa]; exact (Below.refl _ _).alloc (Nat.le_refl _) _
  rw [← hwa]
  have HB := Lib.hid hba
  have C0 := Lib.hid c0
  clear hwa hba c0
  go_loopw [18] (fun i wr => ∃ k : Nat, i = .int .i64 k ∧ k ≤ d.size ∧ Hid (RowKit.Below wa.heap.size wa wr) ∧ wa.heap.size ≤ wr.heap.size ∧ Hid (∀ j, j < k → caseB d[j]! = true)) (fun i _ => d.size - (intOf i).toNat)
  case atStart => exact ⟨0, rfl, Nat.zero_le _, Below.refl _ _, Nat.le_refl _, fun j hj => absurd hj (Nat.not_lt_zero _)⟩
  case round =>
    obtain ⟨k, rfl, hk, HW, hw2, HC⟩ := hrel
    have HWW := Lib.hid (HB.out.trans (HW.out.mono (by omega)))
    by_cases hlt : k < d.size
    · have hx := HR.out.below HWW.out
      have x0 := hx.low k hlt
      have x1 := hx.high k hlt
      have x2 := hx.target k hlt
      have x3 := hx.weight k hlt
      clear hx
      obtain ⟨x, hxe⟩ : ∃ x, x = d[k]! := ⟨_, rfl⟩
      rw [← hxe] at x0 x1 x2 x3
      have XE := Lib.hid hxe
      clear hxe
      have hcall := Lib.hid (fun W hE => valid_any x W hE)
      have HE2 := Lib.hid (HE.out.below HWW.out)
      cases hq : caseB x with
      | true =>
        have HQ := Lib.hid hq
        rw [hq] at hcall
        clear hq
        go_wp2_with (go_at_call 76; refine (hcall.out _ (HE2.out.alloc _)).mono ?_; rintro x w' ⟨rfl, hb⟩)
        go_roundw
        case rel =>
          have hb2 : RowKit.Below wr.heap.size wr w' := ((Below.refl _ _).alloc (Nat.le_refl _) _).trans (hb.mono (by simp))
          refine ⟨k + 1, by go_num, by omega, HW.out.trans (hb2.mono hw2), Nat.le_trans hw2 hb2.size, (show Hid _ from fun j hj => ?_)⟩
          by_cases e : j = k
          · subst e
            rw [← XE.out]
            exact HQ.out
          · exact HC.out j (by omega)
        case measure => simp [intOf]; omega
      | false =>
        have HQ := Lib.hid hq
        rw [hq] at hcall
        clear hq
        go_wp2_with (go_at_call 76; refine (hcall.out _ (HE2.out.alloc _)).mono ?_; rintro x w' ⟨rfl, hb⟩)
        go_ret
        have hb2 : RowKit.Below wr.heap.size wr w' := ((Below.refl _ _).alloc (Nat.le_refl _) _).trans (hb.mono (by simp))
        refine ⟨retB ?_, HWW.out.trans (hb2.mono (by omega))⟩
        symm
        rw [swB_not]
        intro h
        have := h.case k hlt
        rw [← XE.out, HQ.out] at this
        cases this
    · have x0 := (HW.out.cell (p := ⟨w.heap.size, 0, none⟩) hz).trans C0.out
      have HR2 := Lib.hid (HR.out.below HWW.out)
      have hall : Hid (∀ j, j < d.size → caseB d[j]! = true) := (show Hid _ from fun j hj => HC.out j (by omega))
      have ha := fun W hR => ascending_any b off cap d W hR h
      have hp := fun W hR => apart_any b off cap d W hR h hcap hmax
      have hsw := swB_eq h hr hall.out
      cases qa : ascB d <;> cases qp : apB d
      all_goals
        simp only [qa] at ha
        simp only [qp] at hp
        rw [qa, qp] at hsw
        have SW := Lib.hid hsw
        have HA := Lib.hid ha
        have HP := Lib.hid hp
        clear qa qp ha hp hsw
        go_wp2_with fail
        refine (HA.out _ HR2.out).mono ?_
        rintro e w1 ⟨rfl, hb1⟩
        have y0 := (hb1.cell (p := ⟨w.heap.size, 0, none⟩) (by omega : w.heap.size < wr.heap.size)).trans x0
        go_wp2_with (go_at_call 78; refine (HP.out _ (HR2.out.below hb1)).mono ?_; rintro e w2 ⟨rfl, hb2⟩)
        go_ret
        exact ⟨retB SW.out.symm, HWW.out.trans ((by first | exact hb1.mono (by omega) | exact (hb1.mono (by omega)).trans (hb2.mono (by have := hb1.size; omega))))⟩

theorem switchValid_any (b off cap : Nat) (d : Array CaseD) (rest : Int) (w : World) (hR : RowC w b off d) (hE : ErrAt w) (hcap : d.size ≤ cap) (hmax : cap ≤ maxLen) :
    Calls Tryz.prog 49 #[.agg #[.slice (some ⟨b, off, none⟩) d.size cap, .int .i64 rest]] w fun e w' => e = .returned (.bool (swB d rest)) ∧ RowKit.Below w.heap.size w w' := by
  by_cases h : 8 < d.size
  · refine (switchValid_off b off cap d rest w (.inl h)).mono fun _ _ ⟨he, hb⟩ => ⟨he.trans (retB ?_), hb⟩
    exact ((swB_not _ _).2 fun hs => by have := hs.size; omega).symm
  · cases hr : wgtB rest with
    | false =>
      refine (switchValid_off b off cap d rest w (.inr ⟨by omega, hr⟩)).mono fun _ _ ⟨he, hb⟩ => ⟨he.trans (retB ?_), hb⟩
      exact ((swB_not _ _).2 fun hs => by have := hs.rest; rw [hr] at this; cases this).symm
    | true => exact switchValid_on b off cap d rest w hR hE hcap hmax (by omega) hr
end Go.Proofs.YtjpcpiffffobcaaGreatDoor
