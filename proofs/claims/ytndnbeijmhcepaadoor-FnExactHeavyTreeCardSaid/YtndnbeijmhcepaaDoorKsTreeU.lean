
/- Trees made of segments, the program. -/
import Derived.Test.YtndnbeijmhcepaaDoorKsTreeQ
import Derived.Test.YtndnbeijmhcepaaDoorKsTreeT
import Derived.Test.YtndnbeijmhcepaaDoorKsCollect
import Derived.Deep.RegionHeld3
namespace Go.Proofs.YtndnbeijmhcepaaDoor
open Go.RowKit Go.Shelf

abbrev SegsAt (w : World) (b off : Nat) (l : List CaseD) : Prop := RowC w b off l.toArray
theorem SegsAt.take {w : World} {b off : Nat} {l : List CaseD} (h : SegsAt w b off l) (n : Nat) : SegsAt w b off (l.take n) := by
  have e : ∀ j, j < (l.take n).toArray.size → j < l.toArray.size ∧ (l.take n).toArray[j]! = l.toArray[j]! := fun j hj => by
    have hj' : j < (l.take n).length := by simpa using hj
    refine ⟨by rw [List.length_take] at hj'; simp; omega, ?_⟩
    have := get_take hj'
    simp only [List.getElem!_toArray]
    exact this
  exact ⟨h.old, fun j hj => by rw [(e j hj).2]; exact h.low j (e j hj).1, fun j hj => by rw [(e j hj).2]; exact h.high j (e j hj).1, fun j hj => by rw [(e j hj).2]; exact h.target j (e j hj).1, fun j hj => by rw [(e j hj).2]; exact h.weight j (e j hj).1⟩
theorem SegsAt.drop {w : World} {b off : Nat} {l : List CaseD} (h : SegsAt w b off l) (n : Nat) : SegsAt w b (off + n * 4) (l.drop n) := by
  have e : ∀ j, j < (l.drop n).toArray.size → n + j < l.toArray.size ∧ (l.drop n).toArray[j]! = l.toArray[n + j]! ∧ off + n * 4 + j * 4 = off + (n + j) * 4 := fun j hj => by
    have hj' : j < (l.drop n).length := by simpa using hj
    refine ⟨by rw [List.length_drop] at hj'; simp; omega, ?_, by omega⟩
    have := get_drop hj'
    simp only [List.getElem!_toArray]
    exact this
  exact ⟨h.old, fun j hj => by rw [(e j hj).2.1, (e j hj).2.2]; exact h.low _ (e j hj).1, fun j hj => by rw [(e j hj).2.1, (e j hj).2.2]; exact h.high _ (e j hj).1, fun j hj => by rw [(e j hj).2.1, (e j hj).2.2]; exact h.target _ (e j hj).1, fun j hj => by rw [(e j hj).2.1, (e j hj).2.2]; exact h.weight _ (e j hj).1⟩

set_option maxHeartbeats 400000 in
theorem middle_any (l : List CaseD) (a : Option Addr) (cap : Nat) (w : World) (h17 : l.length ≤ 17) :
    Calls Tryd.prog 38 #[.slice a l.length cap] w fun x w' => x = .returned (.int .i64 (midP l)) ∧ Below w.heap.size w w' := by
  have hd : ((l.length : Nat) : Int).tdiv 2 = ((l.length / 2 : Nat) : Int) := by rw [Int.tdiv_eq_ediv_of_nonneg (by omega)]; omega
  have hli : ((l.length : Nat) : Int) ≤ 17 := by omega
  obtain ⟨n, hn⟩ : ∃ n, n = l.length := ⟨_, rfl⟩
  have HM := Lib.hid (show midP l = n / 2 by rw [hn]; rfl)
  rw [← hn] at hd hli ⊢
  clear hn
  go_enter Tryd.func38, Tryd.ntmps38
  go_wp2
  go_ret
  exact ⟨by rw [HM.out]; rfl, Below.refl _ _⟩

/-- A function that tells where segments are parted. -/
def PartFn (P : List CaseD → Nat) (pf : FuncId) : Prop := (∀ args W, (callFunc pf args).run Tryd.prog W = .ok (.enter pf args) W) ∧
  ∀ (l : List CaseD) (b off cap : Nat) (W : World), SegsAt W b off l → 2 ≤ l.length → l.length ≤ 17 → (∀ c ∈ l, okB c = true) → l.length ≤ cap → cap ≤ maxLen →
    Calls Tryd.prog pf #[.slice (some ⟨b, off, none⟩) l.length cap] W fun x W' => x = .returned (.int .i64 (P l)) ∧ Below W.heap.size W W'
theorem middle_part : PartFn midP 38 := ⟨enters_of Tryd.func38 (by kernel_rfl) rfl, fun l _ _ cap W _ _ h17 _ _ _ => middle_any l _ cap W h17⟩

set_option maxHeartbeats 400000 in
theorem leafOf_any (lo hi wt : Int) (c : UInt8) (w : World) :
    Calls Tryd.prog 76 #[.agg #[.int .i64 lo, .int .i64 hi, .string ⟨#[c]⟩, .int .i64 wt]] w fun x w' => x = .returned (.iface 77 (.int .u8 c.toNat)) ∧ Below w.heap.size w w' := by
  go_enter Tryd.func76, Tryd.ntmps76
  go_wp2
  go_ret
  exact ⟨rfl, (Below.refl _ _).alloc (Nat.le_refl _) _⟩

set_option maxRecDepth 100000 in
set_option maxHeartbeats 1000000 in
theorem treeOf_any (P : List CaseD → Nat) (hP : PartOk P) (pf : FuncId) (hpf : PartFn P pf) : ∀ (f : Nat) (l : List CaseD), 0 < l.length → l.length ≤ f → l.length ≤ 17 → (∀ c ∈ l, okB c = true) → ∀ (b off cap : Nat) (w : World), SegsAt w b off l → l.length ≤ cap → cap ≤ maxLen →
    Calls Tryd.prog 59 #[.slice (some ⟨b, off, none⟩) l.length cap, .func (.func pf) #[] #[]] w fun x w' => (∃ v, x = .returned v ∧ TreeAt w.heap.size w' (partT P f l) v) ∧ Below w.heap.size w w'
  | 0, l, h0, hf => by omega
  | f + 1, l, h0, hf => by
    intro h17 hok b off cap w hS hcap hmax
    by_cases h1 : l.length ≤ 1
    · have hl1 : l.length = 1 := by omega
      have x0 := hS.low 0 (by simp; omega)
      have x1 := hS.high 0 (by simp; omega)
      have x2 := hS.target 0 (by simp; omega)
      have x3 := hS.weight 0 (by simp; omega)
      have hc := (okB_iff _).1 (hok l[0]! (by rw [getElem!_pos l 0 h0]; exact List.getElem_mem _))
      have e0 : l.toArray[0]! = l[0]! := by simp
      rw [e0] at x0 x1 x2 x3
      have htg := tgC_eq hc.2.2.2.2.2
      rw [htg] at x2
      have HE := Lib.hid (show partT P (f + 1) l = .leaf (tgC l[0]!) by rw [partT, if_pos h1])
      obtain ⟨c, hcc⟩ : ∃ c, c = tgC l[0]! := ⟨_, rfl⟩
      rw [← hcc] at x2 HE
      obtain ⟨lo, hlo⟩ : ∃ lo, lo = l[0]!.low := ⟨_, rfl⟩
      obtain ⟨hi, hhi⟩ : ∃ hi, hi = l[0]!.high := ⟨_, rfl⟩
      obtain ⟨wt, hwt⟩ : ∃ wt, wt = l[0]!.weight := ⟨_, rfl⟩
      rw [← hlo] at x0
      rw [← hhi] at x1
      rw [← hwt] at x3
      rw [hl1]
      simp only [Nat.zero_mul, Nat.add_zero] at x0 x1 x2 x3
      clear hS hcc htg hc e0 hok h1 hl1 hlo hhi hwt
      go_enter Tryd.func59, Tryd.ntmps59
      go_wp2_with fail
      refine (leafOf_any lo hi wt c w).mono ?_
      rintro e w1 ⟨rfl, hb1⟩
      have HB1 := Lib.hid hb1
      clear hb1
      go_wp2
      go_ret
      rw [HE.out]
      exact ⟨⟨_, rfl, rfl⟩, HB1.out⟩
    · have HE := Lib.hid (show partT P (f + 1) l = .cmp l[P l]!.low (partT P f (l.take (P l))) (partT P f (l.drop (P l))) by rw [partT, if_neg h1])
      obtain ⟨p1, p2⟩ := hP l (by omega)
      have HPF := Lib.hid (hpf.2 l b off cap w hS (by omega) h17 hok hcap hmax)
      have x0 := hS.low (P l) (by simpa using p2)
      have e0 : l.toArray[P l]! = l[P l]! := by simp
      rw [e0] at x0
      have he := hpf.1
      have CL := Lib.hid (fun W (hW : Below w.heap.size w W) => treeOf_any P hP pf hpf f (l.take (P l)) (by rw [List.length_take]; omega) (by rw [List.length_take]; omega) (by rw [List.length_take]; omega) (fun c hc => hok c (List.mem_of_mem_take hc)) b off cap W (SegsAt.take (hS.below hW) _) (by rw [List.length_take]; omega) hmax)
      have CR := Lib.hid (fun W (hW : Below w.heap.size w W) => treeOf_any P hP pf hpf f (l.drop (P l)) (by rw [List.length_drop]; omega) (by rw [List.length_drop]; omega) (by rw [List.length_drop]; omega) (fun c hc => hok c (List.mem_of_mem_drop hc)) b (off + P l * 4) (cap - P l) W (SegsAt.drop (hS.below hW) _) (by rw [List.length_drop]; omega) (by omega))
      have ht1 : (l.take (P l)).length = P l := by rw [List.length_take]; omega
      have ht2 : (l.drop (P l)).length = l.length - P l := List.length_drop
      rw [ht1] at CL
      rw [ht2] at CR
      obtain ⟨p, hp⟩ : ∃ p, p = P l := ⟨_, rfl⟩
      obtain ⟨n, hn⟩ : ∃ n, n = l.length := ⟨_, rfl⟩
      obtain ⟨lo, hlo⟩ : ∃ lo, lo = l[P l]!.low := ⟨_, rfl⟩
      rw [← hlo] at x0 HE
      rw [← hp] at x0 HE CL CR p1 p2 HPF
      rw [← hn] at HPF CR p2 h1 h17 hcap ⊢
      have HOLD := Lib.hid hS.old
      have hpi : (p : Int) < (n : Int) := by omega
      have hpi1 : (1 : Int) ≤ (p : Int) := by omega
      have hni : (n : Int) ≤ 17 := by omega
      have hcapi : (n : Int) ≤ (cap : Int) := by omega
      have hn1 : ¬ (n : Int) = 1 := by omega
      have hp0 : (0 : Int) ≤ (p : Int) := by omega
      have hpn : (p : Int) ≤ (n : Int) := by omega
      have hpc : (p : Int) ≤ (cap : Int) := by omega
      clear hS hok hp hn hlo hpf h0 hf ht1 ht2
      go_enter Tryd.func59, Tryd.ntmps59
      go_wp2_with fail
      refine HPF.out.mono ?_
      rintro e w1 ⟨rfl, hb1⟩
      have HB1 := Lib.hid hb1
      have HB1d := Lib.hid hb1.drew
      have y1 := (hb1.cell (p := ⟨b, off + p * 4, none⟩) HOLD.out).trans x0
      have hw1 : b < w1.heap.size := Nat.lt_of_lt_of_le HOLD.out hb1.size
      clear hb1 x0
      go_wp2_with fail
      go_region_held3 (fun w' => w'.cell? ⟨b, off + p * 4, none⟩ = some (.int .i64 lo)) (first | exact y1 | exact y2 | exact y3 | go_keep) (first
        | (go_at_call 59; (with_reducible refine (CL.out _ HB1d.out).mono ?_); rintro _ w2 ⟨⟨v1, rfl, t1⟩, b2⟩; obtain ⟨T1, u1, rfl⟩ := t1.iface; have hb2 : Below w1.heap.size w1 w2 := ⟨b2.os, b2.tape, b2.output, b2.size, b2.block⟩; have HB2 := Lib.hid (HB1.out.trans (hb2.mono HB1.out.size)); have HT1 := Lib.hid (show TreeAt w1.heap.size w2 _ _ from t1); have y2 := (hb2.cell (p := ⟨b, off + p * 4, none⟩) hw1).trans y1; have hw2 : b < w2.heap.size := Nat.lt_of_lt_of_le hw1 hb2.size; clear b2 hb2 t1)
        | (go_at_call 59; (with_reducible refine (CR.out _ HB2.out).mono ?_); rintro _ w3 ⟨⟨v2, rfl, t2⟩, b3⟩; obtain ⟨T2, u2, rfl⟩ := t2.iface; have hb3 : Below w2.heap.size w2 w3 := ⟨b3.os, b3.tape, b3.output, b3.size, b3.block⟩; have HB3 := Lib.hid (HB2.out.trans (hb3.mono HB2.out.size)); have HT2 := Lib.hid (show TreeAt w2.heap.size w3 _ _ from t2); have HT3 := Lib.hid (HT1.out.below hb3); have y3 := (hb3.cell (p := ⟨b, off + p * 4, none⟩) hw2).trans y2; clear b3 hb3 t2))
      all_goals
        go_wp2
        go_ret
        rw [HE.out]
        have ga := World.grownBy_alloc w3 (.cells #[.int .i64 lo, .iface T1 u1, .iface T2 u2] 117) none
        have hle1 := HB1.out.size
        have hle2 := HB2.out.size
        have hle3 := HB3.out.size
        exact ⟨⟨_, rfl, _, _, _, rfl, hle3, World.alloc_heap_new _ _, (HT3.out.kept ga (fun q e => by cases e)).base hle1, (HT2.out.kept ga (fun q e => by cases e)).base hle2⟩, HB3.out.alloc hle3 _⟩

theorem segs_row {w : World} {base : Nat} {v : Value} {l : List CaseD} (h : OwnsC base v l w) (h0 : 0 < l.length) : ∃ g cap, v = .slice (some ⟨g, 0, none⟩) l.length cap ∧ SegsAt w g 0 l ∧ l.length ≤ cap ∧ cap ≤ maxLen := by
  obtain ⟨g, cap, rfl, _, hc, hm⟩ := owns_form h (by intro e; rw [e] at h; have := h.2; rcases this with ⟨_, e2⟩ | ⟨_, _, _, e2, _⟩; omega; simp at e2)
  have hlt := (World.ownsRow.lt h g rfl).2
  refine ⟨g, cap, rfl, ⟨hlt, ?_, ?_, ?_, ?_⟩, hc, hm⟩
  all_goals
    intro j hj
    have hj' : j < l.length := by simpa using hj
    have e : l.toArray[j]! = l[j]! := by simp
    rw [e]
  · have := World.ownsRow.cellAt h (j * 4) (by omega)
    rw [Nat.zero_add, this, show j * 4 = j * 4 + 0 from rfl, flatL_get l j 0 (by omega), List.getElem?_eq_getElem hj', getElem!_pos l j hj']
    rfl
  · have := World.ownsRow.cellAt h (j * 4 + 1) (by omega)
    rw [Nat.zero_add, this, flatL_get l j 1 (by omega), List.getElem?_eq_getElem hj', getElem!_pos l j hj']
    rfl
  · have := World.ownsRow.cellAt h (j * 4 + 2) (by omega)
    rw [Nat.zero_add, this, flatL_get l j 2 (by omega), List.getElem?_eq_getElem hj', getElem!_pos l j hj']
    rfl
  · have := World.ownsRow.cellAt h (j * 4 + 3) (by omega)
    rw [Nat.zero_add, this, flatL_get l j 3 (by omega), List.getElem?_eq_getElem hj', getElem!_pos l j hj']
    rfl

/-! the whole tree, as a text -/
noncomputable def partS (P : List CaseD → Nat) (d : Array CaseD) (rest : Int) : ByteArray := if swB d rest = true then textT (partT P 17 (segs d rest)) else ⟨#[]⟩
theorem ret2s {a c : ByteArray} {b e : Bool} (h : a = c) (h2 : b = e) : Ending.returned (.tuple #[.string a, .bool b]) = .returned (.tuple #[.string c, .bool e]) := by rw [h, h2]
set_option maxRecDepth 100000 in
set_option maxHeartbeats 1000000 in
theorem parted_any (P : List CaseD → Nat) (hP : PartOk P) (pf : FuncId) (hpf : PartFn P pf) (b off cap : Nat) (d : Array CaseD) (rest : Int) (w : World) (hR : RowC w b off d) (hE : ErrAt w) (hcap : d.size ≤ cap) (hmax : cap ≤ maxLen) :
    Calls Tryd.prog 37 #[.agg #[.slice (some ⟨b, off, none⟩) d.size cap, .int .i64 rest], .func (.func pf) #[] #[]] w fun x w' => x = .returned (.tuple #[.string (partS P d rest), .bool (swB d rest)]) ∧ RowKit.Below w.heap.size w w' := by
  obtain ⟨wa, hwa⟩ : ∃ wa, wa = w.alloc (.cells #[.slice (some ⟨b, off, none⟩) d.size cap, .int .i64 rest] 35) := ⟨_, rfl⟩
  have c0 : wa.cell? ⟨w.heap.size, 0, none⟩ = some (.slice (some ⟨b, off, none⟩) d.size cap) := by rw [hwa]; simp
  have c1 : wa.cell? ⟨w.heap.size, 1, none⟩ = some (.int .i64 rest) := by rw [hwa]; simp
  have hz : w.heap.size < wa.heap.size := by rw [hwa]; simp
  have hba : RowKit.Below w.heap.size w wa := by rw [hwa]; exact (Below.refl _ _).alloc (Nat.le_refl _) _
  have HS := Lib.hid (implSegs_any b off cap d rest wa (hR.below hba) (hE.below hba) hcap hmax)
  have HA := Lib.hid hba
  have HWA := Lib.hid hwa
  clear hwa hba hR hE
  cases hs : swB d rest
  all_goals
    have HSW := Lib.hid hs
    clear hs
    go_enter Tryd.func37, Tryd.ntmps37
    go_wp2_with fail
    rw [← HWA.out]
    refine HS.out.mono ?_
    rintro x w1 ⟨v, rfl, ho, hb1⟩
  · have HB1 := Lib.hid (HA.out.trans (hb1.mono (by omega)))
    rw [HSW.out]
    clear hb1 ho
    go_wp2
    go_ret2
    exact ⟨ret2s (by rw [partS, if_neg (by rw [HSW.out]; exact Bool.false_ne_true)]) rfl, HB1.out⟩
  · have hok := (swB_iff _ _).1 HSW.out
    rw [segsN_on HSW.out] at ho
    have hpos := segs_pos hok
    have h17 := segs_length hok
    have hsl := segs_segL hok
    obtain ⟨g, cp, rfl, hrow, hc, hm⟩ := segs_row ho hpos
    have HB1 := Lib.hid (HA.out.trans (hb1.mono (by omega)))
    have HT := Lib.hid (treeOf_any P hP pf hpf 17 (segs d rest) hpos h17 h17 (segs_ok hok) g 0 cp w1 hrow hc hm)
    have hgood := partT_good hP 17 true (segs d rest) hsl hpos
    have hcnt := partT_count hP 17 (segs d rest) hpos h17
    have htl := text_count hgood
    have HX := Lib.hid (fun bb ww v h => nodeText_any (partT P 17 (segs d rest)) hgood (by omega) bb ww v h)
    have HP := Lib.hid (show partS P d rest = textT (partT P 17 (segs d rest)) by rw [partS, if_pos HSW.out])
    rw [HSW.out]
    obtain ⟨t, ht⟩ : ∃ t, t = partT P 17 (segs d rest) := ⟨_, rfl⟩
    rw [← ht] at HT HX HP
    obtain ⟨n, hn⟩ : ∃ n, n = (segs d rest).length := ⟨_, rfl⟩
    rw [← hn] at HT hc h17 ⊢
    clear hb1 ho hok hpos hsl hrow hgood hcnt htl ht hn
    go_wp2_with fail
    refine HT.out.mono ?_
    rintro x w2 ⟨⟨v, rfl, tv⟩, hb2⟩
    obtain ⟨T, u, f, rfl, hm1, he1, hcall⟩ := HX.out _ _ _ tv
    have HB2 := Lib.hid (HB1.out.trans (hb2.mono HB1.out.size))
    have HC := Lib.hid (hcall w2 (Below.refl _ _))
    clear hb2 tv hcall
    go_wp2_with fail
    refine HC.out.mono ?_
    rintro x w3 ⟨rfl, hb3⟩
    have HB3 := Lib.hid (HB2.out.trans (hb3.mono HB2.out.size))
    clear hb3
    go_wp2
    go_ret2
    exact ⟨ret2s HP.out.symm rfl, HB3.out⟩

set_option maxHeartbeats 400000 in
theorem implEven_any (b off cap : Nat) (d : Array CaseD) (rest : Int) (w : World) (hR : RowC w b off d) (hE : ErrAt w) (hcap : d.size ≤ cap) (hmax : cap ≤ maxLen) :
    Calls Tryd.prog 16 #[.agg #[.slice (some ⟨b, off, none⟩) d.size cap, .int .i64 rest]] w fun x w' => x = .returned (.tuple #[.string (partS midP d rest), .bool (swB d rest)]) ∧ RowKit.Below w.heap.size w w' := by
  obtain ⟨wa, hwa⟩ : ∃ wa, wa = w.alloc (.cells #[.slice (some ⟨b, off, none⟩) d.size cap, .int .i64 rest] 35) := ⟨_, rfl⟩
  have c0 : wa.cell? ⟨w.heap.size, 0, none⟩ = some (.slice (some ⟨b, off, none⟩) d.size cap) := by rw [hwa]; simp
  have c1 : wa.cell? ⟨w.heap.size, 1, none⟩ = some (.int .i64 rest) := by rw [hwa]; simp
  have hba : RowKit.Below w.heap.size w wa := by rw [hwa]; exact (Below.refl _ _).alloc (Nat.le_refl _) _
  have HC := Lib.hid (parted_any midP midP_ok 38 middle_part b off cap d rest wa (hR.below hba) (hE.below hba) hcap hmax)
  have HA := Lib.hid hba
  have HWA := Lib.hid hwa
  obtain ⟨q, hq⟩ : ∃ q, q = partS midP d rest := ⟨_, rfl⟩
  obtain ⟨sw, hsw⟩ : ∃ sw, sw = swB d rest := ⟨_, rfl⟩
  rw [← hq, ← hsw] at HC ⊢
  clear hq hsw hwa hba hR hE
  go_enter Tryd.func16, Tryd.ntmps16
  go_wp2_with fail
  rw [← HWA.out]
  refine HC.out.mono ?_
  rintro x w1 ⟨rfl, hb⟩
  have HB := Lib.hid (HA.out.trans (hb.mono HA.out.size))
  clear hb
  go_wp2
  go_ret2
  exact ⟨rfl, HB.out⟩
end Go.Proofs.YtndnbeijmhcepaaDoor
