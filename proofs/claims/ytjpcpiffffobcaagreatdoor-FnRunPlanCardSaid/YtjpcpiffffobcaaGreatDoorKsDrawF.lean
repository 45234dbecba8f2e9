
/- The ten known switches. · Draws of switches: l1Known. · Draws of switches: l1Good. · Draws of switches: l1Some. · Draws: a switch and a key. -/
import Derived.Test.YtjpcpiffffobcaaGreatDoorKsParse
import Derived.Test.YtjpcpiffffobcaaGreatDoorKsDrawB
import Derived.Test.YtjpcpiffffobcaaGreatDoorKsSteps
namespace Go.Proofs.YtjpcpiffffobcaaGreatDoor
open Go.RowKit Go.Shelf Go.Lib Go.Sort

def itoa2 (n : Int) : ByteArray := if n ≤ 9 then ⟨#[UInt8.ofNat (48 + n).toNat]⟩ else ⟨#[UInt8.ofNat (48 + n / 10).toNat, UInt8.ofNat (48 + n % 10).toNat]⟩
theorem itoa2_eq {n : Int} (h0 : 0 ≤ n) (h1 : n ≤ 99) : itoaS n = itoa2 n := by
  unfold itoa2
  split
  · exact itoaS_one h0 (by omega)
  · exact itoaS_two (by omega) h1
def range2 (lo hi : Int) : ByteArray := if lo = hi then itoa2 lo else (itoa2 lo ++ dashS) ++ itoa2 hi
def text2 (c : CaseD) : ByteArray := (range2 c.low c.high ++ c.target) ++ itoa2 c.weight
def fmt2 (d : Array CaseD) : Nat → ByteArray
  | 0 => ⟨#[]⟩
  | 1 => text2 d[0]!
  | k + 2 => (fmt2 d (k + 1) ++ commaS) ++ text2 d[k + 1]!
def nextB (d : Array CaseD) : Bool := (List.range (d.size - 1)).all fun i => decide (d[i]!.high < d[i + 1]!.low)
def allB (d : Array CaseD) : Bool := (List.range d.size).all fun i => caseB d[i]!
theorem text2_eq {c : CaseD} (h : caseB c = true) : textS c = text2 c := by
  simp only [caseB, keyB, wgtB, Bool.and_eq_true, decide_eq_true_eq] at h
  unfold textS text2 rangeS range2
  rw [itoa2_eq (n := c.low) (by omega) (by omega), itoa2_eq (n := c.high) (by omega) (by omega), itoa2_eq (n := c.weight) (by omega) (by omega)]
theorem known_of (s : ByteArray) (d : Array CaseD) (rest : Int) (h1 : d.size ≤ 8) (h2 : wgtB rest = true) (h3 : allB d = true) (h4 : nextB d = true) (h5 : (fmt2 d d.size ++ semiS) ++ itoa2 rest = s) : ParsesTo s d rest := by
  have hc : ∀ j, j < d.size → caseB d[j]! = true := fun j hj => List.all_eq_true.1 h3 j (List.mem_range.2 hj)
  have hs : SwOK d rest := ⟨h1, h2, hc, fun i hi => of_decide_eq_true (List.all_eq_true.1 h4 i (List.mem_range.2 (by omega)))⟩
  have hf : ∀ n, n ≤ d.size → fmtTo d n = fmt2 d n := by
    intro n
    induction n using fmt2.induct with
    | case1 => intro _; rfl
    | case2 => intro hn; exact text2_eq (hc 0 (by omega))
    | case3 k ih =>
      intro hn
      show (fmtTo d (k + 1) ++ commaS) ++ textS d[k + 1]! = (fmt2 d (k + 1) ++ commaS) ++ text2 d[k + 1]!
      rw [ih (by omega), text2_eq (hc (k + 1) (by omega))]
  refine ⟨hs, ?_⟩
  simp only [wgtB, decide_eq_true_eq] at h2
  rw [fmtN_on hs, hf _ (Nat.le_refl _), itoa2_eq (by omega) (by omega)]
  exact h5

def knownT : Nat → ByteArray
  | 0 => ⟨#[48, 97, 49, 44, 49, 98, 49, 44, 50, 99, 49, 44, 51, 100, 49, 59, 49]⟩
  | 1 => ⟨#[48, 45, 57, 97, 53, 44, 50, 48, 98, 51, 48, 44, 50, 53, 45, 51, 49, 99, 50, 59, 51]⟩
  | 2 => ⟨#[49, 97, 49, 44, 51, 97, 49, 44, 53, 97, 49, 44, 55, 97, 49, 44, 57, 98, 49, 59, 50]⟩
  | 3 => ⟨#[48, 45, 51, 49, 97, 49, 59, 48]⟩
  | 4 => ⟨#[59, 52]⟩
  | 5 => ⟨#[48, 97, 57, 44, 49, 48, 98, 56, 44, 50, 48, 99, 55, 44, 51, 48, 100, 54, 59, 53]⟩
  | 6 => ⟨#[52, 97, 49, 44, 53, 97, 50, 44, 54, 98, 51, 44, 55, 98, 49, 44, 49, 50, 99, 52, 59, 48]⟩
  | 7 => ⟨#[48, 45, 49, 53, 97, 49, 44, 49, 54, 45, 51, 49, 98, 49, 59, 48]⟩
  | 8 => ⟨#[51, 97, 49, 48, 44, 49, 55, 98, 49, 44, 50, 57, 97, 49, 48, 59, 57]⟩
  | _ => ⟨#[50, 97, 49, 44, 51, 98, 49, 44, 52, 97, 49, 44, 53, 98, 49, 44, 54, 97, 49, 44, 50, 48, 99, 49, 44, 50, 56, 100, 49, 44, 51, 48, 100, 49, 59, 49]⟩
theorem known_9 : ∃ d rest, ParsesTo (knownT 9) d rest := ⟨#[⟨2, 2, ⟨#[97]⟩, 1⟩, ⟨3, 3, ⟨#[98]⟩, 1⟩, ⟨4, 4, ⟨#[97]⟩, 1⟩, ⟨5, 5, ⟨#[98]⟩, 1⟩, ⟨6, 6, ⟨#[97]⟩, 1⟩, ⟨20, 20, ⟨#[99]⟩, 1⟩, ⟨28, 28, ⟨#[100]⟩, 1⟩, ⟨30, 30, ⟨#[100]⟩, 1⟩], 1, known_of _ _ _ (by decide) (by decide) (by decide) (by decide) (by decide)⟩
theorem known_ex : ∀ k, ∃ d rest, ParsesTo (knownT k) d rest
  | 0 => ⟨#[⟨0, 0, ⟨#[97]⟩, 1⟩, ⟨1, 1, ⟨#[98]⟩, 1⟩, ⟨2, 2, ⟨#[99]⟩, 1⟩, ⟨3, 3, ⟨#[100]⟩, 1⟩], 1, known_of _ _ _ (by decide) (by decide) (by decide) (by decide) (by decide)⟩
  | 1 => ⟨#[⟨0, 9, ⟨#[97]⟩, 5⟩, ⟨20, 20, ⟨#[98]⟩, 30⟩, ⟨25, 31, ⟨#[99]⟩, 2⟩], 3, known_of _ _ _ (by decide) (by decide) (by decide) (by decide) (by decide)⟩
  | 2 => ⟨#[⟨1, 1, ⟨#[97]⟩, 1⟩, ⟨3, 3, ⟨#[97]⟩, 1⟩, ⟨5, 5, ⟨#[97]⟩, 1⟩, ⟨7, 7, ⟨#[97]⟩, 1⟩, ⟨9, 9, ⟨#[98]⟩, 1⟩], 2, known_of _ _ _ (by decide) (by decide) (by decide) (by decide) (by decide)⟩
  | 3 => ⟨#[⟨0, 31, ⟨#[97]⟩, 1⟩], 0, known_of _ _ _ (by decide) (by decide) (by decide) (by decide) (by decide)⟩
  | 4 => ⟨#[], 4, known_of _ _ _ (by decide) (by decide) (by decide) (by decide) (by decide)⟩
  | 5 => ⟨#[⟨0, 0, ⟨#[97]⟩, 9⟩, ⟨10, 10, ⟨#[98]⟩, 8⟩, ⟨20, 20, ⟨#[99]⟩, 7⟩, ⟨30, 30, ⟨#[100]⟩, 6⟩], 5, known_of _ _ _ (by decide) (by decide) (by decide) (by decide) (by decide)⟩
  | 6 => ⟨#[⟨4, 4, ⟨#[97]⟩, 1⟩, ⟨5, 5, ⟨#[97]⟩, 2⟩, ⟨6, 6, ⟨#[98]⟩, 3⟩, ⟨7, 7, ⟨#[98]⟩, 1⟩, ⟨12, 12, ⟨#[99]⟩, 4⟩], 0, known_of _ _ _ (by decide) (by decide) (by decide) (by decide) (by decide)⟩
  | 7 => ⟨#[⟨0, 15, ⟨#[97]⟩, 1⟩, ⟨16, 31, ⟨#[98]⟩, 1⟩], 0, known_of _ _ _ (by decide) (by decide) (by decide) (by decide) (by decide)⟩
  | 8 => ⟨#[⟨3, 3, ⟨#[97]⟩, 10⟩, ⟨17, 17, ⟨#[98]⟩, 1⟩, ⟨29, 29, ⟨#[97]⟩, 10⟩], 9, known_of _ _ _ (by decide) (by decide) (by decide) (by decide) (by decide)⟩
  | _ + 9 => known_9
theorem knownT_size (k : Nat) : (knownT k).size ≤ 100 := by
  unfold knownT
  split <;> decide
end Go.Proofs.YtjpcpiffffobcaaGreatDoor

namespace Go.Proofs.YtjpcpiffffobcaaGreatDoor
open Go.RowKit Go.Shelf Go.Lib Go.Sort

/-- A switch that a call has made. -/
def MadeSw (base : Nat) (D : Array CaseD) (rest : Int) (x : Ending) (w' : World) : Prop := ∃ v, x = .returned (.agg #[v, .int .i64 rest]) ∧ OwnsC base v D.toList w' ∧ v ≠ .slice none 0 0

/-- A switch put into its box, whole. -/
theorem put_sw {W : World} {B base : Nat} {v u : Value} {r : Int} {l : List CaseD} (hB : BoxS W B v r) (hO : OwnsC base u l W) (z : Int) :
    BoxS ((W.setCell ⟨B, 0, none⟩ u).setCell ⟨B, 1, none⟩ (.int .i64 z)) B u z ∧ OwnsC base u l ((W.setCell ⟨B, 0, none⟩ u).setCell ⟨B, 1, none⟩ (.int .i64 z)) ∧ W.grownBy ((W.setCell ⟨B, 0, none⟩ u).setCell ⟨B, 1, none⟩ (.int .i64 z)) (some B) := by
  have g1 := grown_set W B 0 u
  have g2 := grown_set (W.setCell ⟨B, 0, none⟩ u) B 1 (.int .i64 z)
  have hn := hB.not_row hO
  exact ⟨(hB.set u).set1 z, World.ownsRow.kept (World.ownsRow.kept hO g1 (.inr hn)) g2 (.inr hn), g1.trans g2⟩

set_option maxRecDepth 100000 in
set_option maxHeartbeats 2000000 in
theorem known_any (k : Nat) (hk : k < 10) (w : World) : Calls Tryz.prog 99 #[.int .i64 k] w fun x w' => ∃ D rest, SwOK D rest ∧ MadeSw w.heap.size D rest x w' ∧ RowKit.Below w.heap.size w w' := by
  have HP := Lib.hid (fun W => specParse_any (knownT k) (Nat.le_trans (knownT_size k) (by decide)) W)
  have HE := Lib.hid (known_ex k)
  obtain ⟨wa, hwa⟩ : ∃ wa, wa = w.alloc (.cells #[.slice none 0 0, .int .i64 0] 32) := ⟨_, rfl⟩
  have hRX : BoxS wa w.heap.size (.slice none 0 0) 0 := by rw [hwa]; exact BoxS.new _ _ _
  have HBA := Lib.hid (show RowKit.Below w.heap.size w wa by rw [hwa]; exact (Below.refl _ _).alloc (Nat.le_refl _) _)
  have hz : w.heap.size < wa.heap.size := by rw [hwa]; simp
  have HRX := Lib.hid hRX
  have HWA := Lib.hid hwa
  clear hwa hRX
  have hk2 : k = 0 ∨ k = 1 ∨ k = 2 ∨ k = 3 ∨ k = 4 ∨ k = 5 ∨ k = 6 ∨ k = 7 ∨ k = 8 ∨ k = 9 := by omega
  clear hk
  rcases hk2 with rfl | rfl | rfl | rfl | rfl | rfl | rfl | rfl | rfl | rfl
  all_goals
    go_enter Tryz.func99, Tryz.ntmps99
    go_wp2_with fail
    rw [← HWA.out]
    refine (HP.out _).mono ?_
    generalize hwb : wa.alloc (.cells _ 9) = wb
    have HBB := Lib.hid (show RowKit.Below wa.heap.size wa wb by rw [← hwb]; exact (Below.refl _ _).alloc (Nat.le_refl _) _)
    have hzb : wa.heap.size < wb.heap.size := by rw [← hwb]; simp
    clear hwb
    rintro x w1 (⟨D, r, v, hp, rfl, ho, hv, hb⟩ | ⟨hno, _⟩)
    · obtain ⟨gd, cd, rfl, hgd, hcd, hmd⟩ := owns_form ho hv
      have hDl : D.toList.length = D.size := Array.length_toList
      rw [hDl] at ho hv
      have HO := Lib.hid ho
      have HS := Lib.hid hp.1
      have HV := Lib.hid hv
      have HB := Lib.hid ((HBA.out.trans (HBB.out.mono (Nat.le_of_lt hz))).trans (hb.mono (by omega)))
      have hzw := hb.size
      have RX1 := (HRX.out.kept (grown_of_below HBB.out) (by simp)).kept (grown_of_below hb) (by simp)
      have d0 := RX1.c0
      have d1 := RX1.c1
      have d2 := RX1.z 0
      have d3 := RX1.z 1
      have hlt := RX1.lt
      obtain ⟨RX3, O3, G3⟩ := put_sw RX1 ho r
      have HR4 := Lib.hid (RX3.kept (row := none) (World.grownBy_alloc _ (.cells #[.slice (some ⟨gd, 0, none⟩) D.size cd, .int .i64 r] 32) none) (by simp))
      have HO4 := Lib.hid O3
      have hg' : w.heap.size ≤ wb.heap.size := by omega
      clear ho hb hp hv hDl O3 G3 RX3 RX1 hgd hcd hmd
      go_wp2_with fail
      refine bodyPost_ret (v := .agg #[.slice (some ⟨gd, 0, none⟩) D.size cd, .int .i64 r]) (by simp [results, Tryz.results99, go_sem, HR4.out.c0, HR4.out.c1]) rfl ⟨D, r, HS.out, ⟨_, rfl, owns_base (World.ownsRow.alloc HO4.out _) hg', HV.out⟩, ((HB.out.setCell (p := ⟨w.heap.size, 0, none⟩) (Nat.le_refl _) _).setCell (p := ⟨w.heap.size, 1, none⟩) (Nat.le_refl _) _).alloc (by simp [World.setCell]; omega) _⟩
    · exfalso
      obtain ⟨d, r, h⟩ := HE.out
      exact hno d r h
end Go.Proofs.YtjpcpiffffobcaaGreatDoor

namespace Go.Proofs.YtjpcpiffffobcaaGreatDoor
open Go.RowKit Go.Shelf Go.Lib Go.Sort

/-- A switch of few cases with short targets, valid or not. -/
def SmallSw (D : Array CaseD) (n : Nat) : Prop := D.size ≤ n ∧ ∀ j, j < D.size → D[j]!.target.size ≤ 2
theorem SmallSw.ok {D : Array CaseD} {rest : Int} (h : SwOK D rest) : SmallSw D 8 := ⟨h.size, fun j hj => by
  have := h.case j hj
  simp [caseB, oneB] at this
  omega⟩
theorem SmallSw.push {D : Array CaseD} {n : Nat} (h : SmallSw D n) (c : CaseD) (hc : c.target.size ≤ 2) : SmallSw (D.push c) (n + 1) := ⟨by have := h.1; simp; omega, fun j hj => by
  rw [Array.size_push] at hj
  by_cases e : j = D.size
  · subst e; simpa using hc
  · have hj' : j < D.size := by omega
    have := h.2 j hj'
    rw [getElem!_pos D j hj'] at this
    simpa [Array.getElem_push, hj', Nat.lt_succ_of_lt hj'] using this⟩
theorem SmallSw.mono {D : Array CaseD} {n m : Nat} (h : SmallSw D n) (hm : n ≤ m) : SmallSw D m := ⟨Nat.le_trans h.1 hm, h.2⟩
theorem RdAt.le {w : World} {g p p' : Nat} (h : RdAt w g p) (hp : p ≤ p') : RdAt w g p' := by
  obtain ⟨a, b, v, m, q, c, d, e⟩ := h
  exact ⟨a, b, v, m, q, c, by omega, e⟩
theorem RdAt.kept {w w' : World} {g p : Nat} {row : Option Nat} (h : RdAt w g p) (hG : w.grownBy w' row) (hr : ∀ r, row = some r → g < r) : RdAt w' g p := by
  obtain ⟨hgl, hf, v, m, q, hm, hq, hv, hp2, hb2⟩ := h
  have hs := hG.size
  have hne : ∀ b, b ≤ g → some b ≠ row := fun b hb e => by have := hr b e.symm; omega
  have e := hG.block g hgl (hne g (Nat.le_refl _))
  refine ⟨by omega, ?_, v, m, q, hm, hq, (hG.cell_far _ (by exact hgl) (hne g (Nat.le_refl _))).trans hv, (hG.cell_far _ (by exact hgl) (hne g (Nat.le_refl _))).trans hp2, ?_⟩
  · rw [← hf]
    unfold World.frozen?
    simp only [e]
  · rcases hb2 with h1 | ⟨b, off, cap, h1, h2, h3, h4⟩
    · exact .inl h1
    · refine .inr ⟨b, off, cap, h1, h2, h3, fun j hj => ?_⟩
      obtain ⟨y, h5, h6⟩ := h4 j hj
      exact ⟨y, h5, (hG.cell_far _ (by show b < _; omega) (hne b (by omega))).trans h6⟩

/-- A switch has been drawn. -/
def DrewSw (g p n : Nat) (w : World) (x : Ending) (w' : World) : Prop := ∃ D rest, SmallSw D n ∧ MadeSw w.heap.size D rest x w' ∧ RdAt w' g p ∧ w.grownBy w' (some g)
theorem DrewSw.mk {g p n : Nat} {w : World} {x : Ending} {w' : World} (D : Array CaseD) (rest : Int) (h1 : SmallSw D n) (h2 : MadeSw w.heap.size D rest x w') (h3 : RdAt w' g p) (h4 : w.grownBy w' (some g)) : DrewSw g p n w x w' := ⟨D, rest, h1, h2, h3, h4⟩

set_option maxRecDepth 100000 in
set_option maxHeartbeats 4000000 in
theorem good_any (g p : Nat) (w : World) (h : RdAt w g p) (hp : p ≤ 50000) :
    Calls Tryz.prog 79 #[.pointer (some ⟨g, 0, none⟩)] w (DrewSw g (p + 60) 8 w) := by
  obtain ⟨i0, hi, hi0, hi1, hi2⟩ := info_parts infoC
  obtain ⟨wa, hwa⟩ : ∃ wa, wa = w.alloc (.cells #[.slice none 0 0, .int .i64 0] 32) := ⟨_, rfl⟩
  have HRX := Lib.hid (show BoxS wa w.heap.size (.slice none 0 0) 0 by rw [hwa]; exact BoxS.new _ _ _)
  have HGA := Lib.hid (show w.grownBy wa (some g) by rw [hwa]; exact World.grownBy_alloc _ _ _)
  have HRA := Lib.hid (show RdAt wa g p by rw [hwa]; exact h.alloc _)
  have hz : w.heap.size < wa.heap.size := by rw [hwa]; simp
  have HWA := Lib.hid hwa
  have hgw : g < w.heap.size := h.1
  have HK := Lib.hid (fun n q W (hW : RdAt W g q) (hq : q ≤ 100000) (hn : n ≤ 100000) => pickR_any g n q W hW hq hn)
  clear hwa h
  go_enter Tryz.func79, Tryz.ntmps79
  go_wp2_with fail
  rw [← HWA.out]
  refine (HK.out 3 p _ HRA.out (by omega) (by omega)).mono ?_
  rintro x w1 ⟨q0, rfl, _, hR1, hG1⟩
  have HR1 := Lib.hid hR1
  have HG1 := Lib.hid (grownBy_trans HGA.out hG1)
  have RX1 := Lib.hid (HRX.out.kept hG1 (by simp; omega))
  have hz1 := hG1.size
  clear hR1 hG1
  by_cases h0 : q0 = 0
  · subst h0
    go_wp2_with fail
    refine (HK.out 10 (p + 1) _ HR1.out (by omega) (by omega)).mono ?_
    rintro x w2 ⟨q1, rfl, hq1, hR2, hG2⟩
    have HR2 := Lib.hid hR2
    have HG2 := Lib.hid (grownBy_trans HG1.out hG2)
    have RX2 := Lib.hid (RX1.out.kept hG2 (by simp; omega))
    have hz2 := hG2.size
    have HKN := Lib.hid (known_any q1 (hq1 (by omega)) w2)
    clear hR2 hG2 hq1
    go_wp2_with fail
    refine HKN.out.mono ?_
    rintro x w3 ⟨D, r, hs, ⟨v, rfl, ho, hv⟩, hb⟩
    obtain ⟨gd, cd, rfl, hgd, hcd, hmd⟩ := owns_form ho hv
    have hDl : D.toList.length = D.size := Array.length_toList
    rw [hDl] at ho hv
    have HS := Lib.hid (SmallSw.ok hs)
    have HV := Lib.hid hv
    have RX3 := RX2.out.kept (grown_of_below hb) (by simp)
    have HR3 := Lib.hid (HR2.out.kept (grown_of_below hb) (by simp))
    have HG3 := Lib.hid (grownBy_trans HG2.out (show w2.grownBy w3 (some g) from ⟨hb.os, hb.tape, hb.output, hb.size, fun k hk _ => hb.block k hk⟩))
    have d0 := RX3.c0
    have d1 := RX3.c1
    have d2 := RX3.z 0
    have d3 := RX3.z 1
    have hlt := RX3.lt
    obtain ⟨RX4, O4, G4⟩ := put_sw RX3 ho r
    have HR4 := Lib.hid RX4
    have HO4 := Lib.hid O4
    have HRD := Lib.hid (HR3.out.kept G4 (fun q e => by cases e; omega))
    have HGD := Lib.hid (fun k hk hne => (G4.block k hk hne))
    have HG4 := Lib.hid G4
    have hg' : w.heap.size ≤ w2.heap.size := by omega
    clear ho hb hv hs O4 G4 RX4 RX3 hgd hcd hmd hDl
    go_wp2_with fail
    refine bodyPost_ret (v := .agg #[.slice (some ⟨gd, 0, none⟩) D.size cd, .int .i64 r]) (by simp [results, Tryz.results79, go_sem, HR4.out.c0, HR4.out.c1]) rfl (DrewSw.mk D r HS.out ⟨_, rfl, owns_base HO4.out hg', HV.out⟩ (HRD.out.le (by omega)) ?_)
    have hG3 := HG3.out
    have hG4 := HG4.out
    exact ⟨hG4.os.trans hG3.os, hG4.tape.trans hG3.tape, hG4.output.trans hG3.output, Nat.le_trans hG3.size hG4.size, fun k hk hne => (hG4.block k (Nat.lt_of_lt_of_le hk hG3.size) (by simp; omega)).trans (hG3.block k hk hne)⟩
  · have hb0 : ((q0 : Int) == 0) = false := by simp; omega
    go_wp2_with fail
    obtain ⟨w2, hw2⟩ : ∃ w2, w2 = w1.alloc (.cells #[] 67) := ⟨_, rfl⟩
    have HOW := Lib.hid (show OwnsC w1.heap.size (.slice (some ⟨w1.heap.size, 0, none⟩) 0 0) [] w2 by
      have := World.ownsRow_made (base := w1.heap.size) (e := 67) (size := 4) w1 #[] 0 (Nat.le_refl _) (by unfold maxLen; omega) rfl
      rw [hw2]
      exact this)
    have HR2 := Lib.hid (show RdAt w2 g (p + 1) by rw [hw2]; exact HR1.out.alloc _)
    have HG2 := Lib.hid (show w.grownBy w2 (some g) by rw [hw2]; exact grownBy_trans HG1.out (World.grownBy_alloc _ _ _))
    have RX2 := Lib.hid (show BoxS w2 w.heap.size (.slice none 0 0) 0 by rw [hw2]; exact RX1.out.kept (row := none) (World.grownBy_alloc _ _ _) (by simp))
    have hz2 : w1.heap.size < w2.heap.size := by rw [hw2]; simp
    rw [← hw2]
    clear hw2
    refine (HK.out 100 (p + 1) _ HR2.out (by omega) (by omega)).mono ?_
    rintro x w3 ⟨q1, rfl, _, hR3, hG3⟩
    have HR3 := Lib.hid hR3
    have HG3 := Lib.hid (grownBy_trans HG2.out hG3)
    have RX3 := Lib.hid (RX2.out.kept hG3 (by simp; omega))
    have HO3 := Lib.hid (show OwnsC w1.heap.size (.slice (some ⟨w1.heap.size, 0, none⟩) 0 0) [] w3 from World.ownsRow.kept HOW.out hG3 (.inr (by simp [Value.ownBlock]; omega)))
    have hz3 := hG3.size
    clear hR3 hG3
    go_wp2_with fail
    refine (numLit_any g (p + 2) [1, 0, 3, 20, (q1 : Int)] _ HR3.out (by omega) (by simp) (by simp)).mono ?_
    rintro x w4 ⟨z, _, rfl, hR4, hG4⟩
    have HR4 := Lib.hid hR4
    have HG4 := Lib.hid (grownBy_trans HG3.out hG4)
    have RX4 := Lib.hid (RX3.out.kept hG4 (by simp; omega))
    have HO4 := Lib.hid (show OwnsC w1.heap.size (.slice (some ⟨w1.heap.size, 0, none⟩) 0 0) [] w4 from World.ownsRow.kept HO3.out hG4 (.inr (by simp [Value.ownBlock]; omega)))
    have hz4 := hG4.size
    clear hR4 hG4
    obtain ⟨wb, hwb⟩ : ∃ wb, wb = w4.alloc (.cells #[.slice (some ⟨w1.heap.size, 0, none⟩) 0 0, .int .i64 z] 32) := ⟨_, rfl⟩
    have HBX := Lib.hid (show BoxS wb w4.heap.size (.slice (some ⟨w1.heap.size, 0, none⟩) 0 0) z by rw [hwb]; exact BoxS.new _ _ _)
    have HRB := Lib.hid (show RdAt wb g (p + 3) by rw [hwb]; exact HR4.out.alloc _)
    have HGB := Lib.hid (show w.grownBy wb (some g) by rw [hwb]; exact grownBy_trans HG4.out (World.grownBy_alloc _ _ _))
    have RXB := Lib.hid (show BoxS wb w.heap.size (.slice none 0 0) 0 by rw [hwb]; exact RX4.out.kept (row := none) (World.grownBy_alloc _ _ _) (by simp))
    have HOB := Lib.hid (show OwnsC w1.heap.size (.slice (some ⟨w1.heap.size, 0, none⟩) 0 0) [] wb by rw [hwb]; exact World.ownsRow.alloc (xs := []) HO4.out _)
    have hzb : w4.heap.size < wb.heap.size := by rw [hwb]; simp
    have HWB := Lib.hid hwb
    clear hwb
    go_wp2_with fail
    rw [← HWB.out]
    refine (HK.out 4 (p + 3) _ HRB.out (by omega) (by omega)).mono ?_
    rintro x w5 ⟨q2, rfl, hq2, hR5, hG5⟩
    have hq2' := hq2 (by omega)
    have HR5 := Lib.hid hR5
    have HG5 := Lib.hid (grownBy_trans HGB.out hG5)
    have RX5 := Lib.hid (RXB.out.kept hG5 (by simp; omega))
    have HB5 := Lib.hid (HBX.out.kept hG5 (by simp; omega))
    have HO5 := Lib.hid (show OwnsC w1.heap.size (.slice (some ⟨w1.heap.size, 0, none⟩) 0 0) [] w5 from World.ownsRow.kept HOB.out hG5 (.inr (by simp [Value.ownBlock]; omega)))
    have hz5 := hG5.size
    clear hR5 hG5 hq2
    go_wp2_with fail
    refine (numLit_any g (p + 4) [3, 4, 5, 2, 6, 1, 8, 0] _ HR5.out (by omega) (by simp) (by simp)).mono ?_
    rintro x w6 ⟨n, hn, rfl, hR6, hG6⟩
    have hn0 : 0 ≤ n ∧ n ≤ 8 := by simp at hn; omega
    obtain ⟨N, rfl⟩ : ∃ N : Nat, n = N := ⟨n.toNat, by omega⟩
    have HR6 := Lib.hid hR6
    have HG6 := Lib.hid (grownBy_trans HG5.out hG6)
    have RX6 := Lib.hid (RX5.out.kept hG6 (by simp; omega))
    have HB6 := Lib.hid (HB5.out.kept hG6 (by simp; omega))
    have HO6 := Lib.hid (show OwnsC w1.heap.size (.slice (some ⟨w1.heap.size, 0, none⟩) 0 0) [] w6 from World.ownsRow.kept HO5.out hG6 (.inr (by simp [Value.ownBlock]; omega)))
    have hz6 := hG6.size
    have hN : N ≤ 8 := by omega
    clear hR6 hG6 hn hn0
    go_wp2_with fail
    go_loopw [4, 24] (fun at' i wr => ∃ (k a : Nat) (D : Array CaseD) (v : Value), i = .int .i64 k ∧ at' = .int .i64 a ∧ k ≤ N ∧ a ≤ 40 ∧ Hid (BoxS wr w4.heap.size v z) ∧ Hid (OwnsC w1.heap.size v D.toList wr) ∧ Hid (SmallSw D k) ∧ Hid (v ≠ .slice none 0 0) ∧ Hid (RdAt wr g (p + 5 + 5 * k)) ∧ Hid (w.grownBy wr (some g)) ∧ Hid (BoxS wr w.heap.size (.slice none 0 0) 0) ∧ w6.heap.size ≤ wr.heap.size) (fun _ i _ => N + 2 - (intOf i).toNat)
    case atStart => exact ⟨0, q2, #[], _, rfl, rfl, Nat.zero_le _, by omega, HB6.out, HO6.out, Lib.hid ⟨Nat.le_refl _, fun j hj => absurd hj (Nat.not_lt_zero j)⟩, Lib.hid (by simp), HR6.out, HG6.out, RX6.out, Nat.le_refl _⟩
    case round =>
      obtain ⟨k, a, D, v, rfl, rfl, hk, ha, HBk, HOk, HSk, HVk, HRk, HGk, RXk, hwz⟩ := hrel
      by_cases hlt : k < N
      · have hki : (k : Int) < (N : Int) := by omega
        go_wp2_with fail
        refine (numLit_any g (p + 5 + 5 * k) [0, 0, 1, 3, 0, 2] _ HRk.out (by omega) (by simp) (by simp)).mono ?_
        rintro x w7 ⟨zz, hzz, rfl, hR7, hG7⟩
        have hzr : 0 ≤ zz ∧ zz ≤ 3 := by simp at hzz; omega
        obtain ⟨Z, rfl⟩ : ∃ Z : Nat, zz = Z := ⟨zz.toNat, by omega⟩
        have hZ : Z ≤ 3 := by omega
        have HR7 := Lib.hid hR7
        have HG7 := Lib.hid (grownBy_trans HGk.out hG7)
        have RX7 := Lib.hid (RXk.out.kept hG7 (by simp; omega))
        have HB7 := Lib.hid (HBk.out.kept hG7 (by simp; omega))
        have HO7 := Lib.hid (show OwnsC w1.heap.size v D.toList w7 from World.ownsRow.kept HOk.out hG7 (.inr (fun e => by have := (World.ownsRow.lt HOk.out g e).1; omega)))
        have hz7 := hG7.size
        clear hzz hzr hR7 hG7 HBk HOk HRk HGk RXk
        by_cases hhi : 31 < a + Z
        · have hhi' : (31 : Int) < (a : Int) + (Z : Int) := by omega
          obtain ⟨gd, cd, rfl, hgd, hcd, hmd⟩ := owns_form HO7.out HVk.out
          have hDl : D.toList.length = D.size := Array.length_toList
          rw [hDl] at HB7 HO7 HVk
          have b0 := HB7.out.c0
          have b1 := HB7.out.c1
          have c0 := RX7.out.c0
          have c1 := RX7.out.c1
          have c2 := RX7.out.z 0
          have c3 := RX7.out.z 1
          have hbl := HB7.out.lt
          have hcl := RX7.out.lt
          obtain ⟨RZ, OZ, GZ⟩ := put_sw RX7.out HO7.out z
          have HRZ := Lib.hid RZ
          have HOZ := Lib.hid OZ
          have HGZ := Lib.hid GZ
          clear RZ OZ GZ hgd hcd hmd hDl
          go_wp2_with fail
          refine bodyPost_ret (v := .agg #[.slice (some ⟨gd, 0, none⟩) D.size cd, .int .i64 z]) (by simp [results, Tryz.results79, go_sem, HRZ.out.c0, HRZ.out.c1]) rfl (DrewSw.mk D z (HSk.out.mono (by omega)) ⟨_, rfl, owns_base HOZ.out (by omega), HVk.out⟩ ((HR7.out.kept HGZ.out (fun q e => by cases e; omega)).le (by omega)) ?_)
          have hG3 := HG7.out
          have hG4 := HGZ.out
          exact ⟨hG4.os.trans hG3.os, hG4.tape.trans hG3.tape, hG4.output.trans hG3.output, Nat.le_trans hG3.size hG4.size, fun q hq hne => (hG4.block q (Nat.lt_of_lt_of_le hq hG3.size) (by simp; omega)).trans (hG3.block q hq hne)⟩
        · have hhi' : ¬ (31 : Int) < (a : Int) + (Z : Int) := by omega
          obtain ⟨av, cv, rfl⟩ := row_slice HO7.out
          go_upto_region 9 with fail
          go_cut [] (fun wx => Hid (∃ (c : CaseD) (v' : Value), c.target.size ≤ 2 ∧ BoxS wx w4.heap.size v' z ∧ OwnsC w1.heap.size v' (D.push c).toList wx ∧ v' ≠ .slice none 0 0 ∧ RdAt wx g (p + 5 + 5 * k + 4) ∧ w.grownBy wx (some g) ∧ BoxS wx w.heap.size (.slice none 0 0) 0 ∧ w6.heap.size ≤ wx.heap.size))
          case first =>
            have y0 := HB7.out.c0
            have y2 := HB7.out.z 0
            have hy := HB7.out.lt
            have HR7d := Lib.hid HR7.out.drew
            have HOF := Lib.hid (ofLit_any g (p + 5 + 5 * k + 1) [⟨#[97]⟩, ⟨#[98]⟩, ⟨#[99]⟩, ⟨#[97]⟩, ⟨#[100]⟩, ⟨#[98]⟩] w7.drew HR7d.out (by omega) (by simp) (by simp))
            have hDl : D.toList.length = D.size := Array.length_toList
            rw [hDl] at HB7 HO7 y0
            have HNG := Lib.hid (show (Value.slice av D.size cv).ownBlock ≠ some g from fun e => by have := (World.ownsRow.lt HO7.out g e).1; omega)
            have HNB := Lib.hid (Ne.symm (HB7.out.not_row HO7.out))
            have HNW := Lib.hid (show (Value.slice av D.size cv).ownBlock ≠ some w.heap.size from fun e => by have := (World.ownsRow.lt HO7.out w.heap.size e).1; omega)
            have hDs := HSk.out.1
            go_region_law (first
              | (refine step_call2 _ (by rfl) 74 (.tmp 37) (.tmp 38) 78 93 (by rfl) (enters_of Tryz.func74 (by kernel_rfl) rfl) (.pointer (some ⟨g, 0, none⟩)) (.slice (some ⟨w7.heap.size, 0, none⟩) 6 6) (by rfl) (by rfl) ((HOF.out).mono ?_); rintro _ w8 ⟨tz, htz, rfl, R8, g8⟩; have htz2 : tz.size ≤ 2 := (by simp at htz; rcases htz with rfl | rfl | rfl | rfl | rfl | rfl <;> decide); refine ⟨_, rfl, ?_⟩; have G8 := Lib.hid (show w7.grownBy w8 (some g) from ⟨g8.os, g8.tape, g8.output, g8.size, g8.block⟩); have HR8 := Lib.hid R8; have HB8 := Lib.hid (HB7.out.kept G8.out (by simp; omega)); have z8 := G8.out.size; have e8 := HB8.out.c0; have e8z := HB8.out.z 0; have hl8 := HB8.out.lt; clear R8 g8)
              | (refine step_call2 _ (by rfl) 52 (.tmp 41) (.const (.int .i64 100)) 78 3 (by rfl) (enters_of Tryz.func52 (by kernel_rfl) rfl) (.pointer (some ⟨g, 0, none⟩)) (.int .i64 100) (by rfl) (by rfl) ((HK.out 100 (p + 5 + 5 * k + 2) _ HR8.out (by omega) (by omega)).mono ?_); rintro _ w9 ⟨qw, rfl, _, R9, g9⟩; refine ⟨_, rfl, ?_⟩; have G9 := Lib.hid (show w8.grownBy w9 (some g) from ⟨g9.os, g9.tape, g9.output, g9.size, g9.block⟩); have HR9 := Lib.hid R9; have HB9 := Lib.hid (HB8.out.kept G9.out (by simp; omega)); have z9 := G9.out.size; have e9 := HB9.out.c0; have e9z := HB9.out.z 0; have hl9 := HB9.out.lt; clear R9 g9)
              | (refine step_call2 _ (by rfl) 51 (.tmp 40) (.tmp 43) 78 84 (by rfl) (enters_of Tryz.func51 (by kernel_rfl) rfl) (.pointer (some ⟨g, 0, none⟩)) (.slice (some ⟨w9.heap.size, 0, none⟩) 6 6) (by rfl) (by rfl) ((numLit_any g (p + 5 + 5 * k + 3) [1, 2, 5, 0, 10, (qw : Int)] w9 HR9.out (by omega) (by simp) (by simp)).mono ?_); rintro _ w10 ⟨wt, _, rfl, R10, g10⟩; refine ⟨_, rfl, ?_⟩; have G10 := Lib.hid (show w9.grownBy w10 (some g) from ⟨g10.os, g10.tape, g10.output, g10.size, g10.block⟩); have HR10 := Lib.hid R10; have HB10 := Lib.hid (HB9.out.kept G10.out (by simp; omega)); have z10 := G10.out.size; have e10 := HB10.out.c0; have e10z := HB10.out.z 0; have hl10 := HB10.out.lt; clear R10 g10)
              | (refine step_append_ownT _ (by rfl) (.tmp 34) (.tmp 46) 30 (by rfl) w1.heap.size 67 i0 zeroC 4 40 Tryz.underlying30 hi hi0 hi1 hi2 rfl (by decide) (.slice av D.size cv) D.size (flatL D.toList) (by rfl) (World.ownsRow.alloc (World.ownsRow.kept (World.ownsRow.kept (World.ownsRow.kept HO7.out G8.out (.inr HNG.out)) G9.out (.inr HNG.out)) G10.out (.inr HNG.out)) _) ⟨w10.heap.size, 0, none⟩ 1 1 (encC ⟨a, (a : Int) + (Z : Int), tz, wt⟩) (by first | rfl | (go_simp; done)) rfl (cells_at rfl) (encC_one _) (by unfold maxLen; omega) (by omega) (by simp; omega) ?_; intro v11 w11 hown hgrow hat; obtain ⟨g1, cap1, rfl⟩ := ownsRow_succ hown; have HOWN := Lib.hid hown; have HGR := Lib.hid hgrow; have HB11 := Lib.hid ((HB10.out.kept (row := none) (World.grownBy_alloc w10 (.cells #[.int .i64 (a : Int), .int .i64 ((a : Int) + (Z : Int)), .string tz, .int .i64 wt] 67) none) (by simp)).kept HGR.out HNB.out); have e11 := HB11.out.c0; have e11z := HB11.out.z 0; have z11 := HGR.out.size; clear hown hgrow hat))
            all_goals
              go_wp2_with fail
              go_meet
              have GT := grownBy_trans (grownBy_trans (grownBy_trans HG7.out G8.out) G9.out) G10.out
              have GA := World.grownBy_alloc w10 (.cells #[.int .i64 (a : Int), .int .i64 ((a : Int) + (Z : Int)), .string tz, .int .i64 wt] 67) none
              have GS := grown_set w11 w4.heap.size 0 (.slice (some ⟨g1, 0, none⟩) (D.size + 1) cap1)
              have hrow : ∀ r, (Value.slice av D.size cv).ownBlock = some r → w1.heap.size ≤ r := fun r e => (World.ownsRow.lt HO7.out r e).1
              have hw10 : w10.heap.size ≤ (w10.alloc (.cells #[.int .i64 (a : Int), .int .i64 ((a : Int) + (Z : Int)), .string tz, .int .i64 wt] 67)).heap.size := GA.size
              have hw11 : (w10.alloc (.cells #[.int .i64 (a : Int), .int .i64 ((a : Int) + (Z : Int)), .string tz, .int .i64 wt] 67)).heap.size ≤ w11.heap.size := HGR.out.size
              refine Lib.hid ⟨⟨a, (a : Int) + (Z : Int), tz, wt⟩, _, htz2, HB11.out.set _, ?_, by simp, ((HR10.out.alloc (.cells #[.int .i64 (a : Int), .int .i64 ((a : Int) + (Z : Int)), .string tz, .int .i64 wt] 67)).kept HGR.out (fun r e => by have := hrow r e; omega)).kept GS (fun r e => by cases e; omega), ?_, ?_, by simp [World.setCell]; omega⟩
              · have h5 := World.ownsRow.kept HOWN.out GS (.inr (HB11.out.not_row HOWN.out))
                unfold OwnsC
                rw [Array.toList_push, List.length_append, hDl, ← flatL_snoc]
                exact h5
              · exact ⟨GS.os.trans (HGR.out.os.trans (GA.os.trans GT.os)), GS.tape.trans (HGR.out.tape.trans (GA.tape.trans GT.tape)), GS.output.trans (HGR.out.output.trans (GA.output.trans GT.output)), by have := GT.size; have := GS.size; omega, fun q hq hne => by
                  have hs := GT.size
                  refine (GS.block q (by omega) (by simp; omega)).trans ((HGR.out.block q (by omega) (fun e => by have := hrow q e.symm; omega)).trans ((GA.block q (by omega) (by simp)).trans (GT.block q hq hne)))⟩
              · have h1 := ((RX7.out.kept G8.out (by simp; omega)).kept G9.out (by simp; omega)).kept G10.out (by simp; omega)
                exact ((h1.kept GA (by simp)).kept HGR.out (Ne.symm HNW.out)).kept GS (by simp; omega)
          case rest =>
            obtain ⟨c, v', hc2, hB8, hO8, hV8, hR8, hG8, hRX8, hz8⟩ := hcut.out
            have HB8 := Lib.hid hB8
            have HO8 := Lib.hid hO8
            have HV8 := Lib.hid hV8
            have RX8 := Lib.hid hRX8
            have HS8 := Lib.hid (HSk.out.push c hc2)
            have HG8 := Lib.hid hG8
            have HR8 := Lib.hid hR8
            clear hcut hB8 hO8 hV8 hR8 hG8 hRX8 hc2
            go_wp2_with fail
            refine (numLit_any g (p + 5 + 5 * k + 4) [0, 1, 0, 3, 6] _ HR8.out (by omega) (by simp) (by simp)).mono ?_
            rintro x w9 ⟨yy, hyy, rfl, hR9, hG9⟩
            have hyr : 0 ≤ yy ∧ yy ≤ 6 := by simp at hyy; omega
            obtain ⟨Y, rfl⟩ : ∃ Y : Nat, yy = Y := ⟨yy.toNat, by omega⟩
            have hY : Y ≤ 6 := by omega
            have hz9 := hG9.size
            have HR9 := Lib.hid hR9
            have HG9 := Lib.hid hG9
            clear hyy hyr hR9 hG9
            go_wp2_with fail
            go_roundw
            case rel =>
              exact ⟨k + 1, a + Z + 1 + Y, D.push c, v', by go_num, by go_num, by omega, by omega, HB8.out.kept HG9.out (by simp; omega), World.ownsRow.kept HO8.out HG9.out (.inr (fun e => by have := (World.ownsRow.lt HO8.out g e).1; omega)), HS8.out, HV8.out, HR9.out.le (by omega), grownBy_trans HG8.out HG9.out, RX8.out.kept HG9.out (by simp; omega), by omega⟩
            case measure => simp [intOf]; omega
      · have hki : ¬ (k : Int) < (N : Int) := by omega
        obtain ⟨gd, cd, rfl, hgd, hcd, hmd⟩ := owns_form HOk.out HVk.out
        have hDl : D.toList.length = D.size := Array.length_toList
        rw [hDl] at HBk HOk HVk
        have b0 := HBk.out.c0
        have b1 := HBk.out.c1
        have c0 := RXk.out.c0
        have c1 := RXk.out.c1
        have c2 := RXk.out.z 0
        have c3 := RXk.out.z 1
        have hbl := HBk.out.lt
        have hcl := RXk.out.lt
        obtain ⟨RZ, OZ, GZ⟩ := put_sw RXk.out HOk.out z
        have HRZ := Lib.hid RZ
        have HOZ := Lib.hid OZ
        have HGZ := Lib.hid GZ
        clear RZ OZ GZ hgd hcd hmd hDl
        go_wp2_with fail
        refine bodyPost_ret (v := .agg #[.slice (some ⟨gd, 0, none⟩) D.size cd, .int .i64 z]) (by simp [results, Tryz.results79, go_sem, HRZ.out.c0, HRZ.out.c1]) rfl (DrewSw.mk D z (HSk.out.mono (by omega)) ⟨_, rfl, owns_base HOZ.out (by omega), HVk.out⟩ ((HRk.out.kept HGZ.out (fun q e => by cases e; omega)).le (by omega)) ?_)
        have hG3 := HGk.out
        have hG4 := HGZ.out
        exact ⟨hG4.os.trans hG3.os, hG4.tape.trans hG3.tape, hG4.output.trans hG3.output, Nat.le_trans hG3.size hG4.size, fun q hq hne => (hG4.block q (Nat.lt_of_lt_of_le hq hG3.size) (by simp; omega)).trans (hG3.block q hq hne)⟩
end Go.Proofs.YtjpcpiffffobcaaGreatDoor

namespace Go.Proofs.YtjpcpiffffobcaaGreatDoor
open Go.RowKit Go.Shelf Go.Lib Go.Sort

theorem wpList_append_ownW {P : Program} (w : World) {ops : Array Oper} {rest : List Oper} {o : Oper} {a : Act} {Q : Exit → Act → World → Prop}
    (hg : o.guard = none) (s x : Operand) (t : TypeId) (hop : o.op = Op.call { callee := Callee.builtin Builtin.append, args := #[s, x], argTypes := #[t, t] })
    (base : Nat) (e : TypeId) (i : TypeInfo) (z : Value) (size bytes : Nat) (h1 : P.underlying t = some (.slice e)) (h2 : P.info? e = some i) (h3 : i.zero = some z) (h4 : i.size = size) (h5 : i.bytes = bytes) (h6 : z.cells.size = size) (h7 : 0 < size)
    (v : Value) (k : Nat) (xs : List Value) (hs : a.eval s = v) (hown : w.ownsRow base e size v k xs) (ad : Addr) (m c : Nat) (news : List Value) (hx : a.eval x = .slice (some ad) m c) (hn : news.length = m * size)
    (hc : ∀ j u, news[j]? = some u → w.cell? (ad.add j) = some u) (h1c : ∀ u ∈ news, u.oneCell' = true) (b1 : k + m ≤ maxLen) (b2 : (k + m) * bytes ≤ 140737488355328) (b3 : base ≤ w.heap.size)
    (hK : ∀ v' w', w'.ownsRow base e size v' (k + m) (xs ++ news) → w.grownBy w' v.ownBlock → (v'.ownBlock = v.ownBlock ∨ v'.ownBlock = some w.heap.size) → wpList P ops Q rest (a.put o.dst v') w') :
    wpList P ops Q (o :: rest) a w := by
  refine wpList_plain hg fun K hK' => ?_
  obtain ⟨v', w', hrun, r1, r2, _, r3⟩ := run_append_own_at (P := P) w base t o.type e i z size bytes h1 h2 h3 h4 h5 h6 h7 v k xs hown ad m c news hn hc h1c b1 b2 b3
  unfold Oper.wp execOp
  simp only [hop, resolve, invoke, builtin, Sem.run_bind, Sem.run_pure, Result.andThen_ok, List.map_toArray, List.map_cons, List.map_nil, hs, hx, hrun]
  exact hK' _ _ (hK v' w' r1 r2 r3)

set_option maxRecDepth 100000 in
set_option maxHeartbeats 4000000 in
theorem some_any (g p : Nat) (w : World) (h : RdAt w g p) (hp : p ≤ 40000) :
    Calls Tryz.prog 50 #[.pointer (some ⟨g, 0, none⟩)] w (DrewSw g (p + 80) 9 w) := by
  obtain ⟨i0, hi, hi0, hi1, hi2⟩ := info_parts infoC
  obtain ⟨wa, hwa⟩ : ∃ wa, wa = w.alloc (.cells #[.slice none 0 0, .int .i64 0] 32) := ⟨_, rfl⟩
  have HRX := Lib.hid (show BoxS wa w.heap.size (.slice none 0 0) 0 by rw [hwa]; exact BoxS.new _ _ _)
  have HGA := Lib.hid (show w.grownBy wa (some g) by rw [hwa]; exact World.grownBy_alloc _ _ _)
  have HRA := Lib.hid (show RdAt wa g p by rw [hwa]; exact h.alloc _)
  have hz : w.heap.size < wa.heap.size := by rw [hwa]; simp
  have HWA := Lib.hid hwa
  have hgw : g < w.heap.size := h.1
  have HGD := Lib.hid (good_any g p wa HRA.out (by omega))
  clear hwa h
  go_enter Tryz.func50, Tryz.ntmps50
  go_wp2_with fail
  rw [← HWA.out]
  refine HGD.out.mono ?_
  rintro x w1 ⟨D, r, hs, ⟨v, rfl, ho, hv⟩, hR1, hG1⟩
  have hz1 := hG1.size
  obtain ⟨gd, cd, rfl, hgd, hcd, hmd⟩ := owns_form ho hv
  have hDl : D.toList.length = D.size := Array.length_toList
  rw [hDl] at ho hv hcd
  obtain ⟨wb, hwb⟩ : ∃ wb, wb = w1.alloc (.cells #[.slice (some ⟨gd, 0, none⟩) D.size cd, .int .i64 r] 32) := ⟨_, rfl⟩
  have HBX := Lib.hid (show BoxS wb w1.heap.size (.slice (some ⟨gd, 0, none⟩) D.size cd) r by rw [hwb]; exact BoxS.new _ _ _)
  have HRB := Lib.hid (show RdAt wb g (p + 60) by rw [hwb]; exact hR1.alloc _)
  have HGB := Lib.hid (show w.grownBy wb (some g) by rw [hwb]; exact grownBy_trans (grownBy_trans HGA.out hG1) (World.grownBy_alloc _ _ _))
  have RXB := Lib.hid (show BoxS wb w.heap.size (.slice none 0 0) 0 by rw [hwb]; exact (HRX.out.kept hG1 (by simp; omega)).kept (row := none) (World.grownBy_alloc _ _ _) (by simp))
  have HOB := Lib.hid (show OwnsC wa.heap.size (.slice (some ⟨gd, 0, none⟩) D.size cd) D.toList wb by rw [hwb]; exact World.ownsRow.alloc ho _)
  have hzb : w1.heap.size < wb.heap.size := by rw [hwb]; simp
  have HWB := Lib.hid hwb
  have HS := Lib.hid hs
  have HV := Lib.hid hv
  clear hwb ho hv hR1 hG1 hs
  go_wp2_with fail
  rw [← HWB.out]
  refine (pickR_any g 30 (p + 60) _ HRB.out (by omega) (by omega)).mono ?_
  rintro x w2 ⟨q, rfl, _, hR2, hG2⟩
  have hz2 := hG2.size
  have HR2 := Lib.hid hR2
  have HG2 := Lib.hid (grownBy_trans HGB.out hG2)
  have RX2 := Lib.hid (RXB.out.kept hG2 (by simp; omega))
  have HB2 := Lib.hid (HBX.out.kept hG2 (by simp; omega))
  have HO2 := Lib.hid (show OwnsC wa.heap.size (.slice (some ⟨gd, 0, none⟩) D.size cd) D.toList w2 from World.ownsRow.kept HOB.out hG2 (.inr (by simp [Value.ownBlock]; omega)))
  clear hR2 hG2
  have HNG := Lib.hid (show (Value.slice (some ⟨gd, 0, none⟩) D.size cd).ownBlock ≠ some g by simp [Value.ownBlock]; omega)
  have hDs := HS.out.1
  by_cases hq0 : q = 0
  · subst hq0
    go_wp2_with fail
    refine (numLit_any g (p + 61) [-1, 100, 9223372036854775807] _ HR2.out (by omega) (by simp) (by simp)).mono ?_
    rintro x w3 ⟨z, _, rfl, hR3, hG3⟩
    have hz3 := hG3.size
    have HR3 := Lib.hid hR3
    have HG3 := Lib.hid (grownBy_trans HG2.out hG3)
    have RX3 := Lib.hid (RX2.out.kept hG3 (by simp; omega))
    have HB3 := Lib.hid (HB2.out.kept hG3 (by simp; omega))
    have HO3 := Lib.hid (show OwnsC _ _ _ w3 from World.ownsRow.kept HO2.out hG3 (.inr HNG.out))
    clear hR3 hG3
    have b0 := HB3.out.c0
    have b1 := HB3.out.c1
    have b2 := HB3.out.z 1
    have c0 := RX3.out.c0
    have c1 := RX3.out.c1
    have c2 := RX3.out.z 0
    have c3 := RX3.out.z 1
    have hbl := HB3.out.lt
    have hcl := RX3.out.lt
    have GS := grown_set w3 w1.heap.size 1 (.int .i64 z)
    have GX : w3.grownBy (w3.setCell ⟨w1.heap.size, 1, none⟩ (.int .i64 z)) (some w1.heap.size) := GS
    have GW : w.grownBy (w3.setCell ⟨w1.heap.size, 1, none⟩ (.int .i64 z)) (some g) := ⟨GS.os.trans HG3.out.os, GS.tape.trans HG3.out.tape, GS.output.trans HG3.out.output, Nat.le_trans HG3.out.size GS.size, fun q hq hne => (GS.block q (Nat.lt_of_lt_of_le hq HG3.out.size) (by simp; omega)).trans (HG3.out.block q hq hne)⟩
    obtain ⟨RZ, OZ, GZ⟩ := put_sw (RX3.out.kept GS (by simp; omega)) (World.ownsRow.kept HO3.out GS (.inr (HB3.out.not_row HO3.out))) (z)
    have HRZ := Lib.hid RZ
    have HOZ := Lib.hid OZ
    have HGZ := Lib.hid GZ
    have HGL := Lib.hid (GW)
    have HRL := Lib.hid (HR3.out.kept GX (fun q e => by cases e; omega))
    clear RZ OZ GZ
    go_wp2_with fail
    refine bodyPost_ret (v := .agg #[.slice (some ⟨gd, 0, none⟩) D.size cd, .int .i64 z]) (by simp [results, Tryz.results50, go_sem, HRZ.out.c0, HRZ.out.c1]) rfl (DrewSw.mk D z (HS.out.mono (by omega)) ⟨_, rfl, owns_base HOZ.out (by omega), HV.out⟩ ((HRL.out.kept HGZ.out (fun q e => by cases e; omega)).le (by omega)) ?_)
    have hG3 := HGL.out
    have hG4 := HGZ.out
    exact ⟨hG4.os.trans hG3.os, hG4.tape.trans hG3.tape, hG4.output.trans hG3.output, Nat.le_trans hG3.size hG4.size, fun q hq hne => (hG4.block q (Nat.lt_of_lt_of_le hq hG3.size) (by simp; omega)).trans (hG3.block q hq hne)⟩
  · have hqb : ((q : Int) == 0) = false := by simp; omega
    by_cases hq1 : q = 1
    · subst hq1
      have b0 := HB2.out.c0
      have hbl := HB2.out.lt
      have HC := Lib.hid (show ∀ j u, (flatL D.toList)[j]? = some u → (w2.alloc (.cells #[] 67)).cell? ((⟨gd, 0, none⟩ : Addr).add j) = some u from fun j u hu => by
        have hj : j < D.size * 4 := by
          have := (List.getElem?_eq_some_iff.1 hu).1
          rw [flatL_length] at this
          omega
        have h1 := World.ownsRow.cellAt (World.ownsRow.alloc HO2.out (.cells #[] 67)) j (by omega)
        rw [hu] at h1
        by_cases hj0 : j = 0
        · subst hj0; simpa [Addr.add] using h1
        · simpa [Addr.add, hj0] using h1)
      have HNEW := Lib.hid (show OwnsC w2.heap.size (.slice (some ⟨w2.heap.size, 0, none⟩) 0 0) [] (w2.alloc (.cells #[] 67)) from World.ownsRow_made (base := w2.heap.size) (e := 67) (size := 4) w2 #[] 0 (Nat.le_refl _) (by unfold maxLen; omega) rfl)
      have HFL := Lib.hid (show (flatL D.toList).length = D.size * 4 by rw [flatL_length, hDl])
      go_wp2_with (first
        | (at_builtin; refine wpList_append_ownW _ rfl (.tmp 16) (.tmp 18) 30 rfl w2.heap.size 67 i0 zeroC 4 40 Tryz.underlying30 hi hi0 hi1 hi2 rfl (by decide) _ 0 [] rfl HNEW.out ⟨gd, 0, none⟩ D.size cd (flatL D.toList) rfl HFL.out HC.out ?c1 (by unfold maxLen; omega) (by omega) (by simp) ?_)
        | fail)
      case c1 =>
        intro u hu
        simp only [flatL, List.mem_flatMap] at hu
        obtain ⟨c, _, h2⟩ := hu
        exact encC_one c u h2
      intro v3 w3 hown3 hgrow3 hat3
      have GA2 := World.grownBy_alloc w2 (.cells #[] 67) none
      have hz3 : w2.heap.size < w3.heap.size := by have := hgrow3.size; simp at this; omega
      have hnw : ∀ q, q < w2.heap.size → some q ≠ (Value.slice (some ⟨w2.heap.size, 0, none⟩) 0 0).ownBlock := fun q hq e => by simp [Value.ownBlock] at e; omega
      have HR3 := Lib.hid ((HR2.out.alloc (.cells #[] 67)).kept hgrow3 (fun r e => by simp [Value.ownBlock] at e; omega))
      have RX3 := Lib.hid ((RX2.out.kept GA2 (by simp)).kept hgrow3 (hnw _ (by omega)))
      have HB3 := Lib.hid ((HB2.out.kept GA2 (by simp)).kept hgrow3 (hnw _ (by omega)))
      have HO3 := Lib.hid hown3
      have HG3 := Lib.hid (show w.grownBy w3 (some g) from ⟨hgrow3.os.trans (GA2.os.trans HG2.out.os), hgrow3.tape.trans (GA2.tape.trans HG2.out.tape), hgrow3.output.trans (GA2.output.trans HG2.out.output), by have := HG2.out.size; omega, fun q hq hne => by
        have hs := HG2.out.size
        exact (hgrow3.block q (by simp; omega) (hnw q (by omega))).trans ((GA2.block q (by omega) (by simp)).trans (HG2.out.block q hq hne))⟩)
      have HN3 := Lib.hid (show v3.ownBlock ≠ some g from fun e => by have := (World.ownsRow.lt HO3.out g e).1; omega)
      have HN4 := Lib.hid (show v3.ownBlock ≠ some w.heap.size from fun e => by have := (World.ownsRow.lt HO3.out w.heap.size e).1; omega)
      have HN5 := Lib.hid (show v3.ownBlock ≠ some w1.heap.size from fun e => by have := (World.ownsRow.lt HO3.out w1.heap.size e).1; omega)
      have HN6 := Lib.hid (show ∀ r, v3.ownBlock = some r → w2.heap.size ≤ r from fun r e => (World.ownsRow.lt HO3.out r e).1)
      clear hown3 hgrow3 hat3 GA2 hnw b0
      go_wp2_with fail
      refine (numLit_any g (p + 61) [0, 31, 32, -1] _ HR3.out (by omega) (by simp) (by simp)).mono ?_
      rintro x w4 ⟨y1, _, rfl, hR4, hG4⟩
      have hz4 := hG4.size
      have HR4 := Lib.hid hR4
      have RX4 := Lib.hid (RX3.out.kept hG4 (by simp; omega))
      have HB4 := Lib.hid (HB3.out.kept hG4 (by simp; omega))
      have HO4 := Lib.hid (World.ownsRow.kept HO3.out hG4 (.inr HN3.out))
      have HG4 := Lib.hid (grownBy_trans HG3.out hG4)
      clear hR4 hG4
      go_wp2_with fail
      refine (numLit_any g (p + 62) [31, 32, 5] _ HR4.out (by omega) (by simp) (by simp)).mono ?_
      rintro x w5 ⟨y2, _, rfl, hR5, hG5⟩
      have hz5 := hG5.size
      have HR5 := Lib.hid hR5
      have RX5 := Lib.hid (RX4.out.kept hG5 (by simp; omega))
      have HB5 := Lib.hid (HB4.out.kept hG5 (by simp; omega))
      have HO5 := Lib.hid (World.ownsRow.kept HO4.out hG5 (.inr HN3.out))
      have HG5 := Lib.hid (grownBy_trans HG4.out hG5)
      clear hR5 hG5
      go_wp2_with fail
      refine (ofLit_any g (p + 63) [⟨#[97]⟩, ⟨#[122]⟩, ⟨#[]⟩, ⟨#[97, 98]⟩, ⟨#[104]⟩] _ HR5.out (by omega) (by simp) (by simp)).mono ?_
      rintro x w6 ⟨sz, hsz, rfl, hR6, hG6⟩
      have hz6 := hG6.size
      have HR6 := Lib.hid hR6
      have RX6 := Lib.hid (RX5.out.kept hG6 (by simp; omega))
      have HB6 := Lib.hid (HB5.out.kept hG6 (by simp; omega))
      have HO6 := Lib.hid (World.ownsRow.kept HO5.out hG6 (.inr HN3.out))
      have HG6 := Lib.hid (grownBy_trans HG5.out hG6)
      clear hR6 hG6
      go_wp2_with fail
      have hsz2 : sz.size ≤ 2 := by simp at hsz; rcases hsz with rfl | rfl | rfl | rfl | rfl <;> decide
      clear hsz
      refine (numLit_any g (p + 64) [1, -1, 100] _ HR6.out (by omega) (by simp) (by simp)).mono ?_
      rintro x w7 ⟨y3, _, rfl, hR7, hG7⟩
      have hz7 := hG7.size
      have HR7 := Lib.hid hR7
      have RX7 := Lib.hid (RX6.out.kept hG7 (by simp; omega))
      have HB7 := Lib.hid (HB6.out.kept hG7 (by simp; omega))
      have HO7 := Lib.hid (World.ownsRow.kept HO6.out hG7 (.inr HN3.out))
      have HG7 := Lib.hid (grownBy_trans HG6.out hG7)
      clear hR7 hG7
      go_wp2_with (first
        | (at_builtin; refine wpList_append_at _ rfl (.tmp 19) (.tmp 33) 30 rfl w2.heap.size 67 i0 zeroC 4 40 Tryz.underlying30 hi hi0 hi1 hi2 rfl (by decide) v3 D.size (flatL D.toList) rfl (World.ownsRow.alloc HO7.out _) ⟨w7.heap.size, 0, none⟩ 1 1 (encC ⟨y1, y2, sz, y3⟩) rfl rfl ?c2 (encC_one _) (by unfold maxLen; omega) (by omega) (by simp; omega) (by decide) ?_)
        | fail)
      case c2 => exact cells_at rfl
      intro v8 w8 hown8 hgrow8 hat8
      obtain ⟨g8, cap8, rfl⟩ := ownsRow_succ hown8
      have GA7 := World.grownBy_alloc w7 (.cells #[.int .i64 y1, .int .i64 y2, .string sz, .int .i64 y3] 67) none
      have hz8 : w7.heap.size < w8.heap.size := by have := hgrow8.size; simp at this; omega
      have hrow8 : ∀ q, q < w2.heap.size → some q ≠ v3.ownBlock := fun q hq e => by have := HN6.out q e.symm; omega
      have HR8 := Lib.hid ((HR7.out.alloc (.cells #[.int .i64 y1, .int .i64 y2, .string sz, .int .i64 y3] 67)).kept hgrow8 (fun r e => by have := HN6.out r e; omega))
      have RX8 := Lib.hid ((RX7.out.kept GA7 (by simp)).kept hgrow8 (hrow8 _ (by omega)))
      have HB8 := Lib.hid ((HB7.out.kept GA7 (by simp)).kept hgrow8 (hrow8 _ (by omega)))
      have HG8 := Lib.hid (show w.grownBy w8 (some g) from ⟨hgrow8.os.trans (GA7.os.trans HG7.out.os), hgrow8.tape.trans (GA7.tape.trans HG7.out.tape), hgrow8.output.trans (GA7.output.trans HG7.out.output), by have := HG7.out.size; omega, fun q hq hne => by
        have hs := HG7.out.size
        exact (hgrow8.block q (by simp; omega) (hrow8 q (by omega))).trans ((GA7.block q (by omega) (by simp)).trans (HG7.out.block q hq hne))⟩)
      have HO8 := Lib.hid (show OwnsC w2.heap.size (.slice (some ⟨g8, 0, none⟩) (D.size + 1) cap8) (D.push ⟨y1, y2, sz, y3⟩).toList w8 by
        unfold OwnsC
        rw [Array.toList_push, List.length_append, hDl, ← flatL_snoc]
        exact hown8)
      have HSP := Lib.hid (HS.out.push ⟨y1, y2, sz, y3⟩ hsz2)
      have b0 := HB8.out.c0
      have b1 := HB8.out.c1
      have b2 := HB8.out.z 0
      have c0 := RX8.out.c0
      have c1 := RX8.out.c1
      have c2 := RX8.out.z 0
      have c3 := RX8.out.z 1
      have hbl8 := HB8.out.lt
      have hcl := RX8.out.lt
      have GS := grown_set w8 w1.heap.size 0 (.slice (some ⟨g8, 0, none⟩) (D.size + 1) cap8)
      have GW : w.grownBy (w8.setCell ⟨w1.heap.size, 0, none⟩ (.slice (some ⟨g8, 0, none⟩) (D.size + 1) cap8)) (some g) := ⟨GS.os.trans HG8.out.os, GS.tape.trans HG8.out.tape, GS.output.trans HG8.out.output, Nat.le_trans HG8.out.size GS.size, fun q hq hne => (GS.block q (Nat.lt_of_lt_of_le hq HG8.out.size) (by simp; omega)).trans (HG8.out.block q hq hne)⟩
      clear hown8 hgrow8 hat8 GA7 hrow8
      obtain ⟨RZ, OZ, GZ⟩ := put_sw (RX8.out.kept GS (by simp; omega)) (World.ownsRow.kept HO8.out GS (.inr (HB8.out.not_row HO8.out))) r
      have HRZ := Lib.hid RZ
      have HOZ := Lib.hid OZ
      have HGZ := Lib.hid GZ
      have HGL := Lib.hid GW
      have HRL := Lib.hid (HR8.out.kept GS (fun q e => by cases e; omega))
      clear RZ OZ GZ GW GS
      go_wp2_with fail
      refine bodyPost_ret (v := .agg #[.slice (some ⟨g8, 0, none⟩) (D.size + 1) cap8, .int .i64 r]) (by simp [results, Tryz.results50, go_sem, HRZ.out.c0, HRZ.out.c1]) rfl (DrewSw.mk (D.push ⟨y1, y2, sz, y3⟩) r HSP.out ⟨_, rfl, owns_base HOZ.out (by omega), by simp⟩ ((HRL.out.kept HGZ.out (fun q e => by cases e; omega)).le (by omega)) ?_)
      have hG3 := HGL.out
      have hG4 := HGZ.out
      exact ⟨hG4.os.trans hG3.os, hG4.tape.trans hG3.tape, hG4.output.trans hG3.output, Nat.le_trans hG3.size hG4.size, fun q hq hne => (hG4.block q (Nat.lt_of_lt_of_le hq hG3.size) (by simp; omega)).trans (hG3.block q hq hne)⟩
    · have hqc : ((q : Int) == 1) = false := by simp; omega
      have b0 := HB2.out.c0
      have b1 := HB2.out.c1
      have c0 := RX2.out.c0
      have c1 := RX2.out.c1
      have c2 := RX2.out.z 0
      have c3 := RX2.out.z 1
      have hbl := HB2.out.lt
      have hcl := RX2.out.lt
      obtain ⟨RZ, OZ, GZ⟩ := put_sw (RX2.out) (HO2.out) (r)
      have HRZ := Lib.hid RZ
      have HOZ := Lib.hid OZ
      have HGZ := Lib.hid GZ
      have HGL := Lib.hid (HG2.out)
      have HRL := Lib.hid (HR2.out)
      clear RZ OZ GZ
      go_wp2_with fail
      refine bodyPost_ret (v := .agg #[.slice (some ⟨gd, 0, none⟩) D.size cd, .int .i64 r]) (by simp [results, Tryz.results50, go_sem, HRZ.out.c0, HRZ.out.c1]) rfl (DrewSw.mk D r (HS.out.mono (by omega)) ⟨_, rfl, owns_base HOZ.out (by omega), HV.out⟩ ((HRL.out.kept HGZ.out (fun q e => by cases e; omega)).le (by omega)) ?_)
      have hG3 := HGL.out
      have hG4 := HGZ.out
      exact ⟨hG4.os.trans hG3.os, hG4.tape.trans hG3.tape, hG4.output.trans hG3.output, Nat.le_trans hG3.size hG4.size, fun q hq hne => (hG4.block q (Nat.lt_of_lt_of_le hq hG3.size) (by simp; omega)).trans (hG3.block q hq hne)⟩
end Go.Proofs.YtjpcpiffffobcaaGreatDoor

namespace Go.Proofs.YtjpcpiffffobcaaGreatDoor
open Go.RowKit Go.Shelf Go.Lib Go.Sort

theorem below_drawn {B g : Nat} {w w1 w2 : World} (h : RowKit.Below B w w1) (hG : w1.grownBy w2 (some g)) (hB : B ≤ w1.heap.size) (hg : B ≤ g) : RowKit.Below B w w2 := h.grown hG hB (fun q e => by cases e; exact hg)

/-- A switch and a key have been drawn. -/
def DrewKey (w : World) (x : Ending) (w' : World) : Prop := ∃ (D : Array CaseD) (rest key : Int) (b cap : Nat), x = .returned (.tuple #[.agg #[.slice (some ⟨b, 0, none⟩) D.size cap, .int .i64 rest], .int .i64 key]) ∧ RowC w' b 0 D ∧ D.size ≤ cap ∧ cap ≤ maxLen ∧ SmallSw D 9 ∧ RowKit.Below w.heap.size w w'
theorem DrewKey.mk {w : World} {x : Ending} {w' : World} (D : Array CaseD) (rest key : Int) (b cap : Nat) (h1 : x = .returned (.tuple #[.agg #[.slice (some ⟨b, 0, none⟩) D.size cap, .int .i64 rest], .int .i64 key])) (h2 : RowC w' b 0 D) (h3 : D.size ≤ cap) (h4 : cap ≤ maxLen) (h5 : SmallSw D 9) (h6 : RowKit.Below w.heap.size w w') : DrewKey w x w' := ⟨D, rest, key, b, cap, h1, h2, h3, h4, h5, h6⟩

theorem kept_cells {W : World} {a b : Nat} (h : a ≠ b) (u u' : Value) (i : Nat) : ((W.setCell ⟨a, 0, none⟩ u).setCell ⟨a, 1, none⟩ u').cell? ⟨b, i, none⟩ = W.cell? ⟨b, i, none⟩ := by
  rw [World.cell?_setCell_other _ _ _ _ (by intro e; simp only [Addr.mk.injEq] at e; omega), World.cell?_setCell_other _ _ _ _ (by intro e; simp only [Addr.mk.injEq] at e; omega)]

end Go.Proofs.YtjpcpiffffobcaaGreatDoor
