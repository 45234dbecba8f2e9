
/- FormatSwitch: the program's and the model's. -/
import Derived.Test.YtjpcpiffffobcaaGreatDoorKsSums
import Derived.Test.YtjpcpiffffobcaaGreatDoorKsDec
import Derived.Test.YtjpcpiffffobcaaGreatDoorKsQuiet
import Derived.BigQuiet
import Derived.Lib.Join
namespace Go.Proofs.YtjpcpiffffobcaaGreatDoor
open Go.RowKit Go.Shelf Go.Lib Go.Sort

def dashS : ByteArray := ⟨#[45]⟩
def commaS : ByteArray := ⟨#[44]⟩
def semiS : ByteArray := ⟨#[59]⟩
def rangeS (lo hi : Int) : ByteArray := if lo = hi then itoaS lo else (itoaS lo ++ dashS) ++ itoaS hi
def textS (c : CaseD) : ByteArray := (rangeS c.low c.high ++ c.target) ++ itoaS c.weight
def fmtTo (d : Array CaseD) : Nat → ByteArray
  | 0 => ⟨#[]⟩
  | 1 => textS d[0]!
  | k + 2 => (fmtTo d (k + 1) ++ commaS) ++ textS d[k + 1]!
noncomputable def fmtN (d : Array CaseD) (rest : Int) : ByteArray := if swB d rest = true then (fmtTo d d.size ++ semiS) ++ itoaS rest else ⟨#[]⟩
theorem size_app (a b : ByteArray) : (a ++ b).size = a.size + b.size := by simp [ByteArray.size_append]
theorem app_assoc (a b c : ByteArray) : (a ++ b) ++ c = a ++ (b ++ c) := ByteArray.append_assoc
theorem caseB_target {c : CaseD} (h : caseB c = true) : c.target.size = 1 := by simp [caseB, oneB] at h; exact h.1.1.1.1.1
theorem rangeS_size {lo hi : Int} (h0 : 0 ≤ lo) (h1 : lo ≤ 31) (h2 : 0 ≤ hi) (h3 : hi ≤ 31) : (rangeS lo hi).size ≤ 5 := by
  have a := itoaS_size h0 (show lo ≤ 99 by omega)
  have b := itoaS_size h2 (show hi ≤ 99 by omega)
  unfold rangeS
  split
  · omega
  · rw [size_app, size_app]
    have : dashS.size = 1 := rfl
    omega
theorem textS_size {c : CaseD} (h : caseB c = true) : (textS c).size ≤ 8 := by
  have a := rangeS_size (caseB_low h).1 (caseB_low h).2 (caseB_high h).1 (caseB_high h).2
  have b := itoaS_size (caseB_weight h).1 (caseB_weight h).2
  have t := caseB_target h
  unfold textS
  rw [size_app, size_app]
  omega
theorem fmtTo_size {d : Array CaseD} {rest : Int} (h : SwOK d rest) : ∀ k, k ≤ d.size → (fmtTo d k).size ≤ 9 * k
  | 0, _ => Nat.le_refl 0
  | 1, hk => by have := textS_size (h.case 0 (by omega)); show (textS d[0]!).size ≤ 9; omega
  | k + 2, hk => by
    have a := fmtTo_size h (k + 1) (by omega)
    have b := textS_size (h.case (k + 1) (by omega))
    have : commaS.size = 1 := rfl
    show ((fmtTo d (k + 1) ++ commaS) ++ textS d[k + 1]!).size ≤ _
    rw [size_app, size_app]
    omega

/-! the texts joined -/
theorem joinTail_snoc (sep : List UInt8) (r : List (List UInt8)) (y : List UInt8) : Lib.joinTail sep (r ++ [y]) = Lib.joinTail sep r ++ sep ++ y := by
  simp [Lib.joinTail, List.append_assoc]
def texts (d : Array CaseD) (n : Nat) : List ByteArray := (List.range n).map fun j => textS d[j]!
theorem texts_succ (d : Array CaseD) (n : Nat) : texts d (n + 1) = texts d n ++ [textS d[n]!] := by simp [texts, List.range_succ]
theorem join_texts (d : Array CaseD) : ∀ n, (⟨(Lib.join ((texts d n).map (·.data.toList)) commaS.data.toList).toArray⟩ : ByteArray) = fmtTo d n
  | 0 => rfl
  | 1 => by
    show (⟨(Lib.join [(textS d[0]!).data.toList] commaS.data.toList).toArray⟩ : ByteArray) = textS d[0]!
    rw [Lib.join_one]
  | k + 2 => by
    have ih := join_texts d (k + 1)
    have hne : ∃ x r, (texts d (k + 1)).map (·.data.toList) = x :: r := by
      cases hh : (texts d (k + 1)).map (·.data.toList) with
      | nil => have : ((texts d (k + 1)).map (·.data.toList)).length = 0 := by rw [hh]; rfl
               simp [texts] at this
      | cons x r => exact ⟨x, r, rfl⟩
    obtain ⟨x, r, hx⟩ := hne
    rw [texts_succ, List.map_append, hx, List.map_cons, List.map_nil, List.cons_append, Lib.join_cons, joinTail_snoc, ← List.append_assoc, ← List.append_assoc, ← Lib.join_cons, ← hx]
    show _ = (fmtTo d (k + 1) ++ commaS) ++ textS d[k + 1]!
    rw [← ih]
    generalize Lib.join ((texts d (k + 1)).map (·.data.toList)) commaS.data.toList = l
    apply ByteArray.ext
    simp [ByteArray.data_append]

/-! the text of a case -/
set_option maxHeartbeats 400000 in
theorem rangeT_any (lo hi : Int) (w : World) (h0 : 0 ≤ lo) (h1 : lo ≤ 31) (h2 : 0 ≤ hi) (h3 : hi ≤ 31) : Calls Tryz.prog 59 #[.int .i64 lo, .int .i64 hi] w fun x w' => x = .returned (.string (rangeS lo hi)) ∧ RowKit.Below w.heap.size w w' := by
  have s1 := itoaS_size h0 (show lo ≤ 99 by omega)
  have s2 := itoaS_size h2 (show hi ≤ 99 by omega)
  have d1 := Lib.hid (fun W => itoa_any lo h0 (by omega) W)
  have d2 := Lib.hid (fun W => itoa_any hi h2 (by omega) W)
  clear h0 h1 h2 h3
  by_cases he : lo = hi
  · have HRR := Lib.hid (show rangeS lo hi = itoaS lo by rw [rangeS, if_pos he])
    have hq : (lo == hi) = true := by simp [he]
    clear he
    obtain ⟨x1, hx1⟩ : ∃ x, x = itoaS lo := ⟨_, rfl⟩
    rw [← hx1] at d1 s1 HRR
    clear hx1
    go_enter Tryz.func59, Tryz.ntmps59
    go_wp2_with (go_at_call 84; refine (d1.out _).mono ?_; rintro e w' ⟨rfl, rfl⟩)
    go_ret
    exact ⟨retStr HRR.out.symm, Below.refl _ _⟩
  · have HRR := Lib.hid (show rangeS lo hi = (itoaS lo ++ dashS) ++ itoaS hi by rw [rangeS, if_neg he])
    have hq : (lo == hi) = false := by simp [he]
    clear he
    obtain ⟨x1, hx1⟩ : ∃ x, x = itoaS lo := ⟨_, rfl⟩
    obtain ⟨x2, hx2⟩ : ∃ x, x = itoaS hi := ⟨_, rfl⟩
    rw [← hx1] at d1 s1 HRR
    rw [← hx2] at d2 s2 HRR
    clear hx1 hx2
    go_enter Tryz.func59, Tryz.ntmps59
    go_wp2_with fail
    refine (d1.out _).mono ?_
    rintro e w1 ⟨rfl, rfl⟩
    go_wp2_with fail
    refine (d2.out _).mono ?_
    rintro e w2 ⟨rfl, rfl⟩
    go_wp2
    go_ret
    exact ⟨retStr HRR.out.symm, Below.refl _ _⟩
set_option maxHeartbeats 400000 in
theorem l1Range_any (lo hi : Int) (w : World) (h0 : 0 ≤ lo) (h1 : lo ≤ 31) (h2 : 0 ≤ hi) (h3 : hi ≤ 31) : Calls Tryz.prog 61 #[.int .i64 lo, .int .i64 hi] w fun x w' => x = .returned (.string (rangeS lo hi)) ∧ RowKit.Below w.heap.size w w' := by
  have s1 := itoaS_size h0 (show lo ≤ 99 by omega)
  have s2 := itoaS_size h2 (show hi ≤ 99 by omega)
  have d1 := Lib.hid (fun W => dec_any lo h0 (by omega) W)
  have d2 := Lib.hid (fun W => dec_any hi h2 (by omega) W)
  clear h0 h1 h2 h3
  by_cases he : lo = hi
  · have HRR := Lib.hid (show rangeS lo hi = itoaS lo by rw [rangeS, if_pos he])
    have hq : (lo == hi) = true := by simp [he]
    clear he
    obtain ⟨x1, hx1⟩ : ∃ x, x = itoaS lo := ⟨_, rfl⟩
    rw [← hx1] at d1 s1 HRR
    clear hx1
    go_enter Tryz.func61, Tryz.ntmps61
    go_wp2_with (go_at_call 88; refine (d1.out _).mono ?_; rintro e w' ⟨rfl, hb⟩)
    go_ret
    exact ⟨retStr HRR.out.symm, hb⟩
  · have HRR := Lib.hid (show rangeS lo hi = (itoaS lo ++ dashS) ++ itoaS hi by rw [rangeS, if_neg he])
    have hq : (lo == hi) = false := by simp [he]
    clear he
    obtain ⟨x1, hx1⟩ : ∃ x, x = itoaS lo := ⟨_, rfl⟩
    obtain ⟨x2, hx2⟩ : ∃ x, x = itoaS hi := ⟨_, rfl⟩
    rw [← hx1] at d1 s1 HRR
    rw [← hx2] at d2 s2 HRR
    clear hx1 hx2
    go_enter Tryz.func61, Tryz.ntmps61
    go_wp2_with fail
    refine (d1.out _).mono ?_
    rintro e w1 ⟨rfl, hb1⟩
    go_wp2_with fail
    refine (d2.out _).mono ?_
    rintro e w2 ⟨rfl, hb2⟩
    go_wp2
    go_ret
    exact ⟨retStr HRR.out.symm, hb1.trans (hb2.mono hb1.size)⟩
end Go.Proofs.YtjpcpiffffobcaaGreatDoor
