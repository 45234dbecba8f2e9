
/- The ten known switches. -/
import Derived.Test.YtjmfcnblkojejaaDoorKsParse
namespace Go.Proofs.YtjmfcnblkojejaaDoor
open Go.RowKit Go.Shelf Go.Lib Go.Sort

def itoa2 (n : Int) : ByteArray := if n ≤ 9 then ⟨#[UInt8.ofNat (48 + n).toNat]⟩ else ⟨#[UInt8.ofNat (48 + n / 10).toNat, UInt8.ofNat (48 + n % 10).toNat]⟩
theorem itoa2_eq {n : Int} (h0 : 0 ≤ n) (h1 : n ≤ 99) : itoaS n = itoa2 n := by
  unfold itoa2
  split
  · exact itoaS_one h0 (by omega)
  · exact itoaS_two (by omega) h1
def range2 (lo hi : Int) : ByteArray := if lo = hi then itoa2 lo else (itoa2 lo ++ dashS) ++ itoa2 hi
def text2 (c : CaseD) : ByteArray := (range2 c.low c.high ++ c.target) ++ itoa2 c.weight
def fmt2 (d : Array CaseD) : Nat → ByteArray
  | 0 => ⟨#[]⟩
  | 1 => text2 d[0]!
  | k + 2 => (fmt2 d (k + 1) ++ commaS) ++ text2 d[k + 1]!
def nextB (d : Array CaseD) : Bool := (List.range (d.size - 1)).all fun i => decide (d[i]!.high < d[i + 1]!.low)
def allB (d : Array CaseD) : Bool := (List.range d.size).all fun i => caseB d[i]!
theorem text2_eq {c : CaseD} (h : caseB c = true) : textS c = text2 c := by
  simp only [caseB, keyB, wgtB, Bool.and_eq_true, decide_eq_true_eq] at h
  unfold textS text2 rangeS range2
  rw [itoa2_eq (n := c.low) (by omega) (by omega), itoa2_eq (n := c.high) (by omega) (by omega), itoa2_eq (n := c.weight) (by omega) (by omega)]
theorem known_of (s : ByteArray) (d : Array CaseD) (rest : Int) (h1 : d.size ≤ 8) (h2 : wgtB rest = true) (h3 : allB d = true) (h4 : nextB d = true) (h5 : (fmt2 d d.size ++ semiS) ++ itoa2 rest = s) : ParsesTo s d rest := by
  have hc : ∀ j, j < d.size → caseB d[j]! = true := fun j hj => List.all_eq_true.1 h3 j (List.mem_range.2 hj)
  have hs : SwOK d rest := ⟨h1, h2, hc, fun i hi => of_decide_eq_true (List.all_eq_true.1 h4 i (List.mem_range.2 (by omega)))⟩
  have hf : ∀ n, n ≤ d.size → fmtTo d n = fmt2 d n := by
    intro n
    induction n using fmt2.induct with
    | case1 => intro _; rfl
    | case2 => intro hn; exact text2_eq (hc 0 (by omega))
    | case3 k ih =>
      intro hn
      show (fmtTo d (k + 1) ++ commaS) ++ textS d[k + 1]! = (fmt2 d (k + 1) ++ commaS) ++ text2 d[k + 1]!
      rw [ih (by omega), text2_eq (hc (k + 1) (by omega))]
  refine ⟨hs, ?_⟩
  simp only [wgtB, decide_eq_true_eq] at h2
  rw [fmtN_on hs, hf _ (Nat.le_refl _), itoa2_eq (by omega) (by omega)]
  exact h5

def knownT : Nat → ByteArray
  | 0 => ⟨#[48, 97, 49, 44, 49, 98, 49, 44, 50, 99, 49, 44, 51, 100, 49, 59, 49]⟩
  | 1 => ⟨#[48, 45, 57, 97, 53, 44, 50, 48, 98, 51, 48, 44, 50, 53, 45, 51, 49, 99, 50, 59, 51]⟩
  | 2 => ⟨#[49, 97, 49, 44, 51, 97, 49, 44, 53, 97, 49, 44, 55, 97, 49, 44, 57, 98, 49, 59, 50]⟩
  | 3 => ⟨#[48, 45, 51, 49, 97, 49, 59, 48]⟩
  | 4 => ⟨#[59, 52]⟩
  | 5 => ⟨#[48, 97, 57, 44, 49, 48, 98, 56, 44, 50, 48, 99, 55, 44, 51, 48, 100, 54, 59, 53]⟩
  | 6 => ⟨#[52, 97, 49, 44, 53, 97, 50, 44, 54, 98, 51, 44, 55, 98, 49, 44, 49, 50, 99, 52, 59, 48]⟩
  | 7 => ⟨#[48, 45, 49, 53, 97, 49, 44, 49, 54, 45, 51, 49, 98, 49, 59, 48]⟩
  | 8 => ⟨#[51, 97, 49, 48, 44, 49, 55, 98, 49, 44, 50, 57, 97, 49, 48, 59, 57]⟩
  | _ => ⟨#[50, 97, 49, 44, 51, 98, 49, 44, 52, 97, 49, 44, 53, 98, 49, 44, 54, 97, 49, 44, 50, 48, 99, 49, 44, 50, 56, 100, 49, 44, 51, 48, 100, 49, 59, 49]⟩
theorem known_9 : ∃ d rest, ParsesTo (knownT 9) d rest := ⟨#[⟨2, 2, ⟨#[97]⟩, 1⟩, ⟨3, 3, ⟨#[98]⟩, 1⟩, ⟨4, 4, ⟨#[97]⟩, 1⟩, ⟨5, 5, ⟨#[98]⟩, 1⟩, ⟨6, 6, ⟨#[97]⟩, 1⟩, ⟨20, 20, ⟨#[99]⟩, 1⟩, ⟨28, 28, ⟨#[100]⟩, 1⟩, ⟨30, 30, ⟨#[100]⟩, 1⟩], 1, known_of _ _ _ (by decide) (by decide) (by decide) (by decide) (by decide)⟩
theorem known_ex : ∀ k, ∃ d rest, ParsesTo (knownT k) d rest
  | 0 => ⟨#[⟨0, 0, ⟨#[97]⟩, 1⟩, ⟨1, 1, ⟨#[98]⟩, 1⟩, ⟨2, 2, ⟨#[99]⟩, 1⟩, ⟨3, 3, ⟨#[100]⟩, 1⟩], 1, known_of _ _ _ (by decide) (by decide) (by decide) (by decide) (by decide)⟩
  | 1 => ⟨#[⟨0, 9, ⟨#[97]⟩, 5⟩, ⟨20, 20, ⟨#[98]⟩, 30⟩, ⟨25, 31, ⟨#[99]⟩, 2⟩], 3, known_of _ _ _ (by decide) (by decide) (by decide) (by decide) (by decide)⟩
  | 2 => ⟨#[⟨1, 1, ⟨#[97]⟩, 1⟩, ⟨3, 3, ⟨#[97]⟩, 1⟩, ⟨5, 5, ⟨#[97]⟩, 1⟩, ⟨7, 7, ⟨#[97]⟩, 1⟩, ⟨9, 9, ⟨#[98]⟩, 1⟩], 2, known_of _ _ _ (by decide) (by decide) (by decide) (by decide) (by decide)⟩
  | 3 => ⟨#[⟨0, 31, ⟨#[97]⟩, 1⟩], 0, known_of _ _ _ (by decide) (by decide) (by decide) (by decide) (by decide)⟩
  | 4 => ⟨#[], 4, known_of _ _ _ (by decide) (by decide) (by decide) (by decide) (by decide)⟩
  | 5 => ⟨#[⟨0, 0, ⟨#[97]⟩, 9⟩, ⟨10, 10, ⟨#[98]⟩, 8⟩, ⟨20, 20, ⟨#[99]⟩, 7⟩, ⟨30, 30, ⟨#[100]⟩, 6⟩], 5, known_of _ _ _ (by decide) (by decide) (by decide) (by decide) (by decide)⟩
  | 6 => ⟨#[⟨4, 4, ⟨#[97]⟩, 1⟩, ⟨5, 5, ⟨#[97]⟩, 2⟩, ⟨6, 6, ⟨#[98]⟩, 3⟩, ⟨7, 7, ⟨#[98]⟩, 1⟩, ⟨12, 12, ⟨#[99]⟩, 4⟩], 0, known_of _ _ _ (by decide) (by decide) (by decide) (by decide) (by decide)⟩
  | 7 => ⟨#[⟨0, 15, ⟨#[97]⟩, 1⟩, ⟨16, 31, ⟨#[98]⟩, 1⟩], 0, known_of _ _ _ (by decide) (by decide) (by decide) (by decide) (by decide)⟩
  | 8 => ⟨#[⟨3, 3, ⟨#[97]⟩, 10⟩, ⟨17, 17, ⟨#[98]⟩, 1⟩, ⟨29, 29, ⟨#[97]⟩, 10⟩], 9, known_of _ _ _ (by decide) (by decide) (by decide) (by decide) (by decide)⟩
  | _ + 9 => known_9
theorem knownT_size (k : Nat) : (knownT k).size ≤ 100 := by
  unfold knownT
  split <;> decide
end Go.Proofs.YtjmfcnblkojejaaDoor
