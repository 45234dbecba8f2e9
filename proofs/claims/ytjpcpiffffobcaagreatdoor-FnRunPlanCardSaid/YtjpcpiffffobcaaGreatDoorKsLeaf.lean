
/- The leaves of chapter 1: what isKey, isWeight, ofCase, readTarget, Case.valid, has, meets, width and the model's l1In, l1Case return. -/
import Derived.Test.YtjpcpiffffobcaaGreatDoorRows
import Derived.WalkKit
import Derived.WalkSpells
import Derived.WalkLawsBesides
import Derived.Lib.Hide
import Derived.Deep.QuietTactic
import Derived.BigQuiet
namespace Go.Proofs.YtjpcpiffffobcaaGreatDoor
open Go.RowKit

def keyB (n : Int) : Bool := decide (0 ≤ n ∧ n ≤ 31)
def wgtB (n : Int) : Bool := decide (0 ≤ n ∧ n ≤ 99)
def tgtB (n : Int) : Bool := decide (97 ≤ n ∧ n ≤ 104)
def inB (n a b : Int) : Bool := decide (a ≤ n ∧ n ≤ b)
theorem retB {a b : Bool} (h : a = b) : Ending.returned (.bool a) = .returned (.bool b) := by rw [h]

set_option maxHeartbeats 400000 in
theorem isKey_any (n : Int) (w : World) : Calls Tryz.prog 39 #[.int .i64 n] w fun e w' => e = .returned (.bool (keyB n)) ∧ w = w' := by
  by_cases h : 0 ≤ n
  · by_cases h2 : n ≤ 31
    all_goals
      go_enter Tryz.func39, Tryz.ntmps39
      go_wp2
      go_ret
      exact ⟨retB (by simp [keyB]; omega), rfl⟩
  · go_enter Tryz.func39, Tryz.ntmps39
    go_wp2
    go_ret
    exact ⟨retB (by simp [keyB]; omega), rfl⟩

set_option maxHeartbeats 400000 in
theorem isWeight_any (n : Int) (w : World) : Calls Tryz.prog 75 #[.int .i64 n] w fun e w' => e = .returned (.bool (wgtB n)) ∧ w = w' := by
  by_cases h : 0 ≤ n
  · by_cases h2 : n ≤ 99
    all_goals
      go_enter Tryz.func75, Tryz.ntmps75
      go_wp2
      go_ret
      exact ⟨retB (by simp [wgtB]; omega), rfl⟩
  · go_enter Tryz.func75, Tryz.ntmps75
    go_wp2
    go_ret
    exact ⟨retB (by simp [wgtB]; omega), rfl⟩

set_option maxHeartbeats 400000 in
theorem ofCase_any (n : Int) (w : World) : Calls Tryz.prog 105 #[.int .u8 n] w fun e w' => e = .returned (.bool (tgtB n)) ∧ w = w' := by
  by_cases h : 97 ≤ n
  · by_cases h2 : n ≤ 104
    all_goals
      go_enter Tryz.func105, Tryz.ntmps105
      go_wp2
      go_ret
      exact ⟨retB (by simp [tgtB]; omega), rfl⟩
  · go_enter Tryz.func105, Tryz.ntmps105
    go_wp2
    go_ret
    exact ⟨retB (by simp [tgtB]; omega), rfl⟩

set_option maxHeartbeats 400000 in
theorem l1In_any (n a b : Int) (w : World) : Calls Tryz.prog 35 #[.int .i64 n, .int .i64 a, .int .i64 b] w fun e w' => e = .returned (.bool (inB n a b)) ∧ w = w' := by
  by_cases h : a ≤ n
  · by_cases h2 : n ≤ b
    all_goals
      go_enter Tryz.func35, Tryz.ntmps35
      go_wp2
      go_ret
      exact ⟨retB (by simp [inB]; omega), rfl⟩
  · go_enter Tryz.func35, Tryz.ntmps35
    go_wp2
    go_ret
    exact ⟨retB (by simp [inB]; omega), rfl⟩

/-! readTarget -/
set_option maxHeartbeats 400000 in
theorem readTarget_none (s : ByteArray) (w : World) (T : TypeId) (v : Value) (hE : w.cell? ⟨0, 0, none⟩ = some (.iface T v)) (h0 : s.toList = []) :
    Calls Tryz.prog 92 #[.string s] w fun e w' => e = .returned (.tuple #[.int .u8 0, .string ⟨#[]⟩, .iface T v]) ∧ ∃ n, w' = w.drewN n := by
  go_enter Tryz.func92, Tryz.ntmps92
  go_wp2
  go_quiet (fail)
  go_wp2
  go_ret3
  exact ⟨rfl, _, rfl⟩

set_option maxHeartbeats 400000 in
theorem readTarget_bad (s : ByteArray) (w : World) (T : TypeId) (v : Value) (hE : w.cell? ⟨0, 0, none⟩ = some (.iface T v)) (h0 : s.toList.isEmpty = false) (h1 : 0 < s.size) (hb : tgtB (s[0].toNat) = false) :
    Calls Tryz.prog 92 #[.string s] w fun e w' => e = .returned (.tuple #[.int .u8 0, .string ⟨#[]⟩, .iface T v]) ∧ ∃ n, w' = w.drewN n := by
  go_enter Tryz.func92, Tryz.ntmps92
  go_wp2_with (go_at_call 105; refine (ofCase_any _ _).mono ?_; rintro e w' ⟨rfl, rfl⟩)
  go_quiet (fail)
  go_wp2
  go_ret3
  exact ⟨rfl, _, rfl⟩

set_option maxHeartbeats 400000 in
theorem readTarget_ok (s : ByteArray) (w : World) (h0 : s.toList.isEmpty = false) (h1 : 0 < s.size) (hb : tgtB (s[0].toNat) = true) :
    Calls Tryz.prog 92 #[.string s] w fun e w' => e = .returned (.tuple #[.int .u8 s[0].toNat, .string (s.extract 1 s.size), .nilIface]) ∧ ∃ n, w' = w.drewN n := by
  go_enter Tryz.func92, Tryz.ntmps92
  go_wp2_with (go_at_call 105; refine (ofCase_any _ _).mono ?_; rintro e w' ⟨rfl, rfl⟩)
  go_quiet (fail)
  go_wp2
  go_ret3
  exact ⟨rfl, _, rfl⟩

/-! Case.valid -/
structure CaseD where
  low : Int
  high : Int
  target : ByteArray
  weight : Int
deriving Inhabited
def encC (c : CaseD) : List Value := [.int .i64 c.low, .int .i64 c.high, .string c.target, .int .i64 c.weight]
def aggC (c : CaseD) : Value := .agg #[.int .i64 c.low, .int .i64 c.high, .string c.target, .int .i64 c.weight]
def tg0 (s : ByteArray) : Int := if h : 0 < s.size then (s[0].toNat : Int) else 0
def oneB (s : ByteArray) : Bool := decide (s.size = 1) && tgtB (tg0 s)
def caseB (c : CaseD) : Bool := oneB c.target && keyB c.low && keyB c.high && decide (c.low ≤ c.high) && wgtB c.weight

/-- The error that readTarget hands back lies in its variable. -/
def ErrAt (w : World) : Prop := 0 < w.heap.size ∧ ∃ (T : TypeId) (v : Value), w.cell? ⟨0, 0, none⟩ = some (.iface T v)
theorem ErrAt.below {w w' : World} (h : ErrAt w) (hb : Below w.heap.size w w') : ErrAt w' := by
  obtain ⟨h0, T, v, hc⟩ := h
  exact ⟨Nat.lt_of_lt_of_le h0 hb.size, T, v, by rw [hb.cell (p := ⟨0, 0, none⟩) h0]; exact hc⟩
theorem ErrAt.alloc {w : World} (h : ErrAt w) (o : Obj) : ErrAt (w.alloc o) := h.below ((Below.refl _ _).alloc (Nat.le_refl _) _)
theorem below_drewN {B : Nat} {a w : World} (h : Below B a w) (n : Nat) : Below B a (w.drewN n) := ⟨h.os, h.tape, h.output, h.size, h.block⟩

def ReadErr (s : ByteArray) : Prop := ∀ w : World, ErrAt w → Calls Tryz.prog 92 #[.string s] w fun e w' => (∃ T v, e = .returned (.tuple #[.int .u8 0, .string ⟨#[]⟩, .iface T v])) ∧ ∃ n, w' = w.drewN n

theorem toList_nil {s : ByteArray} (h : s.size = 0) : s.toList = [] := by rw [ByteArray.toList_eq]; exact List.eq_nil_of_length_eq_zero (by simpa using h)
theorem toList_some {s : ByteArray} (h : 0 < s.size) : s.toList.isEmpty = false := by
  rw [ByteArray.toList_eq]
  have hl : 0 < s.data.toList.length := by simpa using h
  generalize s.data.toList = l at hl ⊢
  cases l with
  | nil => exact absurd hl (Nat.lt_irrefl 0)
  | cons a l => rfl
theorem readErr_none (s : ByteArray) (h : s.size = 0) : ReadErr s := fun w ⟨_, T, v, hE⟩ =>
  (readTarget_none s w T v hE (toList_nil h)).mono fun _ _ ⟨h1, h2⟩ => ⟨⟨T, v, h1⟩, h2⟩
theorem readErr_bad (s : ByteArray) (h : 0 < s.size) (hb : tgtB s[0].toNat = false) : ReadErr s := fun w ⟨_, T, v, hE⟩ =>
  (readTarget_bad s w T v hE (toList_some h) h hb).mono fun _ _ ⟨h1, h2⟩ => ⟨⟨T, v, h1⟩, h2⟩
def ReadOk (s : ByteArray) (t : Int) (r : ByteArray) : Prop := ∀ w : World, Calls Tryz.prog 92 #[.string s] w fun e w' => e = .returned (.tuple #[.int .u8 t, .string r, .nilIface]) ∧ ∃ n, w' = w.drewN n
theorem readOk (s : ByteArray) (h : 0 < s.size) (hb : tgtB s[0].toNat = true) : ReadOk s s[0].toNat (s.extract 1 s.size) := fun w => readTarget_ok s w (toList_some h) h hb

set_option maxHeartbeats 400000 in
theorem valid_err (c : CaseD) (w : World) (hr : ReadErr c.target) (hE : ErrAt w) :
    Calls Tryz.prog 76 #[aggC c] w fun e w' => e = .returned (.bool false) ∧ Below w.heap.size w w' := by
  have HR := Lib.hid hr
  have HE := Lib.hid hE
  clear hr hE
  unfold aggC
  go_enter Tryz.func76, Tryz.ntmps76
  go_wp2_with (go_at_call 92; refine (HR.out _ (HE.out.alloc _)).mono ?_; rintro e w' ⟨⟨T, v, rfl⟩, n, rfl⟩)
  go_ret
  exact ⟨rfl, below_drewN ((Below.refl _ _).alloc (Nat.le_refl _) _) _⟩

set_option maxHeartbeats 400000 in
theorem valid_long (c : CaseD) (t : Int) (r : ByteArray) (w : World) (hr : ReadOk c.target t r) (h : r.toList.isEmpty = false) :
    Calls Tryz.prog 76 #[aggC c] w fun e w' => e = .returned (.bool false) ∧ Below w.heap.size w w' := by
  have HR := Lib.hid hr
  clear hr
  unfold aggC
  go_enter Tryz.func76, Tryz.ntmps76
  go_wp2_with (go_at_call 92; refine (HR.out _).mono ?_; rintro e w' ⟨rfl, n, rfl⟩)
  go_ret
  exact ⟨rfl, below_drewN ((Below.refl _ _).alloc (Nat.le_refl _) _) _⟩

set_option maxHeartbeats 400000 in
theorem valid_one (c : CaseD) (t : Int) (r : ByteArray) (w : World) (hr : ReadOk c.target t r) (h : r.toList = []) :
    Calls Tryz.prog 76 #[aggC c] w fun e w' => e = .returned (.bool (keyB c.low && keyB c.high && decide (c.low ≤ c.high) && wgtB c.weight)) ∧ Below w.heap.size w w' := by
  have HR := Lib.hid hr
  clear hr
  unfold aggC
  cases k1 : keyB c.low <;> cases k2 : keyB c.high <;> by_cases k3 : c.low ≤ c.high <;> cases k4 : wgtB c.weight
  all_goals
    go_enter Tryz.func76, Tryz.ntmps76
    go_wp2_with (first
      | (go_at_call 92; refine (HR.out _).mono ?_; rintro e w' ⟨rfl, n, rfl⟩)
      | (go_at_call 39; refine (isKey_any _ _).mono ?_; rintro e w' ⟨rfl, rfl⟩)
      | (go_at_call 75; refine (isWeight_any _ _).mono ?_; rintro e w' ⟨rfl, rfl⟩))
    go_ret
    exact ⟨retB (by simp [*]), below_drewN ((Below.refl _ _).alloc (Nat.le_refl _) _) _⟩

theorem size_tail (s : ByteArray) : (s.extract 1 s.size).size = s.size - 1 := by simp [ByteArray.size_extract]
theorem valid_any (c : CaseD) (w : World) (hE : ErrAt w) :
    Calls Tryz.prog 76 #[aggC c] w fun e w' => e = .returned (.bool (caseB c)) ∧ Below w.heap.size w w' := by
  by_cases h0 : c.target.size = 0
  · refine (valid_err c w (readErr_none _ h0) hE).mono fun _ _ ⟨h, hb⟩ => ⟨h.trans (retB ?_), hb⟩
    simp [caseB, oneB, h0]
  · have h1 : 0 < c.target.size := by omega
    cases ht : tgtB c.target[0].toNat with
    | false =>
      refine (valid_err c w (readErr_bad _ h1 ht) hE).mono fun _ _ ⟨h, hb⟩ => ⟨h.trans (retB ?_), hb⟩
      simp [caseB, oneB, tg0, h1, ht]
    | true =>
      by_cases h2 : c.target.size = 1
      · refine (valid_one c _ _ w (readOk _ h1 ht) (toList_nil (by rw [size_tail]; omega))).mono fun _ _ ⟨h, hb⟩ => ⟨h.trans (retB ?_), hb⟩
        simp [caseB, oneB, tg0, ht, h2]
      · refine (valid_long c _ _ w (readOk _ h1 ht) (toList_some (by rw [size_tail]; omega))).mono fun _ _ ⟨h, hb⟩ => ⟨h.trans (retB ?_), hb⟩
        simp [caseB, oneB, h2]

/-! has, meets, width -/
def hasB (c : CaseD) (k : Int) : Bool := decide (c.low ≤ k ∧ k ≤ c.high)
def meetB (c d : CaseD) : Bool := decide (c.low ≤ d.high ∧ d.low ≤ c.high)
set_option maxHeartbeats 400000 in
theorem has_any (c : CaseD) (k : Int) (w : World) : Calls Tryz.prog 44 #[aggC c, .int .i64 k] w fun e w' => e = .returned (.bool (hasB c k)) ∧ Below w.heap.size w w' := by
  unfold aggC
  by_cases h : c.low ≤ k
  · by_cases h2 : k ≤ c.high
    all_goals
      go_enter Tryz.func44, Tryz.ntmps44
      go_wp2
      go_ret
      exact ⟨retB (by simp [hasB]; omega), (Below.refl _ _).alloc (Nat.le_refl _) _⟩
  · go_enter Tryz.func44, Tryz.ntmps44
    go_wp2
    go_ret
    exact ⟨retB (by simp [hasB]; omega), (Below.refl _ _).alloc (Nat.le_refl _) _⟩
set_option maxHeartbeats 400000 in
theorem meets_any (c d : CaseD) (w : World) : Calls Tryz.prog 98 #[aggC c, aggC d] w fun e w' => e = .returned (.bool (meetB c d)) ∧ Below w.heap.size w w' := by
  unfold aggC
  by_cases h : c.low ≤ d.high
  · by_cases h2 : d.low ≤ c.high
    all_goals
      go_enter Tryz.func98, Tryz.ntmps98
      go_wp2
      go_ret
      exact ⟨retB (by simp [meetB]; omega), ((Below.refl _ _).alloc (Nat.le_refl _) _).alloc (by simp) _⟩
  · go_enter Tryz.func98, Tryz.ntmps98
    go_wp2
    go_ret
    exact ⟨retB (by simp [meetB]; omega), ((Below.refl _ _).alloc (Nat.le_refl _) _).alloc (by simp) _⟩
set_option maxHeartbeats 400000 in
theorem width_any (c : CaseD) (w : World) (h0 : 0 ≤ c.low) (h1 : c.low ≤ 31) (h2 : 0 ≤ c.high) (h3 : c.high ≤ 31) : Calls Tryz.prog 154 #[aggC c] w fun e w' => e = .returned (.int .i64 (c.high - c.low + 1)) ∧ Below w.heap.size w w' := by
  unfold aggC
  go_enter Tryz.func154, Tryz.ntmps154
  go_wp2
  go_ret
  exact ⟨rfl, (Below.refl _ _).alloc (Nat.le_refl _) _⟩

/-! the model's l1Case -/
set_option maxHeartbeats 400000 in
theorem l1Case_not (c : CaseD) (w : World) (_hs : ((c.target.size : Int) == 1) = false) :
    Calls Tryz.prog 80 #[aggC c] w fun e w' => e = .returned (.bool false) ∧ Below w.heap.size w w' := by
  unfold aggC
  cases k1 : inB c.low 0 c.high <;> cases k2 : inB c.high 0 31
  all_goals
    go_enter Tryz.func80, Tryz.ntmps80
    go_wp2_with (go_at_call 35; refine (l1In_any _ _ _ _).mono ?_; rintro e w' ⟨rfl, rfl⟩)
    go_ret
    exact ⟨rfl, (Below.refl _ _).alloc (Nat.le_refl _) _⟩
set_option maxHeartbeats 400000 in
theorem l1Case_one (c : CaseD) (w : World) (h1 : 0 < c.target.size) (_hs : ((c.target.size : Int) == 1) = true) :
    Calls Tryz.prog 80 #[aggC c] w fun e w' => e = .returned (.bool (inB c.low 0 c.high && inB c.high 0 31 && inB c.target[0].toNat 97 104 && inB c.weight 0 99)) ∧ Below w.heap.size w w' := by
  have hb : (c.target[0].toNat : Int) ≤ 255 := by have := c.target[0].toNat_lt; omega
  unfold aggC
  cases k1 : inB c.low 0 c.high <;> cases k2 : inB c.high 0 31 <;> cases k3 : inB c.target[0].toNat 97 104 <;> cases k4 : inB c.weight 0 99
  all_goals
    go_enter Tryz.func80, Tryz.ntmps80
    go_wp2_with (go_at_call 35; refine (l1In_any _ _ _ _).mono ?_; rintro e w' ⟨rfl, rfl⟩)
    go_ret
    exact ⟨rfl, (Below.refl _ _).alloc (Nat.le_refl _) _⟩
theorem l1Case_any (c : CaseD) (w : World) : Calls Tryz.prog 80 #[aggC c] w fun e w' => e = .returned (.bool (caseB c)) ∧ Below w.heap.size w w' := by
  by_cases h1 : c.target.size = 1
  · refine (l1Case_one c w (by omega) (by simp [h1])).mono fun _ _ ⟨h, hb⟩ => ⟨h.trans (retB ?_), hb⟩
    simp only [caseB, oneB, tg0, h1, keyB, wgtB, inB, tgtB]
    rw [Bool.eq_iff_iff]
    simp
    omega
  · refine (l1Case_not c w (by simpa using (by omega : ¬ (c.target.size : Int) = 1))).mono fun _ _ ⟨h, hb⟩ => ⟨h.trans (retB ?_), hb⟩
    simp [caseB, oneB, h1]
end Go.Proofs.YtjpcpiffffobcaaGreatDoor
