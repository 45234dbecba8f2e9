
/- A row of 32 bytes: its cells, and a block that is one. No walk. · The row of all keys' targets, plain: what filling it segment by segment makes of it; tables; how many keys of a range have a case. No walk. · The row of a switch's targets: rowOf of the program. -/
import Derived.Test.YtmhloojnekjfhaaDoorRows
import Derived.WalkKit
import Derived.WalkSpells
import Derived.WalkLawsBesides
import Derived.Lib.Hide
import Derived.Deep.WholeRow
import Derived.Laws.BytesArg
import Derived.Test.YtmhloojnekjfhaaDoorKsSegP
import Derived.Test.YtmhloojnekjfhaaDoorKsKeyP
import Derived.Test.YtmhloojnekjfhaaDoorKsFlow
import Derived.Laws.CopyOwn
namespace Go.Proofs.YtmhloojnekjfhaaDoor
open Go.RowKit

/-- The cells of a row. -/
def rowA (f : Nat → Int) : Array Value := ((List.range 32).map fun i => Value.int .u8 (f i)).toArray
theorem rowA_size (f : Nat → Int) : (rowA f).size = 32 := by simp [rowA]
theorem rowA_get (f : Nat → Int) {i : Nat} (h : i < 32) : (rowA f)[i]? = some (.int .u8 (f i)) := by simp [rowA, h]
theorem rowA_congr {f g : Nat → Int} (h : ∀ i, i < 32 → f i = g i) : rowA f = rowA g := by
  unfold rowA
  congr 1
  exact List.map_congr_left fun i hi => by rw [h i (List.mem_range.1 hi)]
theorem rowA_set (f : Nat → Int) (k : Nat) (z : Int) : (rowA f).setIfInBounds k (.int .u8 z) = rowA (fun i => if i = k then z else f i) := by
  apply Array.ext_getElem?
  intro i
  rw [Array.getElem?_setIfInBounds]
  by_cases hi : i < 32
  · rw [rowA_get _ hi, rowA_get _ hi]
    by_cases e : k = i
    · subst e; simp [rowA_size, hi]
    · have e' : ¬ i = k := fun x => e x.symm
      simp [e, e']
  · have e1 : (rowA f)[i]? = none := Array.getElem?_eq_none (by rw [rowA_size]; omega)
    have e2 : (rowA (fun i => if i = k then z else f i))[i]? = none := Array.getElem?_eq_none (by rw [rowA_size]; omega)
    rw [e1, e2, rowA_size]
    split
    · next e => rw [if_neg (by omega)]
    · rfl
theorem rowA_one (f : Nat → Int) : (rowA f).all (·.oneCell') = true := by
  rw [Array.all_eq_true_iff_forall_mem]
  intro v hv
  simp only [rowA, List.mem_toArray, List.mem_map, List.mem_range] at hv
  obtain ⟨i, _, rfl⟩ := hv
  rfl

/-- Block R is a row of targets. -/
def RowU (W : World) (R : Nat) (f : Nat → Int) : Prop := W.heap[R]? = some (.cells (rowA f) 60 (0, 0))
theorem RowU.lt {W : World} {R : Nat} {f : Nat → Int} (h : RowU W R f) : R < W.heap.size := (Array.getElem?_eq_some_iff.1 h).1
theorem RowU.cell {W : World} {R : Nat} {f : Nat → Int} (h : RowU W R f) {k : Nat} (hk : k < 32) : W.cell? ⟨R, k, none⟩ = some (.int .u8 (f k)) := (cell_of_row W R k _ _ _ h).trans (rowA_get f hk)
theorem RowU.frozen {W : World} {R : Nat} {f : Nat → Int} (h : RowU W R f) (k : Nat) : W.frozen? ⟨R, k, none⟩ = false := frozen_of_row W R k _ _ h
theorem RowU.kept {W W' : World} {row : Option Nat} {R : Nat} {f : Nat → Int} (h : RowU W R f) (hg : W.grownBy W' row) (hne : some R ≠ row) : RowU W' R f := (hg.block R h.lt hne).trans h
theorem RowU.alloc {W : World} {R : Nat} {f : Nat → Int} (h : RowU W R f) (o : Obj) : RowU (W.alloc o) R f := h.kept (World.grownBy_alloc W o none) (by simp)
theorem RowU.below {W W' : World} {R : Nat} {f : Nat → Int} (h : RowU W R f) (hb : RowKit.Below W.heap.size W W') : RowU W' R f := (hb.block R h.lt).trans h
theorem RowU.set {W : World} {R : Nat} {f : Nat → Int} (h : RowU W R f) (k : Nat) (z : Int) : RowU (W.setCell ⟨R, k, none⟩ (.int .u8 z)) R (fun i => if i = k then z else f i) := by
  unfold RowU
  rw [heap_setCell_same W R k _ _ _ h, rowA_set]
theorem RowU.congr {W : World} {R : Nat} {f g : Nat → Int} (h : RowU W R f) (e : ∀ i, i < 32 → f i = g i) : RowU W R g := by
  unfold RowU at h ⊢
  rw [h, rowA_congr e]
theorem grownBy_setCellK (w : World) (b i : Nat) (v : Value) : w.grownBy (w.setCell ⟨b, i, none⟩ v) (some b) :=
  ⟨rfl, rfl, rfl, by simp, fun k _ hne => heap_setCell_other w ⟨b, i, none⟩ k v (fun e => hne (by rw [e]))⟩
theorem infoRow : (Tryd.prog.info? 60).map (·.size) = some 32 := by kernel_rfl
theorem infoRowA (f : Nat → Int) : (Tryd.prog.info? 60).map (·.size) = some (rowA f).size := by rw [rowA_size]; exact infoRow
theorem grownBy_same (w : World) (row : Option Nat) : w.grownBy w row := ⟨rfl, rfl, rfl, Nat.le_refl _, fun _ _ _ => rfl⟩
theorem zero_row : rowA (fun _ => 0) = #[.int .u8 0, .int .u8 0, .int .u8 0, .int .u8 0, .int .u8 0, .int .u8 0, .int .u8 0, .int .u8 0, .int .u8 0, .int .u8 0, .int .u8 0, .int .u8 0, .int .u8 0, .int .u8 0, .int .u8 0, .int .u8 0, .int .u8 0, .int .u8 0, .int .u8 0, .int .u8 0, .int .u8 0, .int .u8 0, .int .u8 0, .int .u8 0, .int .u8 0, .int .u8 0, .int .u8 0, .int .u8 0, .int .u8 0, .int .u8 0, .int .u8 0, .int .u8 0] := rfl

theorem arrRow : Tryd.prog.underlying 60 = some (.array (Tryd.prog.arrayLen 60) (Tryd.prog.elem 60)) := by kernel_rfl
theorem lenRow : Tryd.prog.arrayLen 60 = 32 := by kernel_rfl
theorem elemRow : Tryd.prog.elem 60 = 58 := by kernel_rfl
theorem slice_row (g ln n : Nat) (h : ln + n ≤ 32) (hn : 0 < n) (z : Int) (hz : z = (ln : Int) + n) (W : World) :
    Sem.run Tryd.prog (Instr.sliceAt 60 (.pointer (some ⟨g, 0, none⟩)) (some (.int .i64 ln)) (some (.int .i64 z)) none) W = .ok (.slice (some ⟨g, ln, none⟩) n (32 - ln)) W := by
  rw [run_sliceAt_array_lh W 60 _ arrRow .i64 .i64 ln z (by omega) (by omega) (by rw [lenRow]; omega), elemRow, Tryd.sizeOf58]
  have e1 : ¬ 32 = ln := by omega
  have e2 : z.toNat - ln = n := by omega
  simp [slicedAt, lenRow, Result.andThen, Addr.add, e1, e2]
  exact fun e => e.symm
theorem index_row (f : Nat → Int) {k : Nat} (h : k < 32) (W : World) : Sem.run Tryd.prog (Instr.index 60 (.agg (rowA f)) (.int .i64 k)) W = .ok (.int .u8 (f k)) W := by
  have hg := rowA_get f h
  have hk : (k : Int) < 32 := by omega
  simp [Instr.index, run_underlying Tryd.underlying60, asIntOf, part, Tryd.sizeOf58, Tryd.isAgg58, hg, Result.andThen]
  omega
end Go.Proofs.YtmhloojnekjfhaaDoor

namespace Go.Proofs.YtmhloojnekjfhaaDoor
open Go.RowKit Go.Shelf Go.Lib Go.Sort

/-- A row behind one segment. -/
def fillR (f : Nat → Int) (c : CaseD) : Nat → Int := fun i => if c.low ≤ (i : Int) ∧ (i : Int) ≤ c.high then tg0 c.target else f i
def fillL (l : List CaseD) : Nat → Int := l.foldl fillR (fun _ => 0)
theorem fillL_snoc (l : List CaseD) (c : CaseD) : fillL (l ++ [c]) = fillR (fillL l) c := by simp [fillL]
theorem fillL_hit (i : Nat) (z : Int) : ∀ (l : List CaseD) (f : Nat → Int), (∀ c ∈ l, (c.low ≤ (i : Int) ∧ (i : Int) ≤ c.high) → tg0 c.target = z) → (f i = z ∨ ∃ c ∈ l, c.low ≤ (i : Int) ∧ (i : Int) ≤ c.high) → l.foldl fillR f i = z
  | [], f, _, h2 => by
    rcases h2 with h | ⟨c, hc, _⟩
    · exact h
    · cases hc
  | c :: l, f, h1, h2 => by
    refine fillL_hit i z l (fillR f c) (fun x hx => h1 x (List.mem_cons_of_mem _ hx)) ?_
    by_cases hc : c.low ≤ (i : Int) ∧ (i : Int) ≤ c.high
    · exact .inl (by rw [fillR, if_pos hc]; exact h1 c (List.mem_cons_self ..) hc)
    · rcases h2 with h | ⟨x, hx, hh⟩
      · exact .inl (by rw [fillR, if_neg hc]; exact h)
      · rcases List.mem_cons.1 hx with e | e
        · subst e; exact absurd hh hc
        · exact .inr ⟨x, e, hh⟩
theorem cont_has (i : Int) : ∀ (l : List CaseD) (a : Int), contL a l → a ≤ i → i < endL a l → ∃ c ∈ l, c.low ≤ i ∧ i ≤ c.high
  | [], a, _, h1, h2 => by simp only [endL] at h2; omega
  | c :: l, a, h0, h1, h2 => by
    by_cases h : i ≤ c.high
    · exact ⟨c, List.mem_cons_self .., by have := h0.1; omega, h⟩
    · obtain ⟨x, hx, hh⟩ := cont_has i l (c.high + 1) h0.2.2 (by omega) h2
      exact ⟨x, List.mem_cons_of_mem _ hx, hh⟩
theorem fill_go {d : Array CaseD} {rest : Int} (h : SwOK d rest) {i : Nat} (hi : i < 32) : fillL (segs d rest) i = goB d i := by
  refine fillL_hit i _ _ _ (fun c hc hh => ?_) (.inr ?_)
  · rw [goB, segs_target h c hc (by simpa [hasB] using hh)]
  · have := segs_cont h
    exact cont_has (i : Int) _ 0 this.1 (by omega) (by rw [this.2]; omega)

/-- The table of n keys from low on. -/
def tabL (d : Array CaseD) (lo n : Nat) : List UInt8 := (List.range n).map fun i => UInt8.ofNat (goB d (lo + i)).toNat
def tabS (d : Array CaseD) (lo n : Nat) : ByteArray := ⟨(tabL d lo n).toArray⟩
theorem tabS_zero (d : Array CaseD) (lo : Nat) : tabS d lo 0 = ⟨#[]⟩ := rfl
theorem tabS_succ {d : Array CaseD} {rest : Int} (h : SwOK d rest) (lo n : Nat) : tabS d lo (n + 1) = tabS d lo n ++ goesN d ((lo + n : Nat) : Int) := by
  rw [goesN_byte h]
  apply ByteArray.ext
  rw [ByteArray.data_append]
  simp [tabS, tabL, List.range_succ]
theorem tabS_size (d : Array CaseD) (lo n : Nat) : (tabS d lo n).size = n := by
  show (tabL d lo n).toArray.size = n
  simp [tabL]

def rangeB (lo hi : Int) : Bool := keyB lo && keyB hi && decide (lo ≤ hi)
theorem rangeB_iff (lo hi : Int) : rangeB lo hi = true ↔ 0 ≤ lo ∧ lo ≤ hi ∧ hi ≤ 31 := by
  simp only [rangeB, keyB, Bool.and_eq_true, decide_eq_true_eq]
  omega
noncomputable def tabB (d : Array CaseD) (rest lo hi : Int) : Bool := swB d rest && rangeB lo hi
noncomputable def tabN (d : Array CaseD) (rest lo hi : Int) : ByteArray := if tabB d rest lo hi = true then tabS d lo.toNat (hi - lo + 1).toNat else ⟨#[]⟩

/-! how many keys of a range have a case -/
theorem cntK_add (p : Nat → Bool) (a : Nat) : ∀ n, cntK p (a + n) = cntK p a + cntK (fun i => p (a + i)) n
  | 0 => by simp [cntK]
  | n + 1 => by
    have ih := cntK_add p a n
    have e : a + (n + 1) = (a + n) + 1 := by omega
    rw [e]
    simp only [cntK]
    rw [ih]
    omega
theorem tgt_cov {d : Array CaseD} {rest : Int} (h : SwOK d rest) (i : Nat) : tgtB (goB d i) = covB d i := by
  unfold covB
  rcases atN_cases d (i : Int) with ⟨k, h1, h2, _, _⟩ | ⟨h1, _⟩
  · rw [goB_hit h2, h2]
    have hl : 97 ≤ tgJ d k ∧ tgJ d k ≤ 104 := caseB_letter (h.case k h1)
    generalize tgJ d k = z at hl ⊢
    have e1 : tgtB z = true := by simp only [tgtB, decide_eq_true_eq]; exact hl
    have e2 : decide (0 ≤ (k : Int)) = true := by simp
    rw [e1, e2]
  · rw [goB_miss h1, h1]
    rfl
/-- Of n keys from lo on, how many of a hundred have a case. -/
def densZ (d : Array CaseD) (lo n : Nat) : Int := 100 * cntK (fun i => covB d (lo + i)) n / n
theorem cntK_diff (d : Array CaseD) (lo n : Nat) : cntK (covB d) (lo + n) - cntK (covB d) lo = cntK (fun i => covB d (lo + i)) n := by
  have := cntK_add (covB d) lo n
  omega
noncomputable def densN (d : Array CaseD) (rest lo hi : Int) : Int := if tabB d rest lo hi = true then densZ d lo.toNat (hi - lo + 1).toNat else -1
theorem densZ_bound (d : Array CaseD) (lo n : Nat) : 0 ≤ densZ d lo n ∧ densZ d lo n ≤ 100 := by
  have h := cntK_le (fun i => covB d (lo + i)) n
  unfold densZ
  by_cases hn : n = 0
  · subst hn; simp
  · constructor
    · exact Int.ediv_nonneg (by omega) (by omega)
    · have hp : (0 : Int) < (n : Int) := by omega
      have := Int.ediv_le_ediv hp (show 100 * cntK (fun i => covB d (lo + i)) n ≤ 100 * (n : Int) by omega)
      rw [Int.mul_ediv_cancel _ (by omega)] at this
      exact this
end Go.Proofs.YtmhloojnekjfhaaDoor

namespace Go.Proofs.YtmhloojnekjfhaaDoor
open Go.RowKit Go.Shelf Go.Lib Go.Sort

attribute [local go_sem] Oper.semAt_some

theorem rowU_own (R : Nat) : Own (fun (f : Nat → Int) W => RowU W R f) := fun f X Y row hs hg hrow =>
  hs.kept hg (fun e' => by obtain ⟨o, ho, hc⟩ := hrow R e'.symm; rw [show X.heap[R]? = _ from hs] at ho; cases ho; cases hc)
theorem KpX.setU {X : Nat} {W : World} {f : Nat → Int} (hb : RowU W X f) (k : Nat) (z : Int) : KpX X W (W.setCell ⟨X, k, none⟩ (.int .u8 z)) := by
  have hg := grownBy_setCellK W X k (.int .u8 z)
  have hp : ∀ j, ¬ Pts (W.setCell ⟨X, k, none⟩ (.int .u8 z)) X j := by
    rintro j ⟨v, hv, hj⟩
    rw [(hb.set k z).cell (by decide)] at hv
    cases hv
    cases hj
  exact ⟨hg.size, fun i o hi _ hx _ => (hg.block i (Array.getElem?_eq_some_iff.1 hi).1 (by simp [hx])).trans hi, fun j hj => absurd hj (hp j), fun _ j hj => absurd hj (hp j)⟩

theorem wpListIn_load_row {F : Fence} {n : Nat} {P : Program} {ops : Array Oper} {rest : List Oper} {o : Oper} {a : Act} {w : World} {Q : Exit → Act → World → Prop} (hgd : o.guard = none) (ty : TypeId) (x : Operand) (ho : o.op = .load ty x)
    (g : Nat) (hx : a.eval x = .pointer (some ⟨g, 0, none⟩)) (t : TypeId) (cs : Array Value) (fr : Nat × Nat) (d : TypeDesc) (hg : w.heap[g]? = some (.cells cs t fr))
    (hu : P.underlying ty = some d) (hd : (match d with | .struct _ | .array _ _ => true | _ => false) = true) (hi : (P.info? ty).map (·.size) = some cs.size)
    (h : wpListIn F n P ops Q rest (a.put o.dst (.agg cs)) w) : wpListIn F n P ops Q (o :: rest) a w := by
  refine wpListIn_plain hgd fun K hK' => ?_
  unfold Oper.wpIn
  refine ⟨?_, ?_⟩
  · simp [Oper.about, ho]
  · rw [Oper.semAt_plain F _ _ (by rw [ho]; intro c hc'; cases hc')]
    simp [execOp, ho, hx, Instr.loadAt, Instr.sureAddr, Result.andThen, run_loadVar_row w g t ty cs fr d hg hu hd hi]
    exact hK' _ _ h
theorem wpListIn_store_row {F : Fence} {n : Nat} {P : Program} {ops : Array Oper} {rest : List Oper} {o : Oper} {a : Act} {w : World} {Q : Exit → Act → World → Prop} (hgd : o.guard = none) (ty : TypeId) (x y : Operand) (ho : o.op = .store ty x y)
    (g : Nat) (cells : Array Value) (hx : a.eval x = .pointer (some ⟨g, 0, none⟩)) (hy : a.eval y = .agg cells)
    (t : TypeId) (old : Array Value) (hg : w.heap[g]? = some (.cells old t (0, 0))) (hi : (P.info? ty).map (·.size) = some cells.size)
    (hold : old.size = cells.size) (h1 : cells.all (·.oneCell') = true)
    (h : wpListIn F n P ops Q rest (a.put o.dst undef) (w.setRow g cells)) : wpListIn F n P ops Q (o :: rest) a w := by
  refine wpListIn_plain hgd fun K hK' => ?_
  unfold Oper.wpIn
  refine ⟨?_, ?_⟩
  · simp [Oper.about, ho]
  · rw [Oper.semAt_plain F _ _ (by rw [ho]; intro c hc'; cases hc')]
    simp [execOp, ho, hx, hy, Instr.storeAt, Instr.sureAddr, Result.andThen, run_storeVar_row w g t ty old cells hg hi hold h1]
    exact hK' _ _ h
def partR (f : Nat → Int) (lo k : Nat) (z : Int) : Nat → Int := fun i => if lo ≤ i ∧ i < k then z else f i
theorem partR_zero (f : Nat → Int) (lo : Nat) (z : Int) : partR f lo lo z = f := by
  funext i
  rw [partR, if_neg (by omega)]
theorem partR_succ (f : Nat → Int) {lo k : Nat} (h : lo ≤ k) (z : Int) : (fun i => if i = k then z else partR f lo k z i) = partR f lo (k + 1) z := by
  funext i
  unfold partR
  by_cases e : i = k
  · rw [if_pos e, if_pos (by omega)]
  · rw [if_neg e]
    by_cases h2 : lo ≤ i ∧ i < k
    · rw [if_pos h2, if_pos (by omega)]
    · rw [if_neg h2, if_neg (by omega)]
theorem partR_full (f : Nat → Int) (c : CaseD) (lo hi : Nat) (h1 : c.low = lo) (h2 : c.high = hi) : partR f lo (hi + 1) (tg0 c.target) = fillR f c := by
  funext i
  unfold partR fillR
  by_cases h : lo ≤ i ∧ i < hi + 1
  · rw [if_pos h, if_pos (by omega)]
  · rw [if_neg h, if_neg (by omega)]
theorem tg0_pos {s : ByteArray} (h : 0 < s.size) : tg0 s = (s[0].toNat : Int) := by rw [tg0, dif_pos h]
theorem rowX_cells {X : Nat} {W : World} {f : Nat → Int} (h : RowU W X f) : ∀ (j : Nat) (o : Obj), some X = some j → W.heap[j]? = some o → o.isCells = true := fun j o e ho => by
  cases e
  rw [show W.heap[X]? = _ from h] at ho
  cases ho
  rfl

set_option maxRecDepth 100000 in
set_option maxHeartbeats 2000000 in
theorem implRow_any (b off cap : Nat) (d : Array CaseD) (rest : Int) (w : World) (hR : RowC w b off d) (hok : SwOK d rest) :
    Calls Tryd.prog 35 #[.agg #[.slice (some ⟨b, off, none⟩) d.size cap, .int .i64 rest]] w fun x w' => x = .returned (.agg (rowA (goB d))) ∧ RowKit.Below w.heap.size w w' := by
  have HR := Lib.hid hR
  have HO := Lib.hid hok
  clear hR hok
  refine (callsIn_wide (n := 5)).1 ?_
  refine callsIn_of_wp_marks Tryd.func35 rfl trivial ?_ rfl
  simp only [Tryd.ntmps35, List.size_toArray, List.length_cons, List.length_nil, Nat.reduceAdd, Nat.reduceSub, Array.replicate_succ, Array.replicate_zero, List.push_toArray, List.append_toArray, List.nil_append, List.cons_append]
  gi_wp2_with fail
  refine ⟨trivial, ?_⟩
  refine (callsIn_wide.2 (segmentsIn_any (some ⟨b, off, none⟩) d.size cap rest _)).mono ?_
  rintro e w2 ⟨rfl, rfl⟩
  gi_wp2_with fail
  rw [← zero_row]
  obtain ⟨W0, hW0⟩ : ∃ W0, W0 = (((w.alloc (.cells #[.slice (some ⟨b, off, none⟩) d.size cap, .int .i64 rest] 25)).alloc (.cells (rowA fun _ => 0) 60)).alloc (.cells (rowA fun _ => 0) 60)).alloc (.cells #[.slice (some ⟨b, off, none⟩) d.size cap, .int .i64 rest] 25) := ⟨_, rfl⟩
  have e0 : W0.cell? ⟨w.heap.size + 1 + 1 + 1, 0, none⟩ = some (.slice (some ⟨b, off, none⟩) d.size cap) := by rw [hW0]; simp [go_sem]
  have e1 : W0.cell? ⟨w.heap.size + 1 + 1 + 1, 1, none⟩ = some (.int .i64 rest) := by rw [hW0]; simp [go_sem]
  have hY : RowU W0 (w.heap.size + 1) (fun _ => 0) := by
    have h1 : RowU ((w.alloc (.cells #[.slice (some ⟨b, off, none⟩) d.size cap, .int .i64 rest] 25)).alloc (.cells (rowA fun _ => 0) 60)) (w.heap.size + 1) (fun _ => 0) := by
      have := World.alloc_heap_new (w.alloc (.cells #[.slice (some ⟨b, off, none⟩) d.size cap, .int .i64 rest] 25)) (.cells (rowA fun _ => 0) 60)
      simpa [RowU] using this
    rw [hW0]
    exact (h1.alloc _).alloc _
  have hX : RowU W0 (w.heap.size + 1 + 1) (fun _ => 0) := by
    have h1 : RowU (((w.alloc (.cells #[.slice (some ⟨b, off, none⟩) d.size cap, .int .i64 rest] 25)).alloc (.cells (rowA fun _ => 0) 60)).alloc (.cells (rowA fun _ => 0) 60)) (w.heap.size + 1 + 1) (fun _ => 0) := by
      have := World.alloc_heap_new ((w.alloc (.cells #[.slice (some ⟨b, off, none⟩) d.size cap, .int .i64 rest] 25)).alloc (.cells (rowA fun _ => 0) 60)) (.cells (rowA fun _ => 0) 60)
      simpa [RowU] using this
    rw [hW0]
    exact h1.alloc _
  have hsz : W0.heap.size = w.heap.size + 1 + 1 + 1 + 1 := by rw [hW0]; simp
  have hB0 : RowKit.Below w.heap.size w W0 := by rw [hW0]; exact ((((Below.refl _ _).alloc (Nat.le_refl _) _).alloc (by simp) _).alloc (by simp; omega) _).alloc (by simp; omega) _
  rw [← hW0]
  clear hW0
  have hRW := HR.out.below hB0
  have hbl := HR.out.old
  have hnp : ∀ j, ¬ Pts W0 (w.heap.size + 1 + 1) j := fun j ⟨u, hu, hj⟩ => by rw [hX.cell (by decide)] at hu; cases hu; cases hj
  have hx0 : w.heap.size + 1 + 1 < W0.heap.size := by omega
  have hseq := segIn_stops 4 (w.heap.size + 1 + 1) (w.heap.size + 1 + 1 + 1) b off cap d rest W0 (by decide) HO.out e0 e1 hRW hx0 (by omega) (by omega) (by omega) hnp
  have HSEQ := Lib.hid hseq
  have HB0 := Lib.hid hB0
  clear hseq hRW hnp e0 e1 hB0
  refine wpIn_rangeFunc_ownH rfl (by decide) (gf := 91) (lb := #[.pointer (some ⟨w.heap.size + 1 + 1 + 1, 0, none⟩)]) rfl trivial (enters_of Tryd.func91 (by kernel_rfl) rfl)
    HSEQ.out KpX.trans (kpX_b hx0) (Below.refl _ _) (fun _ => rfl)
    (fun pre W => RowU W (w.heap.size + 1 + 1) (fillL (vals pre)) ∧ RowU W (w.heap.size + 1) (fun _ => 0) ∧ RowKit.Below w.heap.size w W)
    (fun _ _ _ => False)
    (OwnFrom.and (Own.from (fun s X Y row hs hg hr => rowU_own (w.heap.size + 1 + 1) (fillL (vals s)) X Y row hs hg hr) _) (OwnFrom.and (Own.from (fun s X Y row hs hg hr => rowU_own (w.heap.size + 1) (fun _ => 0) X Y row hs hg hr) _) (ownFrom_below (Nat.le_refl _) (by omega))))
    (fun _ _ _ _ _ hs _ _ => hs)
    ⟨hX, hY, HB0.out⟩
    (fun x a' W => ∃ Bx, w.heap.size + 1 + 1 < Bx ∧ Box4 W Bx x.1 ∧ a' = { tmps := #[.agg #[.slice (some ⟨b, off, none⟩) d.size cap, .int .i64 rest], .pointer (some ⟨w.heap.size, 0, none⟩), .pointer (some ⟨w.heap.size + 1, 0, none⟩), .pointer (some ⟨w.heap.size + 1 + 1, 0, none⟩), .pointer (some ⟨Bx, 0, none⟩), undef, .agg #[.slice (some ⟨b, off, none⟩) d.size cap, .int .i64 rest], .func (.func 91) #[] #[.pointer (some ⟨w.heap.size + 1 + 1 + 1, 0, none⟩)], .agg #[.int .i64 x.1.low, .int .i64 x.1.high, .string x.1.target, .int .i64 x.1.weight], undef, undef, undef, undef, undef, undef, undef, undef, undef, undef, undef, undef, undef, undef], defers := [] })
    (fun x a' _ X Y row hs hg hr => by obtain ⟨Bx, h1, h2, h3⟩ := hs; exact ⟨Bx, h1, box4_own Bx x.1 () X Y row h2 hg (fun r e => (hr r e).2), h3⟩)
    ?assign ?body ?done ?stop
  case assign =>
    rintro l pre x W K ⟨bX1, bY1, hB1⟩ hK
    gi_wp2
    exact hK _ _ ((KeepsOthers.alloc _ _).from _) (KpX.alloc bX1.lt _) ⟨bX1.alloc _, bY1.alloc _, hB1.alloc hB1.size _⟩ ⟨W.heap.size, bX1.lt, Box4.new W x.1, rfl⟩
  case body =>
    rintro l pre x a' W hl ⟨r, hr⟩ ⟨bX1, bY1, hB1⟩ ⟨Bx, hBx, b4, rfl⟩ hlt
    have hmx : Tryd.prog.follows .mixedOrders = true := by kernel_rfl
    obtain ⟨⟨lo, hi, t, wt⟩, hx⟩ := x
    obtain ⟨o1, o2, o3, _, _, o6⟩ := (okB_iff _).1 hx
    simp only at o1 o2 o3 o6
    obtain ⟨ln, rfl⟩ : ∃ ln : Nat, lo = ln := ⟨lo.toNat, by omega⟩
    obtain ⟨hn, rfl⟩ : ∃ hn : Nat, hi = hn := ⟨hi.toNat, by omega⟩
    have ht1 : 0 < t.size := by omega
    have HF := Lib.hid (partR_full (fillL (vals pre)) ⟨ln, hn, t, wt⟩ ln hn rfl rfl)
    have HFL := Lib.hid (show fillL (vals (pre ++ [⟨⟨ln, hn, t, wt⟩, hx⟩])) = fillR (fillL (vals pre)) ⟨ln, hn, t, wt⟩ by rw [vals_snoc, fillL_snoc])
    have HTG := Lib.hid (tg0_pos ht1)
    obtain ⟨z, hz⟩ : ∃ z, z = tg0 t := ⟨_, rfl⟩
    have HFZ : Hid (partR (fillL (vals pre)) ln (hn + 1) z = fillR (fillL (vals pre)) ⟨ln, hn, t, wt⟩) := by rw [hz]; exact HF
    rw [← hz] at HTG
    clear hz HF o6
    have B4 := Lib.hid b4
    have BX1 := Lib.hid bX1
    have BY1 := Lib.hid bY1
    have HB1 := Lib.hid hB1
    have RXC := Lib.hid (rowX_cells bX1)
    have d0 := b4.cells.1
    have hBxl := b4.lt
    clear b4 bX1 bY1 hB1 hr
    gi_wp2_with fail
    gi_loopw [5] (fun i wr => ∃ k : Nat, i = .int .i64 k ∧ ln ≤ k ∧ k ≤ hn + 1 ∧ Hid (RowU wr (w.heap.size + 1 + 1) (partR (fillL (vals pre)) ln k z)) ∧ Hid (W.grownBy wr (some (w.heap.size + 1 + 1))) ∧ Hid (KpX (w.heap.size + 1 + 1) W wr) ∧ Hid (RowKit.Below w.heap.size w wr)) (fun i _ => hn + 1 - (intOf i).toNat)
    case atStart => exact ⟨ln, rfl, Nat.le_refl _, by omega, by rw [partR_zero]; exact BX1.out, grownBy_same _ _, KpX.refl _ _, HB1.out⟩
    case round =>
      obtain ⟨k, rfl, hk1, hk2, HX, HG, HK, HB⟩ := hrel
      have b4 := B4.out.kept HG.out (fun e => by cases e; omega)
      have x1 := b4.cells.2.1
      have x2 := b4.cells.2.2.1
      have hxl := HX.out.lt
      clear b4
      by_cases hlt2 : k ≤ hn
      · have hk32 : k < 32 := by omega
        have y0 := HX.out.cell hk32
        have y1 := HX.out.frozen k
        obtain ⟨u, hu⟩ : ∃ u, u = Value.int .u8 (partR (fillL (vals pre)) ln k z k) := ⟨_, rfl⟩
        rw [← hu] at y0
        clear hu
        have hki : (k : Int) ≤ (hn : Int) := by omega
        gi_wp2_with fail
        go_roundw
        case rel =>
          refine ⟨k + 1, by go_num, by omega, by omega, ?_, HG.out.trans (grownBy_setCellK _ _ _ _), HK.out.trans (KpX.setU HX.out k _), HB.out.setCell (p := ⟨w.heap.size + 1 + 1, k, none⟩) (by show w.heap.size ≤ w.heap.size + 1 + 1; omega) _⟩
          rw [← HTG.out]
          show RowU _ _ _
          rw [← partR_succ _ hk1]
          exact HX.out.set k z
        case measure => simp [intOf]; omega
      · have hke : k = hn + 1 := by omega
        have hki : (hn : Int) < (k : Int) := by omega
        gi_wp2_with fail
        refine ⟨(KeepsOthers.of_grownBy HG.out RXC.out).from _, HK.out, ?_, ?_, HB.out⟩
        · rw [HFL.out, ← HFZ.out, ← hke]
          exact HX.out
        · exact BY1.out.kept HG.out (fun e => by have := Option.some.inj e; omega)
  case done =>
    rintro D ys W hD hv ⟨bX1, bY1, hB1⟩ hK
    have BX1 := Lib.hid bX1
    have BY1 := Lib.hid bY1
    have HB1 := Lib.hid hB1
    have HK := Lib.hid hK
    have HV := Lib.hid hv
    clear bX1 bY1 hB1 hK hv
    gi_wp2_with (first
      | (refine wpListIn_load_row rfl 60 (.tmp 3) rfl (w.heap.size + 1 + 1) rfl 60 _ _ _ BX1.out Tryd.underlying60 rfl (infoRowA _) ?_)
      | (refine wpListIn_store_row rfl 60 (.tmp 2) (.tmp 22) rfl (w.heap.size + 1) (rowA (fillL (vals ys))) rfl rfl 60 _ BY1.out (infoRowA _) (by rw [rowA_size, rowA_size]) (rowA_one _) ?_))
    have hk2 : (W.setRow (w.heap.size + 1) (rowA (fillL (vals ys)))).heap[D]? = some (.deferred (some [])) := by
      rw [setRow_other _ _ _ _ (by omega)]
      exact HK.out
    have hb2 : RowKit.Below w.heap.size w (W.setRow (w.heap.size + 1) (rowA (fillL (vals ys)))) := below_setRow HB1.out (by omega) _
    have hr2 : (W.setRow (w.heap.size + 1) (rowA (fillL (vals ys)))).heap[w.heap.size + 1]? = some (.cells (rowA (fillL (vals ys))) 60 (0, 0)) := setRow_heap _ _ _ _ _ _ BY1.out
    generalize W.setRow (w.heap.size + 1) (rowA (fillL (vals ys))) = W2 at hk2 hb2 hr2 ⊢
    have hr3 : (W2.putObj D (.deferred none)).heap[w.heap.size + 1]? = some (.cells (rowA (fillL (vals ys))) 60 (0, 0)) :=
      ((grownBy_putObj' W2 D (.deferred none)).block _ (Array.getElem?_eq_some_iff.1 hr2).1 (by simp; omega)).trans hr2
    refine ⟨by simp, .inl ⟨_, _, rfl, run_takeDeferred hk2, ?_⟩⟩
    refine ⟨_, results_cell_row rfl _ _ _ _ _ _ _ rfl hr3 Tryd.underlying60 rfl (infoRowA _), ?_, ?_⟩
    · rw [HV.out, rowA_congr fun i hi => fill_go HO.out hi]
    · exact hb2.trans (belowK_b (n₀ := w.heap.size) (w := W0) (by omega) W2 D _ _ hD hk2 rfl rfl)
  case stop =>
    rintro D c pre W _ _ h _
    exact h.elim
end Go.Proofs.YtmhloojnekjfhaaDoor
