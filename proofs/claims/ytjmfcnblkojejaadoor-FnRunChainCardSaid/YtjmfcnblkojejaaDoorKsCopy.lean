
/- The laws' copy of an argument: toCase, toCaseS, toSwitch. -/
import Derived.Test.YtjmfcnblkojejaaDoorKsSize
namespace Go.Proofs.YtjmfcnblkojejaaDoor
open Go.RowKit Go.Shelf Go.Lib Go.Sort

def zeroCells : Array Value := #[.int .i64 0, .int .i64 0, .string ⟨#[]⟩, .int .i64 0]
theorem run_makeC (n : Nat) (hn : n ≤ 1048576) (W : World) :
    (Instr.makeSlice 23 (.int .i64 (n : Int)) (.int .i64 (n : Int))).run Tryd.prog W = .ok (.slice (some ⟨W.heap.size, 0, none⟩) n n) (W.alloc (.cells (madeCells zeroCells (n * 4)) 35)) := by
  obtain ⟨i0, hi, hz0, hz1, hz2⟩ := info_parts (show (Tryd.prog.info? 35).map (fun i => (i.zero, i.size, i.bytes)) = some (some (.agg #[.int .i64 0, .int .i64 0, .string ⟨#[]⟩, .int .i64 0]), 4, 40) by kernel_rfl)
  have h := run_make (P := Tryd.prog) W 23 35 i0 _ Tryd.underlying23 hi hz0 .i64 .i64 (n : Int) (n : Int) (by omega) (by omega) (by rw [hz2]; omega) (by omega)
  rw [hz1] at h
  simp only [Int.toNat_natCast] at h
  exact h

theorem made_holds (n : Nat) (W : World) (g : Nat) (hg : g = W.heap.size) : HoldsK encC 4 (W.alloc (.cells (madeCells zeroCells (n * 4)) 35)) g 0 (Array.replicate n ⟨0, 0, ⟨#[]⟩, 0⟩) := by
  subst hg
  intro t ht
  have ht' : t < n * 4 := by simpa using ht
  rw [get_flatK _ _ _ _ (by simpa using ht')]
  have hm : t % 4 < 4 := by omega
  have hq : t / 4 < n := by omega
  constructor
  · simp [madeCells, ht', hq, zeroCells, encC]
  · simp

theorem holdsK_below {w w' : World} {g off : Nat} {q : Array CaseD} (h : HoldsK encC 4 w g off q) (hg : g < w.heap.size) (hb : RowKit.Below w.heap.size w w') : HoldsK encC 4 w' g off q := fun t ht =>
  ⟨(hb.cell (p := ⟨g, off + t, none⟩) hg).trans (h t ht).1, (hb.frozen (p := ⟨g, off + t, none⟩) hg).trans (h t ht).2⟩
theorem below_setCells {B : Nat} {a : World} : ∀ (vs : List Value) (w' : World) (g o : Nat), RowKit.Below B a w' → B ≤ g → RowKit.Below B a (w'.setCells g o vs)
  | [], _, _, _, h, _ => h
  | v :: r, _, g, o, h, hg => below_setCells r _ g (o + 1) (h.setCell (p := ⟨g, o, none⟩) hg v) hg
theorem setMany_set (q : Array CaseD) (k : Nat) (x : CaseD) (hk : k < q.size) : setMany (flatK encC 4 q) (k * 4) (encC x) = flatK encC 4 (q.setIfInBounds k x) := by
  refine ext_get! (by simp) fun t ht => ?_
  have ht' : t < q.size * 4 := by simpa using ht
  rw [get_setMany _ _ _ t (by simpa using ht'), get_flatK _ _ _ t ht', get_flatK _ _ _ t (by simpa using ht')]
  by_cases h : t / 4 = k
  · rw [if_pos (by show k * 4 ≤ t ∧ t < k * 4 + 4; omega), h, getElem!_set_same _ _ _ hk]
    congr 1
    omega
  · rw [if_neg (by show ¬ (k * 4 ≤ t ∧ t < k * 4 + 4); omega), getElem!_set_other _ _ _ _ h]
theorem holds_store {w : World} {g : Nat} {q : Array CaseD} (h : HoldsK encC 4 w g 0 q) (k : Nat) (x : CaseD) (hk : k < q.size) :
    HoldsK encC 4 (w.setCells g (0 + k * 4) (encC x)) g 0 (q.setIfInBounds k x) ∧ Sem.run Tryd.prog (storeCells ⟨g, 0 + k * 4, none⟩ (encC x) 0) w = .ok () (w.setCells g (0 + k * 4) (encC x)) := by
  have hs : k * 4 + (encC x).length ≤ (flatK encC 4 q).size := by rw [size_flatK]; show k * 4 + 4 ≤ _; omega
  refine ⟨?_, stores_of_holds Tryd.prog h (k * 4) _ hs (encC_one x)⟩
  have := holds_setCells_c h (k * 4) (encC x) hs
  rw [setMany_set q k x hk] at this
  exact this

/-- A fresh slice that holds the cases. -/
def Fresh (n : Nat) (d : Array CaseD) (w w' : World) (g : Nat) : Prop := n ≤ g ∧ RowC w' g 0 d ∧ RowKit.Below w.heap.size w w'

theorem RowC.setCell {w : World} {b off : Nat} {d : Array CaseD} (h : RowC w b off d) {a : Addr} (ha : a.block ≠ b) (u : Value) : RowC (w.setCell a u) b off d := by
  have e : ∀ o, (w.setCell a u).cell? ⟨b, o, none⟩ = w.cell? ⟨b, o, none⟩ := fun o => World.cell?_of_block (Below.heap_setCell w a u b (fun h => ha h.symm))
  exact ⟨by simpa [World.setCell] using h.old, fun j hj => (e _).trans (h.low j hj), fun j hj => (e _).trans (h.high j hj), fun j hj => (e _).trans (h.target j hj), fun j hj => (e _).trans (h.weight j hj)⟩
theorem bcell {W w1 : World} (hb : RowKit.Below W.heap.size W w1) : (∀ b o, b < W.heap.size → w1.cell? ⟨b, o, none⟩ = W.cell? ⟨b, o, none⟩) ∧ (∀ b o, b < W.heap.size → w1.frozen? ⟨b, o, none⟩ = W.frozen? ⟨b, o, none⟩) :=
  ⟨fun b o h => hb.cell (p := ⟨b, o, none⟩) h, fun b o h => hb.frozen (p := ⟨b, o, none⟩) h⟩

/-! eqCase, eqCaseS, eqSwitch: of equal ones -/
end Go.Proofs.YtjmfcnblkojejaaDoor
