
/- Rows compared; a row as a key. No walk. -/
import Derived.Test.YtmhloojnekjfhaaDoorKsRowK
import Derived.ChangeKeysEq
import Derived.Maps.OwnSet
import Derived.Maps.Views
import Derived.DeepKeys4
namespace Go.Proofs.YtmhloojnekjfhaaDoor
open Go.RowKit

theorem run_eqU (W : World) (a b : Int) (d : Nat) : Sem.run Tryd.prog (Op.equalIn (d + 1) 58 (.int .u8 a) (.int .u8 b)) W = .ok (a == b) W := by
  simp [Op.equalIn, run_underlying Tryd.underlying58, Result.andThen]
theorem part_row (f : Nat → Int) {j : Nat} (h : j < 32) (W : World) : Sem.run Tryd.prog (part 58 (rowA f) j) W = .ok (.int .u8 (f j)) W := by
  simp [part, Tryd.isAgg58, rowA_get f h, Result.andThen]
theorem eqItems_row (f g : Nat → Int) (W : World) (d : Nat) : ∀ l : List Nat, (∀ j ∈ l, j < 32) → Sem.run Tryd.prog (Op.eqItems (d + 1) 58 1 (rowA f) (rowA g) l) W = .ok (l.all fun j => f j == g j) W
  | [], _ => by simp [Op.eqItems]
  | j :: l, h => by
    have ih := eqItems_row f g W d l (fun i hi => h i (List.mem_cons_of_mem _ hi))
    have hj := h j (List.mem_cons_self ..)
    simp only [Op.eqItems, Nat.mul_one, Sem.run_bind, part_row f hj, part_row g hj, Result.andThen_ok, run_eqU]
    cases hq : f j == g j
    · simp [hq]
    · simp [hq, ih]
def sameRow (f g : Nat → Int) : Bool := (List.range 32).all fun j => f j == g j
theorem sameRow_iff (f g : Nat → Int) : sameRow f g = true ↔ ∀ i, i < 32 → f i = g i := by simp [sameRow]
theorem equalIn_row (f g : Nat → Int) (W : World) : Sem.run Tryd.prog (Op.equalIn 10000 60 (.agg (rowA f)) (.agg (rowA g))) W = .ok (sameRow f g) W := by
  have h := run_equalIn_array (P := Tryd.prog) (w := W) 9999 (t := 60) (e := 58) (n := 32) (rowA f) (rowA g) (by kernel_rfl) (i := (Tryd.prog.info? 58).get!) (by kernel_rfl)
  rw [show Tryd.prog.cellsOf 58 = 1 by kernel_rfl, eqItems_row f g W 9998 _ (fun j hj => List.mem_range.1 hj)] at h
  exact h
theorem eql_row (f g : Nat → Int) (W : World) : Sem.run Tryd.prog (binOp .eql 60 (.agg (rowA f)) (.agg (rowA g))) W = .ok (.bool (sameRow f g)) W := by
  have e : binOp .eql 60 (.agg (rowA f)) (.agg (rowA g)) = (do pure (.bool (← Op.equalIn 10000 60 (.agg (rowA f)) (.agg (rowA g))))) := rfl
  rw [e]
  simp [equalIn_row]
/-! a row as a key -/
theorem mapM_some {α β : Type} (f : α → Option β) (g : α → β) : ∀ l : List α, (∀ x ∈ l, f x = some (g x)) → l.mapM f = some (l.map g)
  | [], _ => rfl
  | x :: l, h => by
    rw [List.mapM_cons, h x (List.mem_cons_self ..), mapM_some f g l (fun y hy => h y (List.mem_cons_of_mem _ hy))]
    rfl
/-- All its numbers are bytes. -/
def ByteF (f : Nat → Int) : Prop := ∀ i, i < 32 → 0 ≤ f i ∧ f i ≤ 255
theorem keyLits_row {f : Nat → Int} (h : ByteF f) (d : Nat) : Tryd.prog.keyLits (d + 2) 60 (rowA f).toList = some (((List.range 32).map fun i => [Lit.int .u8 (f i)]).flatten) := by
  have hl : (rowA f).toList.length = Tryd.prog.cellsOf 60 := by rw [show Tryd.prog.cellsOf 60 = 32 by kernel_rfl, Array.length_toList, rowA_size]
  have hc : Tryd.prog.cellsOf 58 = 1 := by kernel_rfl
  have hu : Tryd.prog.underlying 60 = some (.array 32 58) := by kernel_rfl
  unfold Program.keyLits
  rw [hu]
  simp only [hl, if_true, hc, Nat.mul_one]
  rw [mapM_some _ (fun i => [Lit.int .u8 (f i)])]
  · rfl
  · intro i hi
    have hi' := List.mem_range.1 hi
    have hb := h i hi'
    have e : ((rowA f).toList.drop i).take 1 = [Value.int .u8 (f i)] := by
      have hg : (rowA f).toList[i]? = some (.int .u8 (f i)) := by rw [Array.getElem?_toList]; exact rowA_get f hi'
      have hlt : i < (rowA f).toList.length := by rw [Array.length_toList, rowA_size]; exact hi'
      rw [List.drop_eq_getElem_cons hlt]
      rw [List.getElem?_eq_getElem hlt] at hg
      simp only [List.take_succ_cons, List.take_zero]
      rw [Option.some.inj hg]
    rw [e]
    have hw : (Lit.int .u8 (f i)).wf = true := by simp only [Lit.wf, Bool.and_eq_true, decide_eq_true_eq]; exact ⟨hb.1, by show f i ≤ 255; exact hb.2⟩
    simp [Program.keyLits, Tryd.underlying58, hw]
theorem keyOf_row {f : Nat → Int} (h : ByteF f) : ∃ l, keyOf Tryd.prog 60 (.agg (rowA f)) = some l := by
  have hu : Tryd.prog.underlying 60 = some (.array 32 58) := by kernel_rfl
  have ht : Tryd.prog.keyType 60 = true := by kernel_rfl
  have hf : (Value.agg (rowA f)).formed Tryd.prog 60 = true := by simp [Value.formed, hu, show Tryd.prog.cellsOf 60 = 32 by kernel_rfl, rowA_size]
  have h0 : 0 < Tryd.prog.types.size := of_decide_eq_true (by kernel_rfl)
  obtain ⟨d, hd⟩ : ∃ d, Tryd.prog.types.size + 1 = d + 2 := ⟨Tryd.prog.types.size - 1, by omega⟩
  have hk := keyLits_row h d
  rw [← hd] at hk
  refine ⟨.string (keyBytes (((List.range 32).map fun i => [Lit.int .u8 (f i)]).flatten)), ?_⟩
  unfold keyOf
  rw [hu]
  simp only [ht, hf, Bool.and_self, if_true]
  show (Option.map _ (Tryd.prog.keyLits (Tryd.prog.types.size + 1) 60 (rowA f).toList)) = _
  rw [hk]
  rfl
theorem laidOutK : laidOutB Tryd.prog = true := by kernel_rfl
theorem rowArr : Tryd.prog.underlying 60 = some (.array 32 58) := by kernel_rfl
theorem rowIdx : (60 : TypeId) < Tryd.prog.types.size := of_decide_eq_true (by kernel_rfl)
theorem rowKind : Tryd.prog.keyTypeAt 2 60 = true := by kernel_rfl
theorem rowLaw : WideMaps.KeyLaw Tryd.prog 60 := deep_law_laid laidOutK (m := 2) (by omega) rowIdx rowKind (by rw [rowArr])
theorem rowKeyed : Maps.Keyed Tryd.prog 60 := Maps.Keyed.of_law rowLaw
/-- The key of a row. -/
noncomputable def keyR (f : Nat → Int) : Lit := (keyOf Tryd.prog 60 (.agg (rowA f))).getD (.bool false)
theorem keyR_of {f : Nat → Int} (h : ByteF f) : keyOf Tryd.prog 60 (.agg (rowA f)) = some (keyR f) := by
  obtain ⟨l, hl⟩ := keyOf_row h
  rw [keyR, hl]
  rfl
theorem keyR_inj {f g : Nat → Int} (hf : ByteF f) (hg : ByteF g) (e : keyR f = keyR g) : sameRow f g = true := by
  have h1 := keyR_of hf
  have h2 := keyR_of hg
  rw [← e] at h2
  have h3 := rowKeyed.inj h1 h2
  rw [Value.agg.injEq] at h3
  refine (sameRow_iff f g).2 fun i hi => ?_
  have h4 := rowA_get f hi
  rw [h3, rowA_get g hi] at h4
  simp only [Option.some.injEq, Value.int.injEq, true_and] at h4
  exact h4.symm
end Go.Proofs.YtmhloojnekjfhaaDoor
