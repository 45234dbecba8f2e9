
/- pullFrom: a function that hands out the segments of a switch one behind the other. · Two neighbours as one: joinTargets, joinCases. · A region inside a round of a loop over an iterator, that defers nothing, goes as outside of one: its operations may be taken first by the fenced calculus' own law. No program. · A region inside a round, its loads taken first: from the law of a held condition outside of the fence to the round. No program. · mergeNeighbours over an iterator of cases that promises all of them. -/
import Derived.Test.YtjpcpiffffobcaaGreatDoorKsCollect
import Derived.Test.YtjpcpiffffobcaaGreatDoorKsMark
import Derived.Test.YtjpcpiffffobcaaGreatDoorKsFlow
import Derived.OrdersIn
import Derived.RangeFuncCalls
import Derived.Deep.RegionHeld3
import Derived.Test.YtjpcpiffffobcaaGreatDoorKsSegP
import Derived.Sort.CutIn
namespace Go.Proofs.YtjpcpiffffobcaaGreatDoor
open Go.RowKit Go.Shelf Go.Lib Go.Sort

/-- A slice value that reads as a list of cases, in no block of a set. -/
def ReadsC (W : World) (v : Value) (S : Nat → Prop) (l : List CaseD) : Prop :=
  (l = [] ∧ ∃ p c, v = .slice p 0 c) ∨ (0 < l.length ∧ ∃ g off cap, v = .slice (some ⟨g, off, none⟩) l.length cap ∧ l.length ≤ cap ∧ cap ≤ maxLen ∧ RowC W g off l.toArray ∧ ¬ S g)
/-- The box of a pulling function: what is left. -/
def PullAt (W : World) (X : Nat) (S : Nat → Prop) (l : List CaseD) : Prop := ∃ v, Boxed W X 30 v ∧ ReadsC W v S l

theorem RowC.kept {W W' : World} {g off : Nat} {d : Array CaseD} {row : Option Nat} (h : RowC W g off d) (hg : W.grownBy W' row) (hne : some g ≠ row) : RowC W' g off d := by
  have e : ∀ o, W'.cell? ⟨g, o, none⟩ = W.cell? ⟨g, o, none⟩ := fun o => World.cell?_of_block (hg.block g h.old hne)
  exact ⟨Nat.lt_of_lt_of_le h.old hg.size, fun j hj => (e _).trans (h.low j hj), fun j hj => (e _).trans (h.high j hj), fun j hj => (e _).trans (h.target j hj), fun j hj => (e _).trans (h.weight j hj)⟩
theorem PullAt.kept {W W' : World} {X : Nat} {S : Nat → Prop} {l : List CaseD} {row : Option Nat} (h : PullAt W X S l) (hg : W.grownBy W' row) (h1 : some X ≠ row) (h2 : ∀ g, row = some g → S g ∨ W.heap.size ≤ g) : PullAt W' X S l := by
  obtain ⟨v, hb, hr⟩ := h
  refine ⟨v, hb.kept hg h1, ?_⟩
  rcases hr with h0 | ⟨h0, g, off, cap, hv, hc, hm, hR, hS⟩
  · exact .inl h0
  · refine .inr ⟨h0, g, off, cap, hv, hc, hm, hR.kept hg (fun e => ?_), hS⟩
    rcases h2 g e.symm with h | h
    · exact hS h
    · have := hR.old
      omega
theorem row_tail {W : World} {g off : Nat} {c : CaseD} {t : List CaseD} (h : RowC W g off (c :: t).toArray) : RowC W g (off + 4) t.toArray := by
  have e : ∀ j, (c :: t).toArray[j + 1]! = t.toArray[j]! := fun j => by rw [toArray_get, toArray_get]; rfl
  have s : ∀ j, j < t.toArray.size → j + 1 < (c :: t).toArray.size := fun j hj => by simpa using hj
  refine ⟨h.old, fun j hj => ?_, fun j hj => ?_, fun j hj => ?_, fun j hj => ?_⟩
  · have := h.low (j + 1) (s j hj); rw [e] at this; rw [show off + 4 + j * 4 = off + (j + 1) * 4 by omega]; exact this
  · have := h.high (j + 1) (s j hj); rw [e] at this; rw [show off + 4 + j * 4 + 1 = off + (j + 1) * 4 + 1 by omega]; exact this
  · have := h.target (j + 1) (s j hj); rw [e] at this; rw [show off + 4 + j * 4 + 2 = off + (j + 1) * 4 + 2 by omega]; exact this
  · have := h.weight (j + 1) (s j hj); rw [e] at this; rw [show off + 4 + j * 4 + 3 = off + (j + 1) * 4 + 3 by omega]; exact this

def zeroD : CaseD := ⟨0, 0, ⟨#[]⟩, 0⟩
/-- What a pull answers. -/
def PullPost (X : Nat) (S : Nat → Prop) (l : List CaseD) (W : World) (x : Ending) (w' : World) : Prop :=
  x = .returned (.tuple #[aggC (l.headD zeroD), .bool (!l.isEmpty)]) ∧ PullAt w' X S l.tail ∧ W.grownBy w' (some X)

end Go.Proofs.YtjpcpiffffobcaaGreatDoor

namespace Go.Proofs.YtjpcpiffffobcaaGreatDoor
open Go.RowKit Go.Shelf Go.Lib Go.Sort
set_option linter.unusedSimpArgs false

theorem Box4.cold {W : World} {B : Nat} {x : CaseD} (h : Box4 W B x) (i : Nat) : W.frozen? ⟨B, i, none⟩ = false := by simp [World.frozen?, show W.heap[B]? = _ from h]
/-- What a join answers. -/
def JoinPost (j : CaseD → CaseD → Bool) (l x : CaseD) (w : World) (r : Ending) (w' : World) : Prop :=
  ∃ o : CaseD, r = .returned (.tuple #[.agg #[.int .i64 o.low, .int .i64 o.high, .string o.target, .int .i64 o.weight], .bool (j l x)]) ∧ (j l x = true → o = oneC l x) ∧ RowKit.Below w.heap.size w w'

end Go.Proofs.YtjpcpiffffobcaaGreatDoor

namespace Go.Proofs.YtjpcpiffffobcaaGreatDoor

def quietOps (ops : Array Oper) : Bool := ops.all fun o => match o.op with | .defer _ => false | _ => true
theorem quietOps_at {ops : Array Oper} (h : quietOps ops = true) {i : Nat} {o : Oper} (hi : ops[i]? = some o) : ∀ c, o.op ≠ .defer c := fun c e => by
  have hm := Array.all_eq_true_iff_forall_mem.1 h o (Array.mem_of_getElem? hi)
  simp [e] at hm

section
variable {F : Fence} {n : Nat} {P : Program} {ops : Array Oper} {Q : Exit → Act → World → Prop} {md : Region.Mode} {l : Nat}
theorem upon_round (o : Oper) (a : Act) (K : Act → World → Prop) (r : Result Next) (h : o.uponIn F n P a K Q r) : o.uponIn (F.inRound l) n P a K Q r := by
  cases r with
  | ok x w' => cases x <;> exact h
  | halt x w' => cases x <;> exact h
theorem wpOp_round (hq : quietOps ops = true) {i : Nat} {K K' : Act → World → Prop} {a : Act} {w : World} (hK : ∀ a w, K a w → K' a w) (h : wpOpIn F n P ops Q i K a w) : wpOpIn (F.inRound l) n P ops Q i K' a w := by
  refine wpOpIn_mono hK ?_
  unfold wpOpIn at *
  cases ho : ops[i]? with
  | none => simpa [ho] using h
  | some o =>
    simp only [ho] at h ⊢
    split
    · rename_i hw
      simp only [hw, if_true] at h
      unfold Oper.wpIn at *
      refine ⟨h.1, ?_⟩
      have h2 := h.2
      rw [Oper.semAt_eq _ _ _ (quietOps_at hq ho)] at h2 ⊢
      exact upon_round o a K _ h2
    · rename_i hw
      simp only [hw] at h
      exact h
theorem wpAny_round (hq : quietOps ops = true) : ∀ (fuel : Nat) (listed : Array Bool) (a : Act) (w : World), wpAnyIn F n P md ops Q fuel listed a w → wpAnyIn (F.inRound l) n P md ops Q fuel listed a w
  | 0, _, _, _, h => h
  | fuel + 1, listed, _, _, h => ⟨h.1, fun i hi => wpOp_round hq (wpAny_round hq fuel (listed.setIfInBounds i true)) (h.2 i hi)⟩
/-- The region in the round, by the calculus outside of it. -/
theorem region_round {id : Nat} {a : Act} {w : World} (hm : P.follows .mixedOrders = true) (hq : quietOps ops = true)
    (h : wpAnyIn F n P .any ops Q ops.size (Array.replicate ops.size false) a w.drew) : (Code.region id ops true).wpIn (F.inRound l) n P Q a w :=
  wpIn_region_any hm (wpAny_round hq _ _ _ _ h)
end
end Go.Proofs.YtjpcpiffffobcaaGreatDoor

namespace Go.Proofs.YtjpcpiffffobcaaGreatDoor
open Go

/-- A post that lets only the ordinary way through. -/
def Only (Q : Exit → Act → World → Prop) : Exit → Act → World → Prop
  | .normal, a, w => Q .normal a w
  | _, _, _ => False
theorem Only.shut {Q : Exit → Act → World → Prop} : ¬ LetsOut (Only Q) := fun ⟨_, _, h⟩ => h
section
variable {n : Nat} {P : Program} {ops : Array Oper} {Q : Exit → Act → World → Prop} {md : Region.Mode} {l : Nat}
theorem upon_open {o : Oper} {a : Act} {K : Act → World → Prop} (r : Result Next) (h : o.upon P a K (Only Q) r) : o.uponIn Fence.wide n P a K Q r := by
  cases r with
  | ok x w' =>
    cases x with
    | value v => exact h
    | skip => exact h
    | defer d => exact h
    | enter f args =>
      refine ⟨fun hd => by simp [Fence.wide] at hd, (callsIn_wide.2 h).mono fun e w'' he => ?_⟩
      cases e with
      | returned v => exact he
      | panicked c => exact (he : False).elim
      | outgrown => exact (Only.shut he).elim
    | row r args =>
      refine ⟨fun hd => by simp [Fence.wide] at hd, fun c cs _ => ?_⟩
      obtain ⟨v, w2, h1, h2⟩ := h c cs
      exact ⟨v, w2, h1, stepsIn_wide.2 h2⟩
    | _ => exact (h : False).elim
  | halt x w' => cases x <;> exact (h : False).elim
theorem wpOp_open {i : Nat} {K K' : Act → World → Prop} {a : Act} {w : World} (hK : ∀ a w, K a w → K' a w) (h : wpOp P ops (Only Q) i K a w) : wpOpIn Fence.wide n P ops Q i K' a w := by
  refine wpOpIn_mono hK ?_
  unfold wpOp at h
  unfold wpOpIn
  cases ho : ops[i]? with
  | none => simpa [ho] using h
  | some o =>
    simp only [ho] at h ⊢
    split
    · rename_i hw
      simp only [hw, if_true] at h
      rcases h with h | ⟨_, h⟩
      · exact ⟨fun _ _ => trivial, upon_open _ h⟩
      · exact (Only.shut h).elim
    · rename_i hw
      simp only [hw] at h
      exact ⟨fun _ _ => trivial, h⟩
theorem wpAny_open : ∀ (fuel : Nat) (listed : Array Bool) (a : Act) (w : World), wpAny P md ops (Only Q) fuel listed a w → wpAnyIn Fence.wide n P md ops Q fuel listed a w
  | 0, _, _, _, h => h
  | fuel + 1, listed, _, _, h => ⟨h.1, fun i hi => wpOp_open (wpAny_open fuel (listed.setIfInBounds i true)) (h.2 i hi)⟩
/-- The region in the round: S names the cells that its loads read. -/
theorem region_roundH (S : World → Prop) {id : Nat} {a : Act} {w : World} (hm : P.follows .mixedOrders = true) (hq : quietOps ops = true) (hS : S w.drew)
    (h : S w.drew → wpAnyH P .any ops (Only Q) S ops.size (Array.replicate ops.size false) a w.drew) : (Code.region id ops true).wpIn (Fence.wide.inRound l) n P Q a w :=
  region_round hm hq (wpAny_open _ _ _ _ (wpAny_of_held _ _ _ _ (h hS)))
end
end Go.Proofs.YtjpcpiffffobcaaGreatDoor

namespace Go.Proofs.YtjpcpiffffobcaaGreatDoor
open Go.RowKit Go.Shelf Go.Lib Go.Sort
set_option linter.unusedSimpArgs false

attribute [local go_sem] Oper.semAt_some

abbrev mL (j : CaseD → CaseD → Bool) (pre : List SegD) : List CaseD := (mergeA j (vals pre)).toList

theorem row_slice {W : World} {base : Nat} {e : TypeId} {size k : Nat} {v : Value} {xs : List Value} (h : W.ownsRow base e size v k xs) : ∃ a cap, v = .slice a k cap := by
  rcases h.2 with ⟨rfl, rfl⟩ | ⟨g, cap, cur, rfl, _⟩
  · exact ⟨_, _, rfl⟩
  · exact ⟨_, _, rfl⟩
abbrev jF (jf : FuncId) : Value := .func (.func jf) #[] #[]
theorem Box4.put {W : World} {B : Nat} {a0 a1 a2 a3 : Value} {r : Nat} (h : W.heap[B]? = some (.cells #[a0, a1, a2, a3] 67 (0, 0))) (_ : r < 4) (v : Value) : (W.setCell ⟨B, r, none⟩ v).heap[B]? = some (.cells (#[a0, a1, a2, a3].setIfInBounds r v) 67 (0, 0)) := by
  obtain ⟨hlt, hk⟩ := Array.getElem?_eq_some_iff.1 h
  show (W.heap.modify B _)[B]? = _
  rw [Array.getElem?_eq_getElem (by rw [Array.size_modify]; exact hlt), Array.getElem_modify_self, hk]
  simp
theorem Box4.store {W : World} {B : Nat} {z : CaseD} (h : Box4 W B z) (o : CaseD) : Box4 ((((W.setCell ⟨B, 0, none⟩ (.int .i64 o.low)).setCell ⟨B, 1, none⟩ (.int .i64 o.high)).setCell ⟨B, 2, none⟩ (.string o.target)).setCell ⟨B, 3, none⟩ (.int .i64 o.weight)) B o :=
  Box4.put (Box4.put (Box4.put (Box4.put h (by decide) _) (by decide) _) (by decide) _) (by decide) _
theorem KpX.setRow {X j : Nat} {W W' : World} (hg : W.grownBy W' (some j)) (hX : X < W.heap.size) (hne : X ≠ j) (hp : Pts W X j) : KpX X W W' := by
  have hx : W'.heap[X]? = W.heap[X]? := hg.block X hX (by simpa using hne)
  refine ⟨hg.size, fun i o hi _ _ hpi => (hg.block i (Array.getElem?_eq_some_iff.1 hi).1 (by intro e; cases e; exact hpi hp)).trans hi, fun k hk => .inl ((Pts.of_heap hx).1 hk), fun hl k hk => Nat.lt_of_lt_of_le (hl k ((Pts.of_heap hx).1 hk)) hg.size⟩
theorem flatL_set : ∀ (l : List CaseD) (n : Nat) (o : CaseD), n < l.length → flatL (l.set n o) = ((((flatL l).set (n * 4) (.int .i64 o.low)).set (n * 4 + 1) (.int .i64 o.high)).set (n * 4 + 2) (.string o.target)).set (n * 4 + 3) (.int .i64 o.weight)
  | [], n, o, h => by simp at h
  | c :: l, 0, o, h => by simp [flatL, encC]
  | c :: l, n + 1, o, h => by
    have ih := flatL_set l n o (by simpa using h)
    have e : (n + 1) * 4 = n * 4 + 1 + 1 + 1 + 1 := by omega
    rw [List.set_cons_succ]
    show flatL (c :: l.set n o) = _
    simp only [flatL, List.flatMap_cons] at ih ⊢
    rw [ih, e]
    simp [encC, Nat.add_right_comm _ 1, Nat.add_assoc]
/-- What a join is. -/
def JoinFn (j : CaseD → CaseD → Bool) (jf : FuncId) : Prop := (∀ args w, (callFunc jf args).run Tryz.prog w = .ok (.enter jf args) w) ∧ ∀ l x w, Bnd 32 l → okB x = true →
  Calls Tryz.prog jf #[.agg #[.int .i64 l.low, .int .i64 l.high, .string l.target, .int .i64 l.weight], .agg #[.int .i64 x.low, .int .i64 x.high, .string x.target, .int .i64 x.weight]] w (JoinPost j l x w)
theorem Only.intro {Q : Exit → Act → World → Prop} {a : Act} {w : World} (h : Q .normal a w) : Only Q .normal a w := h
end Go.Proofs.YtjpcpiffffobcaaGreatDoor
