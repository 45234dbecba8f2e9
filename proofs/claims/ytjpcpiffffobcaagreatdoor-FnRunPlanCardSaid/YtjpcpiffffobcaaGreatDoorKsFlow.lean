
/- What the body of a loop over an iterator leaves alone: every block of cells but one box and the row that the box's slice lies in; the append's law with where the new row lies. No program. · The segments of a valid switch, yielded: gap, segmentsIn, and what its closure promises to every loop over it. · The segments of a valid switch, yielded: what the closure of segmentsIn promises to every loop over it. · A slice of cases that a call has made: the cells of its list; the append of one case. No walk. · The model's segments and how many gaps it counts. · CountGaps: the program's and the model's. -/
import Derived.RangeFuncNested
import Derived.RangeFuncBound
import Derived.RangeFuncCalls
import Derived.RangeFuncLeaves
import Derived.RangeFuncBox
import Derived.Shelf.Abstract
import Derived.Shelf.RegionOpen
import Derived.WalkKit
import Derived.OwnWalkIn
import Derived.TacticsInMore
import Derived.LoopNIn
import Derived.LoopIn
import Derived.Maps.AppendAt
import Derived.Test.YtjpcpiffffobcaaGreatDoorKsSegP
import Derived.Test.YtjpcpiffffobcaaGreatDoorKsCopy
import Derived.Test.YtjpcpiffffobcaaGreatDoorKsSums
import Derived.IntWalk
namespace Go.Proofs.YtjpcpiffffobcaaGreatDoor
open Go.RowKit Go.Shelf

/-- Box X holds a slice whose row is block j. -/
def Pts (W : World) (X j : Nat) : Prop := ∃ u, W.cell? ⟨X, 0, none⟩ = some u ∧ u.ownBlock = some j
theorem Pts.of_heap {W W' : World} {X j : Nat} (h : W'.heap[X]? = W.heap[X]?) : Pts W' X j ↔ Pts W X j := by
  have e : W'.cell? ⟨X, 0, none⟩ = W.cell? ⟨X, 0, none⟩ := World.cell?_of_block (a := ⟨X, 0, none⟩) h
  unfold Pts
  rw [e]

structure KpX (X : Nat) (W W' : World) : Prop where
  size : W.heap.size ≤ W'.heap.size
  keep : ∀ i o, W.heap[i]? = some o → o.isCells = true → i ≠ X → ¬ Pts W X i → W'.heap[i]? = some o
  pts : ∀ j, Pts W' X j → Pts W X j ∨ W.heap.size ≤ j
  lt : (∀ i, Pts W X i → i < W.heap.size) → ∀ j, Pts W' X j → j < W'.heap.size

theorem KpX.refl (X : Nat) (W : World) : KpX X W W := ⟨Nat.le_refl _, fun _ _ h _ _ _ => h, fun _ h => .inl h, fun h => h⟩
theorem KpX.trans {X : Nat} {A B C : World} (h : KpX X A B) (k : KpX X B C) : KpX X A C := by
  refine ⟨Nat.le_trans h.size k.size, fun i o hi ho hx hp => k.keep i o (h.keep i o hi ho hx hp) ho hx fun hpb => ?_, fun j hj => ?_, fun hl => k.lt (h.lt hl)⟩
  · rcases h.pts i hpb with h1 | h1
    · exact hp h1
    · have := (Array.getElem?_eq_some_iff.1 hi).1
      omega
  · rcases k.pts j hj with h1 | h1
    · exact h.pts j h1
    · exact .inr (Nat.le_trans h.size h1)
theorem KpX.of_grown {X : Nat} {W W' : World} (hX : X < W.heap.size) (hg : W.grownBy W' none) : KpX X W W' := by
  have hx : W'.heap[X]? = W.heap[X]? := hg.block X hX (by simp)
  refine ⟨hg.size, fun i o hi _ _ _ => (hg.block i (Array.getElem?_eq_some_iff.1 hi).1 (by simp)).trans hi, fun j hj => .inl ((Pts.of_heap hx).1 hj), fun hl j hj => ?_⟩
  exact Nat.lt_of_lt_of_le (hl j ((Pts.of_heap hx).1 hj)) hg.size
theorem grown_of_below {W W' : World} (h : Below W.heap.size W W') : W.grownBy W' none := ⟨h.os, h.tape, h.output, h.size, fun k hk _ => h.block k hk⟩
theorem KpX.of_below {X : Nat} {W W' : World} (hX : X < W.heap.size) (h : Below W.heap.size W W') : KpX X W W' := KpX.of_grown hX (grown_of_below h)
theorem KpX.alloc {X : Nat} {W : World} (hX : X < W.heap.size) (o : Obj) : KpX X W (W.alloc o) := KpX.of_grown hX (World.grownBy_alloc W o none)
/-- The law's own book-keeping. -/
theorem kpX_b {X : Nat} {w : World} (hX : X < w.heap.size) (W : World) (l : Nat) (o o' : Obj) (hl : w.heap.size ≤ l) (h : W.heap[l]? = some o) (ho : o.isCells = false) (_ : o.isWalk = false) : KpX X W (W.putObj l o') := by
  have hg := grownBy_putObj' W l o'
  have hl2 := (Array.getElem?_eq_some_iff.1 h).1
  have hx : (W.putObj l o').heap[X]? = W.heap[X]? := hg.block X (by omega) (by simp; omega)
  refine ⟨hg.size, fun i q hi hq _ _ => ?_, fun j hj => .inl ((Pts.of_heap hx).1 hj), fun hlt j hj => Nat.lt_of_lt_of_le (hlt j ((Pts.of_heap hx).1 hj)) hg.size⟩
  have hne : i ≠ l := fun e => by
    subst e
    rw [h] at hi
    cases hi
    rw [ho] at hq
    cases hq
  exact (hg.block i (Array.getElem?_eq_some_iff.1 hi).1 (by simp [hne])).trans hi
/-- A store of a value that is no slice into the box. -/
theorem KpX.set {X : Nat} {W : World} {t : TypeId} {u : Value} (hb : Boxed W X t u) (u' : Value) (hn : u'.ownBlock = none) : KpX X W (W.setCell ⟨X, 0, none⟩ u') := by
  have hg := grownBy_setCell' W X u'
  have hp : ∀ j, ¬ Pts (W.setCell ⟨X, 0, none⟩ u') X j := by
    rintro j ⟨v, hv, hj⟩
    rw [(hb.set u').cell] at hv
    cases hv
    rw [hn] at hj
    cases hj
  exact ⟨hg.size, fun i o hi _ hx _ => (hg.block i (Array.getElem?_eq_some_iff.1 hi).1 (by simp [hx])).trans hi, fun j hj => absurd hj (hp j), fun _ j hj => absurd hj (hp j)⟩

/-- The append's law, with where the row lies behind it. -/
theorem run_append_at {P : Program} (w : World) (base : Nat) (t ty e : TypeId) (i : TypeInfo) (z : Value) (size bytes : Nat) (ht : P.underlying t = some (.slice e)) (hi : P.info? e = some i) (hz : i.zero = some z)
    (hsize : i.size = size) (hby : i.bytes = bytes) (hzs : z.cells.size = size) (hsz : 0 < size)
    (v : Value) (n : Nat) (xs : List Value) (hown : w.ownsRow base e size v n xs)
    (a : Addr) (m c : Nat) (news : List Value) (hl : news.length = m * size) (hnews : ∀ j u, news[j]? = some u → w.cell? (a.add j) = some u) (h1 : ∀ u ∈ news, u.oneCell' = true)
    (h63 : n + m ≤ maxLen) (hbytes : (n + m) * bytes ≤ 140737488355328) (hbase : base ≤ w.heap.size) (hm : 0 < m) :
    ∃ v' w', (Builtin.append_ #[t, t] ty #[v, .slice (some a) m c]).run P w = .ok v' w' ∧ w'.ownsRow base e size v' (n + m) (xs ++ news) ∧ w.grownBy w' v.ownBlock ∧
      (v'.ownBlock = v.ownBlock ∨ v'.ownBlock = some w.heap.size) := by
  obtain ⟨v', w', hr, h2, h3, _⟩ := run_append_own (P := P) w base t ty e i z size bytes ht hi hz hsize hby hzs hsz v n xs hown a m c news hl hnews h1 h63 hbytes hbase
  refine ⟨v', w', hr, h2, h3, ?_⟩
  subst hsize
  subst hby
  have hsmall : n + m ≤ 9223372036854775807 := by simp only [maxLen] at h63; omega
  rcases hown.2 with ⟨rfl, rfl⟩ | ⟨g, cap, cur, rfl, hbg, hg, hnc, hcm, hcs, htake⟩
  · have hr2 := run_append_nil (P := P) w t ty e i z ht hi hz a m c news hl hnews hm (by omega) (by have hb := hbytes; simp only [Nat.zero_add] at hb; omega)
    rw [hr] at hr2
    simp only [Result.ok.injEq] at hr2
    exact .inr (by rw [hr2.1]; rfl)
  · by_cases hroom : n + m ≤ cap
    · have hfit : n * i.size + news.length ≤ cur.size := by rw [hl, hcs, ← Nat.add_mul]; exact Nat.mul_le_mul_right _ hroom
      have hr2 := run_append_room (P := P) w t ty e i ht hi g n cap cur hg a m c news hl hnews h1 hroom hfit
      rw [hr] at hr2
      simp only [Result.ok.injEq] at hr2
      exact .inl (by rw [hr2.1]; rfl)
    · have holds : ∀ j u, xs[j]? = some u → w.cell? ((⟨g, 0, none⟩ : Addr).add j) = some u := hown.cells (g := g) rfl
      have hr2 := run_append_grow (P := P) w t ty e i z ht hi hz ⟨g, 0, none⟩ n cap xs hown.1 holds a m c news hl hnews (by omega) (by omega) (growslice_fits (by omega) hbytes)
      rw [hr] at hr2
      simp only [Result.ok.injEq] at hr2
      exact .inr (by rw [hr2.1]; rfl)

theorem wpListIn_append_at {F : Fence} {n : Nat} {P : Program} (w : World) {ops : Array Oper} {rest : List Oper} {o : Oper} {a : Act} {Q : Exit → Act → World → Prop}
    (hg : o.guard = none) (s x : Operand) (t : TypeId) (hop : o.op = Op.call { callee := Callee.builtin Builtin.append, args := #[s, x], argTypes := #[t, t] })
    (base : Nat) (e : TypeId) (i : TypeInfo) (z : Value) (size bytes : Nat) (h1 : P.underlying t = some (.slice e)) (h2 : P.info? e = some i) (h3 : i.zero = some z) (h4 : i.size = size) (h5 : i.bytes = bytes) (h6 : z.cells.size = size) (h7 : 0 < size)
    (v : Value) (k : Nat) (xs : List Value) (hs : a.eval s = v) (hown : w.ownsRow base e size v k xs) (ad : Addr) (m c : Nat) (news : List Value) (hx : a.eval x = .slice (some ad) m c) (hn : news.length = m * size)
    (hc : ∀ j u, news[j]? = some u → w.cell? (ad.add j) = some u) (h1c : ∀ u ∈ news, u.oneCell' = true) (b1 : k + m ≤ maxLen) (b2 : (k + m) * bytes ≤ 140737488355328) (b3 : base ≤ w.heap.size) (b4 : 0 < m)
    (hK : ∀ v' w', w'.ownsRow base e size v' (k + m) (xs ++ news) → w.grownBy w' v.ownBlock → (v'.ownBlock = v.ownBlock ∨ v'.ownBlock = some w.heap.size) → wpListIn F n P ops Q rest (a.put o.dst v') w') :
    wpListIn F n P ops Q (o :: rest) a w := by
  refine wpListIn_plain hg fun K hK' => ?_
  obtain ⟨v', w', hrun, r1, r2, r3⟩ := run_append_at (P := P) w base t o.type e i z size bytes h1 h2 h3 h4 h5 h6 h7 v k xs hown ad m c news hn hc h1c b1 b2 b3 b4
  unfold Oper.wpIn
  refine ⟨?_, ?_⟩
  · simp [Oper.about, hop, resolve, Target.leads, Sem.run_pure]
  · rw [Oper.semAt_plain F _ _ (by rw [hop]; intro c hc'; cases hc')]
    simp [execOp, hop, resolve, invoke, builtin, hs, hx, hrun, Result.andThen]
    exact hK' _ _ (hK v' w' r1 r2 r3)

theorem wpList_append_at {P : Program} (w : World) {ops : Array Oper} {rest : List Oper} {o : Oper} {a : Act} {Q : Exit → Act → World → Prop}
    (hg : o.guard = none) (s x : Operand) (t : TypeId) (hop : o.op = Op.call { callee := Callee.builtin Builtin.append, args := #[s, x], argTypes := #[t, t] })
    (base : Nat) (e : TypeId) (i : TypeInfo) (z : Value) (size bytes : Nat) (h1 : P.underlying t = some (.slice e)) (h2 : P.info? e = some i) (h3 : i.zero = some z) (h4 : i.size = size) (h5 : i.bytes = bytes) (h6 : z.cells.size = size) (h7 : 0 < size)
    (v : Value) (k : Nat) (xs : List Value) (hs : a.eval s = v) (hown : w.ownsRow base e size v k xs) (ad : Addr) (m c : Nat) (news : List Value) (hx : a.eval x = .slice (some ad) m c) (hn : news.length = m * size)
    (hc : ∀ j u, news[j]? = some u → w.cell? (ad.add j) = some u) (h1c : ∀ u ∈ news, u.oneCell' = true) (b1 : k + m ≤ maxLen) (b2 : (k + m) * bytes ≤ 140737488355328) (b3 : base ≤ w.heap.size) (b4 : 0 < m)
    (hK : ∀ v' w', w'.ownsRow base e size v' (k + m) (xs ++ news) → w.grownBy w' v.ownBlock → (v'.ownBlock = v.ownBlock ∨ v'.ownBlock = some w.heap.size) → wpList P ops Q rest (a.put o.dst v') w') :
    wpList P ops Q (o :: rest) a w := by
  refine wpList_plain hg fun K hK' => ?_
  obtain ⟨v', w', hrun, r1, r2, r3⟩ := run_append_at (P := P) w base t o.type e i z size bytes h1 h2 h3 h4 h5 h6 h7 v k xs hown ad m c news hn hc h1c b1 b2 b3 b4
  unfold Oper.wp execOp
  simp only [hop, resolve, invoke, builtin, Sem.run_bind, Sem.run_pure, Result.andThen_ok, List.map_toArray, List.map_cons, List.map_nil, hs, hx, hrun]
  exact hK' _ _ (hK v' w' r1 r2 r3)
/-- A block that is neither the old row nor a new one is not the row. -/
theorem not_row {v v' : Value} {z g : Nat} (hat : v'.ownBlock = v.ownBlock ∨ v'.ownBlock = some z) (h1 : v.ownBlock ≠ some g) (h2 : g < z) : some g ≠ v'.ownBlock := by
  intro e
  rcases hat with h | h
  · exact h1 (h.symm.trans e.symm)
  · rw [h] at e
    simp at e
    omega
theorem old_row {w : World} {base : Nat} {e : TypeId} {size n g : Nat} {v : Value} {xs : List Value} (h : w.ownsRow base e size v n xs) (hg : w.heap.size ≤ g) : v.ownBlock ≠ some g := fun e' => by
  have := (h.lt g e').2
  omega

/-- Behind an append to the box's slice and the store back: nothing else has turned. tmp: the block of the values that are appended. -/
theorem KpX.appended {X : Nat} {W w1 : World} {n₀ : Nat} {t e : TypeId} {size : Nat} {v v' : Value} {k m : Nat} {xs ys : List Value} {tmp : Obj}
    (hv : Boxed W X t v) (hte : t ≠ e) (hrow : W.ownsRow n₀ e size v k xs) (hown' : w1.ownsRow n₀ e size v' m ys) (hgrow : (W.alloc tmp).grownBy w1 v.ownBlock)
    (hat : v'.ownBlock = v.ownBlock ∨ v'.ownBlock = some (W.alloc tmp).heap.size) : KpX X W (w1.setCell ⟨X, 0, none⟩ v') := by
  have hv1 : Boxed w1 X t v := (hv.alloc tmp).kept hgrow (hv.not_row hte hrow)
  have hg2 := grownBy_setCell' w1 X v'
  have hsz : W.heap.size ≤ (w1.setCell ⟨X, 0, none⟩ v').heap.size := by have h1 := hgrow.size; have h2 := hg2.size; simp at h1; omega
  have hpw : ∀ j, Pts W X j ↔ v.ownBlock = some j := fun j => by
    unfold Pts
    rw [hv.cell]
    simp
  have hpw' : ∀ j, Pts (w1.setCell ⟨X, 0, none⟩ v') X j ↔ v'.ownBlock = some j := fun j => by
    unfold Pts
    rw [(hv1.set v').cell]
    simp
  refine ⟨hsz, fun i o hi _ hx hp => ?_, fun j hj => ?_, fun _ j hj => ?_⟩
  · have hil := (Array.getElem?_eq_some_iff.1 hi).1
    have h1 : (W.alloc tmp).heap[i]? = some o := ((World.grownBy_alloc W tmp none).block i hil (by simp)).trans hi
    have h2 : w1.heap[i]? = some o := (hgrow.block i (by simp; omega) (fun e => hp ((hpw i).2 e.symm))).trans h1
    exact (hg2.block i (Array.getElem?_eq_some_iff.1 h2).1 (by simp [hx])).trans h2
  · rw [hpw'] at hj
    rcases hat with h | h
    · exact .inl ((hpw j).2 (h.symm.trans hj))
    · rw [h] at hj
      simp at hj
      exact .inr (by omega)
  · rw [hpw'] at hj
    have := (hown'.lt j hj).2
    exact Nat.lt_of_lt_of_le this hg2.size
end Go.Proofs.YtjpcpiffffobcaaGreatDoor

namespace Go.Proofs.YtjpcpiffffobcaaGreatDoor
open Go.RowKit Go.Shelf Go.Lib Go.Sort

/-- Four stores, one behind the other, into the cells of a struct. -/
theorem four_cells {w : World} {g : Nat} {u0 u1 u2 u3 : Value} (h0 : w.cell? ⟨g, 0, none⟩ = some u0) (h1 : w.cell? ⟨g, 1, none⟩ = some u1) (h2 : w.cell? ⟨g, 2, none⟩ = some u2) (h3 : w.cell? ⟨g, 3, none⟩ = some u3) (v0 v1 v2 v3 : Value) :
    ((((w.setCell ⟨g, 0, none⟩ v0).setCell ⟨g, 1, none⟩ v1).setCell ⟨g, 2, none⟩ v2).setCell ⟨g, 3, none⟩ v3).cell? ⟨g, 0, none⟩ = some v0 ∧
    ((((w.setCell ⟨g, 0, none⟩ v0).setCell ⟨g, 1, none⟩ v1).setCell ⟨g, 2, none⟩ v2).setCell ⟨g, 3, none⟩ v3).cell? ⟨g, 1, none⟩ = some v1 ∧
    ((((w.setCell ⟨g, 0, none⟩ v0).setCell ⟨g, 1, none⟩ v1).setCell ⟨g, 2, none⟩ v2).setCell ⟨g, 3, none⟩ v3).cell? ⟨g, 2, none⟩ = some v2 ∧
    ((((w.setCell ⟨g, 0, none⟩ v0).setCell ⟨g, 1, none⟩ v1).setCell ⟨g, 2, none⟩ v2).setCell ⟨g, 3, none⟩ v3).cell? ⟨g, 3, none⟩ = some v3 := by
  have o1 : ∀ (W : World) (x y : Nat) (v : Value), x ≠ y → (W.setCell ⟨g, x, none⟩ v).cell? ⟨g, y, none⟩ = W.cell? ⟨g, y, none⟩ := fun W x y v h => World.cell?_setCell_other _ _ _ _ (fun e => h (by cases e; rfl))
  have e0 := World.cell?_setCell_same w ⟨g, 0, none⟩ v0 h0
  have e1 := World.cell?_setCell_same (w.setCell ⟨g, 0, none⟩ v0) ⟨g, 1, none⟩ v1 ((o1 _ 0 1 _ (by decide)).trans h1)
  have e2 := World.cell?_setCell_same ((w.setCell ⟨g, 0, none⟩ v0).setCell ⟨g, 1, none⟩ v1) ⟨g, 2, none⟩ v2 ((o1 _ 1 2 _ (by decide)).trans ((o1 _ 0 2 _ (by decide)).trans h2))
  have e3 := World.cell?_setCell_same (((w.setCell ⟨g, 0, none⟩ v0).setCell ⟨g, 1, none⟩ v1).setCell ⟨g, 2, none⟩ v2) ⟨g, 3, none⟩ v3 ((o1 _ 2 3 _ (by decide)).trans ((o1 _ 1 3 _ (by decide)).trans ((o1 _ 0 3 _ (by decide)).trans h3)))
  exact ⟨(o1 _ 3 0 _ (by decide)).trans ((o1 _ 2 0 _ (by decide)).trans ((o1 _ 1 0 _ (by decide)).trans e0)), (o1 _ 3 1 _ (by decide)).trans ((o1 _ 2 1 _ (by decide)).trans e1), (o1 _ 3 2 _ (by decide)).trans e2, e3⟩

end Go.Proofs.YtjpcpiffffobcaaGreatDoor

namespace Go.Proofs.YtjpcpiffffobcaaGreatDoor
open Go.RowKit Go.Shelf Go.Lib Go.Sort

attribute [local go_sem] Oper.semAt_some

abbrev SegD := { c : CaseD // okB c = true }
def encs (x : SegD) : Array Value := #[aggC x.1]
def vals (l : List SegD) : List CaseD := l.map (·.1)
theorem vals_snoc (l : List SegD) (x : SegD) : vals (l ++ [x]) = vals l ++ [x.1] := by simp [vals]
theorem vals_ok (l : List SegD) : ∀ c ∈ vals l, okB c = true := fun c hc => by
  simp only [vals, List.mem_map] at hc
  obtain ⟨x, _, rfl⟩ := hc
  exact x.2

theorem cell_cells {W : World} {b o : Nat} {v : Value} (h : W.cell? ⟨b, o, none⟩ = some v) : ∃ q, W.heap[b]? = some q ∧ q.isCells = true := by
  unfold World.cell? at h
  simp only at h
  split at h
  · rename_i c e f hb
    exact ⟨_, hb, rfl⟩
  · simp at h

theorem KpX.cell {X : Nat} {W W' : World} (h : KpX X W W') {b o : Nat} {v : Value} (hX : b ≠ X) (hp : ¬ Pts W X b) (hc : W.cell? ⟨b, o, none⟩ = some v) : W'.cell? ⟨b, o, none⟩ = some v := by
  obtain ⟨q, hq, hcells⟩ := cell_cells hc
  have := h.keep b q hq hcells hX hp
  rw [World.cell?_of_block (w := W) (a := ⟨b, o, none⟩) (this.trans hq.symm)]
  exact hc
theorem KpX.row {X : Nat} {W W' : World} (h : KpX X W W') {b off : Nat} {d : Array CaseD} (hX : b ≠ X) (hp : ¬ Pts W X b) (hR : RowC W b off d) : RowC W' b off d :=
  ⟨Nat.lt_of_lt_of_le hR.old h.size, fun j hj => h.cell hX hp (hR.low j hj), fun j hj => h.cell hX hp (hR.high j hj), fun j hj => h.cell hX hp (hR.target j hj), fun j hj => h.cell hX hp (hR.weight j hj)⟩

/-- What the iterator reads between two rounds: its box, the cases; the loop's own row lies in a younger block. -/
structure ItAt (n₀ X B b off cap : Nat) (d : Array CaseD) (rest : Int) (W : World) : Prop where
  c0 : W.cell? ⟨B, 0, none⟩ = some (.slice (some ⟨b, off, none⟩) d.size cap)
  c1 : W.cell? ⟨B, 1, none⟩ = some (.int .i64 rest)
  row : RowC W b off d
  size : n₀ ≤ W.heap.size
  Xlt : X < n₀
  Blt : B < n₀
  blt : b < n₀
  XB : X ≠ B
  Xb : X ≠ b
  pts : ∀ j, Pts W X j → n₀ ≤ j ∧ j < W.heap.size

section
variable {n₀ X B b off cap : Nat} {d : Array CaseD} {rest : Int} {W W' : World}
theorem ItAt.kp (h : ItAt n₀ X B b off cap d rest W) (k : KpX X W W') : ItAt n₀ X B b off cap d rest W' := by
  have pB : ¬ Pts W X B := fun hp => by have := (h.pts B hp).1; have := h.Blt; omega
  have pb : ¬ Pts W X b := fun hp => by have := (h.pts b hp).1; have := h.blt; omega
  refine ⟨k.cell h.XB.symm pB h.c0, k.cell h.XB.symm pB h.c1, k.row h.Xb.symm pb h.row, Nat.le_trans h.size k.size, h.Xlt, h.Blt, h.blt, h.XB, h.Xb, fun j hj => ?_⟩
  refine ⟨?_, k.lt (fun i hi => (h.pts i hi).2) j hj⟩
  rcases k.pts j hj with h1 | h1
  · exact (h.pts j h1).1
  · exact Nat.le_trans h.size h1
theorem ItAt.below (h : ItAt n₀ X B b off cap d rest W) (k : RowKit.Below W.heap.size W W') : ItAt n₀ X B b off cap d rest W' := by
  have hs := h.size
  have hx := h.Xlt
  exact h.kp (KpX.of_below (by omega) k)
/-- A block that the iterator has laid itself is none of the loop's. -/
theorem ItAt.own (h : ItAt n₀ X B b off cap d rest W) {W2 W3 : World} (hb : RowKit.Below (W.heap.size + 1) W2 W3) (_hz : W2.heap.size = W.heap.size + 1) (hW : RowKit.Below W.heap.size W W2) : ¬ Pts W3 X W.heap.size := by
  have hs := h.size
  have hx := h.Xlt
  intro hp
  have e3 : W3.heap[X]? = W2.heap[X]? := hb.block X (by omega)
  have e2 : W2.heap[X]? = W.heap[X]? := hW.block X (by omega)
  have := (h.pts _ ((Pts.of_heap (e3.trans e2)).1 hp)).2
  omega
end
theorem abides_below {J : List SegD → World → Prop} {N : Nat} (hJ : AbidesFrom N J) {pre : List SegD} {W W' : World} (h : J pre W) (hb : RowKit.Below W.heap.size W W') : J pre W' :=
  hJ pre W W' none h (grown_of_below hb) (fun r e => by cases e)

end Go.Proofs.YtjpcpiffffobcaaGreatDoor

namespace Go.Proofs.YtjpcpiffffobcaaGreatDoor
open Go.RowKit Go.Shelf Go.Lib Go.Sort

def flatL (l : List CaseD) : List Value := l.flatMap encC
theorem flatL_snoc (l : List CaseD) (x : CaseD) : flatL l ++ encC x = flatL (l ++ [x]) := by simp [flatL]
theorem flatL_length : ∀ l : List CaseD, (flatL l).length = l.length * 4
  | [] => rfl
  | c :: l => by
    have ih := flatL_length l
    show (encC c ++ flatL l).length = _
    rw [List.length_append, ih, List.length_cons, show (encC c).length = 4 from rfl]
    omega
theorem flatL_get : ∀ (l : List CaseD) (j r : Nat), r < 4 → (flatL l)[j * 4 + r]? = (l[j]?).bind fun c => (encC c)[r]?
  | [], j, r, _ => by simp [flatL]
  | c :: l, 0, r, hr => by
    show (encC c ++ flatL l)[0 * 4 + r]? = _
    rw [List.getElem?_append_left (by rw [show (encC c).length = 4 from rfl]; omega)]
    simp
  | c :: l, j + 1, r, hr => by
    show (encC c ++ flatL l)[(j + 1) * 4 + r]? = _
    rw [List.getElem?_append_right (by rw [show (encC c).length = 4 from rfl]; omega), show (encC c).length = 4 from rfl, show (j + 1) * 4 + r - 4 = j * 4 + r by omega, flatL_get l j r hr]
    simp
theorem toArray_get (l : List CaseD) (j : Nat) : l.toArray[j]! = l[j]! := by simp
theorem owns_row {w : World} {base g n cap : Nat} {l : List CaseD} (ho : w.ownsRow base 67 4 (.slice (some ⟨g, 0, none⟩) n cap) n (flatL l)) : RowC w g 0 l.toArray := by
  have hn : n = l.length := by have h1 := ho.1; rw [flatL_length] at h1; omega
  have hg : g < w.heap.size := (ho.lt g rfl).2
  have hc : ∀ j r, j < l.length → r < 4 → w.cell? ⟨g, 0 + j * 4 + r, none⟩ = (encC l[j]!)[r]? := fun j r hj hr => by
    rw [Nat.zero_add, ho.cellAt (j * 4 + r) (by omega), flatL_get l j r hr]
    simp [hj]
  refine ⟨hg, fun j hj => ?_, fun j hj => ?_, fun j hj => ?_, fun j hj => ?_⟩
  all_goals
    have hj' : j < l.length := by simpa using hj
    rw [toArray_get]
  · exact hc j 0 hj' (by decide)
  · exact hc j 1 hj' (by decide)
  · exact hc j 2 hj' (by decide)
  · exact hc j 3 hj' (by decide)
theorem infoC : (Tryz.prog.info? 67).map (fun i => (i.zero, i.size, i.bytes)) = some (some (.agg #[.int .i64 0, .int .i64 0, .string ⟨#[]⟩, .int .i64 0]), 4, 40) := by kernel_rfl
def zeroC : Value := .agg #[.int .i64 0, .int .i64 0, .string ⟨#[]⟩, .int .i64 0]
theorem cells_new (W : World) (c : CaseD) (T : TypeId) : ∀ j u, (encC c)[j]? = some u → (W.alloc (.cells #[.int .i64 c.low, .int .i64 c.high, .string c.target, .int .i64 c.weight] T)).cell? ((⟨W.heap.size, 0, none⟩ : Addr).add j) = some u := fun j u hj => by
  match j, hj with
  | 0, hj => simp only [encC, List.getElem?_cons_zero, Option.some.injEq] at hj; subst hj; simp [Addr.add]
  | 1, hj => simp [encC] at hj; subst hj; simp [Addr.add]
  | 2, hj => simp [encC] at hj; subst hj; simp [Addr.add]
  | 3, hj => simp [encC] at hj; subst hj; simp [Addr.add]
  | j + 4, hj => simp [encC] at hj
theorem cells_at {W : World} {g : Nat} {v0 v1 v2 v3 : Value} {T : TypeId} (hg : g = W.heap.size) : ∀ j u, [v0, v1, v2, v3][j]? = some u → (W.alloc (.cells #[v0, v1, v2, v3] T)).cell? ((⟨g, 0, none⟩ : Addr).add j) = some u := fun j u hj => by
  subst hg
  match j, hj with
  | 0, hj => simp at hj; subst hj; simp [Addr.add]
  | 1, hj => simp at hj; subst hj; simp [Addr.add]
  | 2, hj => simp at hj; subst hj; simp [Addr.add]
  | 3, hj => simp at hj; subst hj; simp [Addr.add]
  | j + 4, hj => simp at hj
theorem below_append {a wr w1 : World} {B : Nat} {v : Value} {base : Nat} {e : TypeId} {size n : Nat} {xs : List Value} {tmp : Obj} (hb : RowKit.Below B a wr) (hB : B ≤ wr.heap.size) (hg : (wr.alloc tmp).grownBy w1 v.ownBlock) (ho : wr.ownsRow base e size v n xs) (hbase : B ≤ base) : RowKit.Below B a w1 :=
  (hb.alloc hB tmp).grown hg (by simp; omega) (fun q hq => Nat.le_trans hbase (ho.lt q hq).1)
theorem owns_not_nil {w : World} {base : Nat} {e : TypeId} {size n : Nat} {v : Value} {xs : List Value} (h : w.ownsRow base e size v (n + 1) xs) : v ≠ .slice none 0 0 := fun e' => by
  rcases h.2 with ⟨_, h0⟩ | ⟨g, cap, cur, h0, _⟩
  · omega
  · rw [e'] at h0
    cases h0
theorem owns_base {w : World} {base base' : Nat} {e : TypeId} {size n : Nat} {v : Value} {xs : List Value} (h : w.ownsRow base e size v n xs) (hb : base' ≤ base) : w.ownsRow base' e size v n xs := by
  refine ⟨h.1, ?_⟩
  rcases h.2 with hn | ⟨g, cap, cur, hv, hbg, r⟩
  · exact .inl hn
  · exact .inr ⟨g, cap, cur, hv, Nat.le_trans hb hbg, r⟩
end Go.Proofs.YtjpcpiffffobcaaGreatDoor

namespace Go.Proofs.YtjpcpiffffobcaaGreatDoor
open Go.RowKit Go.Shelf Go.Lib Go.Sort

/-- A slice value that a call has made: it owns the cases of a list. -/
def OwnsC (base : Nat) (v : Value) (l : List CaseD) (w : World) : Prop := w.ownsRow base 67 4 v l.length (flatL l)

end Go.Proofs.YtjpcpiffffobcaaGreatDoor

namespace Go.Proofs.YtjpcpiffffobcaaGreatDoor
open Go.RowKit Go.Shelf Go.Lib Go.Sort

attribute [local go_sem] Oper.semAt_some

theorem owns_form {base : Nat} {v : Value} {l : List CaseD} {w : World} (h : OwnsC base v l w) (hn : v ≠ .slice none 0 0) : ∃ g cap, v = .slice (some ⟨g, 0, none⟩) l.length cap ∧ base ≤ g ∧ l.length ≤ cap ∧ cap ≤ maxLen := by
  rcases h.2 with ⟨h0, _⟩ | ⟨g, cap, cur, h0, hb, _, h1, h2, _⟩
  · exact absurd h0 hn
  · exact ⟨g, cap, h0, hb, h1, h2⟩
noncomputable def gapsI (d : Array CaseD) (rest : Int) : Int := if swB d rest = true then (gapsN d rest : Int) else -1

/-! the program's -/
theorem grown_below {W W' : World} (h : W.grownBy W' none) : RowKit.Below W.heap.size W W' := (Below.refl _ _).grown h (Nat.le_refl _) (fun k e => by cases e)
def cntZ (l : List CaseD) : Int := (l.filter fun c => c.target.toList == zS.toList).length
theorem cntZ_snoc (l : List CaseD) (x : CaseD) : cntZ (l ++ [x]) = cntZ l + (if (x.target.toList == zS.toList) = true then 1 else 0) := by
  unfold cntZ
  rw [List.filter_append, List.length_append]
  cases h : (x.target.toList == zS.toList) <;> simp [h]
theorem cntZ_le (l : List CaseD) : 0 ≤ cntZ l ∧ cntZ l ≤ l.length := by
  unfold cntZ
  have := List.length_filter_le (fun c : CaseD => c.target.toList == zS.toList) l
  omega
/-- A block that holds one case. -/
def Box4 (W : World) (B : Nat) (x : CaseD) : Prop := W.heap[B]? = some (.cells #[.int .i64 x.low, .int .i64 x.high, .string x.target, .int .i64 x.weight] 67 (0, 0))
theorem Box4.new (W : World) (x : CaseD) : Box4 (W.alloc (.cells #[.int .i64 x.low, .int .i64 x.high, .string x.target, .int .i64 x.weight] 67)) W.heap.size x := World.alloc_heap_new W _
theorem Box4.lt {W : World} {B : Nat} {x : CaseD} (h : Box4 W B x) : B < W.heap.size := (Array.getElem?_eq_some_iff.1 h).1
theorem Box4.kept {W W' : World} {row : Option Nat} {B : Nat} {x : CaseD} (h : Box4 W B x) (hg : W.grownBy W' row) (hne : some B ≠ row) : Box4 W' B x := (hg.block B h.lt hne).trans h
theorem box4_own (B : Nat) (x : CaseD) : Own (fun (_ : Unit) W => Box4 W B x) := fun _ X Y row hs hg hrow =>
  hs.kept hg (fun e' => by obtain ⟨o, ho, hc⟩ := hrow B e'.symm; rw [show X.heap[B]? = _ from hs] at ho; cases ho; cases hc)
theorem Box4.cells {W : World} {B : Nat} {x : CaseD} (h : Box4 W B x) : W.cell? ⟨B, 0, none⟩ = some (.int .i64 x.low) ∧ W.cell? ⟨B, 1, none⟩ = some (.int .i64 x.high) ∧ W.cell? ⟨B, 2, none⟩ = some (.string x.target) ∧ W.cell? ⟨B, 3, none⟩ = some (.int .i64 x.weight) := by
  refine ⟨?_, ?_, ?_, ?_⟩ <;> simp [World.cell?, show W.heap[B]? = _ from h]

end Go.Proofs.YtjpcpiffffobcaaGreatDoor
