
/- What the body of a loop over an iterator leaves alone: every block of cells but one box and the row that the box's slice lies in; the append's law with where the new row lies. No program. · The segments of a valid switch, yielded: gap, segmentsIn, and what its closure promises to every loop over it. · The segments of a valid switch, yielded: what the closure of segmentsIn promises to every loop over it. · A slice of cases that a call has made: the cells of its list; the append of one case. No walk. · The model's segments and how many gaps it counts. · CountGaps: the program's and the model's. -/
import Derived.RangeFuncNested
import Derived.RangeFuncBound
import Derived.RangeFuncCalls
import Derived.RangeFuncLeaves
import Derived.RangeFuncBox
import Derived.Shelf.Abstract
import Derived.Shelf.RegionOpen
import Derived.WalkKit
import Derived.OwnWalkIn
import Derived.TacticsInMore
import Derived.LoopNIn
import Derived.LoopIn
import Derived.Maps.AppendAt
import Derived.Test.YtjmfcnblkojejaaDoorKsSegP
import Derived.Test.YtjmfcnblkojejaaDoorKsCopy
import Derived.Test.YtjmfcnblkojejaaDoorKsSums
import Derived.IntWalk
namespace Go.Proofs.YtjmfcnblkojejaaDoor
open Go.RowKit Go.Shelf

/-- Box X holds a slice whose row is block j. -/
def Pts (W : World) (X j : Nat) : Prop := ∃ u, W.cell? ⟨X, 0, none⟩ = some u ∧ u.ownBlock = some j
theorem Pts.of_heap {W W' : World} {X j : Nat} (h : W'.heap[X]? = W.heap[X]?) : Pts W' X j ↔ Pts W X j := by
  have e : W'.cell? ⟨X, 0, none⟩ = W.cell? ⟨X, 0, none⟩ := World.cell?_of_block (a := ⟨X, 0, none⟩) h
  unfold Pts
  rw [e]

structure KpX (X : Nat) (W W' : World) : Prop where
  size : W.heap.size ≤ W'.heap.size
  keep : ∀ i o, W.heap[i]? = some o → o.isCells = true → i ≠ X → ¬ Pts W X i → W'.heap[i]? = some o
  pts : ∀ j, Pts W' X j → Pts W X j ∨ W.heap.size ≤ j
  lt : (∀ i, Pts W X i → i < W.heap.size) → ∀ j, Pts W' X j → j < W'.heap.size

theorem KpX.refl (X : Nat) (W : World) : KpX X W W := ⟨Nat.le_refl _, fun _ _ h _ _ _ => h, fun _ h => .inl h, fun h => h⟩
theorem KpX.trans {X : Nat} {A B C : World} (h : KpX X A B) (k : KpX X B C) : KpX X A C := by
  refine ⟨Nat.le_trans h.size k.size, fun i o hi ho hx hp => k.keep i o (h.keep i o hi ho hx hp) ho hx fun hpb => ?_, fun j hj => ?_, fun hl => k.lt (h.lt hl)⟩
  · rcases h.pts i hpb with h1 | h1
    · exact hp h1
    · have := (Array.getElem?_eq_some_iff.1 hi).1
      omega
  · rcases k.pts j hj with h1 | h1
    · exact h.pts j h1
    · exact .inr (Nat.le_trans h.size h1)
theorem KpX.of_grown {X : Nat} {W W' : World} (hX : X < W.heap.size) (hg : W.grownBy W' none) : KpX X W W' := by
  have hx : W'.heap[X]? = W.heap[X]? := hg.block X hX (by simp)
  refine ⟨hg.size, fun i o hi _ _ _ => (hg.block i (Array.getElem?_eq_some_iff.1 hi).1 (by simp)).trans hi, fun j hj => .inl ((Pts.of_heap hx).1 hj), fun hl j hj => ?_⟩
  exact Nat.lt_of_lt_of_le (hl j ((Pts.of_heap hx).1 hj)) hg.size
theorem grown_of_below {W W' : World} (h : Below W.heap.size W W') : W.grownBy W' none := ⟨h.os, h.tape, h.output, h.size, fun k hk _ => h.block k hk⟩
theorem KpX.of_below {X : Nat} {W W' : World} (hX : X < W.heap.size) (h : Below W.heap.size W W') : KpX X W W' := KpX.of_grown hX (grown_of_below h)
theorem KpX.alloc {X : Nat} {W : World} (hX : X < W.heap.size) (o : Obj) : KpX X W (W.alloc o) := KpX.of_grown hX (World.grownBy_alloc W o none)
/-- The law's own book-keeping. -/
theorem kpX_b {X : Nat} {w : World} (hX : X < w.heap.size) (W : World) (l : Nat) (o o' : Obj) (hl : w.heap.size ≤ l) (h : W.heap[l]? = some o) (ho : o.isCells = false) (_ : o.isWalk = false) : KpX X W (W.putObj l o') := by
  have hg := grownBy_putObj' W l o'
  have hl2 := (Array.getElem?_eq_some_iff.1 h).1
  have hx : (W.putObj l o').heap[X]? = W.heap[X]? := hg.block X (by omega) (by simp; omega)
  refine ⟨hg.size, fun i q hi hq _ _ => ?_, fun j hj => .inl ((Pts.of_heap hx).1 hj), fun hlt j hj => Nat.lt_of_lt_of_le (hlt j ((Pts.of_heap hx).1 hj)) hg.size⟩
  have hne : i ≠ l := fun e => by
    subst e
    rw [h] at hi
    cases hi
    rw [ho] at hq
    cases hq
  exact (hg.block i (Array.getElem?_eq_some_iff.1 hi).1 (by simp [hne])).trans hi
/-- A store of a value that is no slice into the box. -/
theorem KpX.set {X : Nat} {W : World} {t : TypeId} {u : Value} (hb : Boxed W X t u) (u' : Value) (hn : u'.ownBlock = none) : KpX X W (W.setCell ⟨X, 0, none⟩ u') := by
  have hg := grownBy_setCell' W X u'
  have hp : ∀ j, ¬ Pts (W.setCell ⟨X, 0, none⟩ u') X j := by
    rintro j ⟨v, hv, hj⟩
    rw [(hb.set u').cell] at hv
    cases hv
    rw [hn] at hj
    cases hj
  exact ⟨hg.size, fun i o hi _ hx _ => (hg.block i (Array.getElem?_eq_some_iff.1 hi).1 (by simp [hx])).trans hi, fun j hj => absurd hj (hp j), fun _ j hj => absurd hj (hp j)⟩

/-- The append's law, with where the row lies behind it. -/
theorem run_append_at {P : Program} (w : World) (base : Nat) (t ty e : TypeId) (i : TypeInfo) (z : Value) (size bytes : Nat) (ht : P.underlying t = some (.slice e)) (hi : P.info? e = some i) (hz : i.zero = some z)
    (hsize : i.size = size) (hby : i.bytes = bytes) (hzs : z.cells.size = size) (hsz : 0 < size)
    (v : Value) (n : Nat) (xs : List Value) (hown : w.ownsRow base e size v n xs)
    (a : Addr) (m c : Nat) (news : List Value) (hl : news.length = m * size) (hnews : ∀ j u, news[j]? = some u → w.cell? (a.add j) = some u) (h1 : ∀ u ∈ news, u.oneCell' = true)
    (h63 : n + m ≤ maxLen) (hbytes : (n + m) * bytes ≤ 140737488355328) (hbase : base ≤ w.heap.size) (hm : 0 < m) :
    ∃ v' w', (Builtin.append_ #[t, t] ty #[v, .slice (some a) m c]).run P w = .ok v' w' ∧ w'.ownsRow base e size v' (n + m) (xs ++ news) ∧ w.grownBy w' v.ownBlock ∧
      (v'.ownBlock = v.ownBlock ∨ v'.ownBlock = some w.heap.size) := by
  obtain ⟨v', w', hr, h2, h3, _⟩ := run_append_own (P := P) w base t ty e i z size bytes ht hi hz hsize hby hzs hsz v n xs hown a m c news hl hnews h1 h63 hbytes hbase
  refine ⟨v', w', hr, h2, h3, ?_⟩
  subst hsize
  subst hby
  have hsmall : n + m ≤ 9223372036854775807 := by simp only [maxLen] at h63; omega
  rcases hown.2 with ⟨rfl, rfl⟩ | ⟨g, cap, cur, rfl, hbg, hg, hnc, hcm, hcs, htake⟩
  · have hr2 := run_append_nil (P := P) w t ty e i z ht hi hz a m c news hl hnews hm (by omega) (by have hb := hbytes; simp only [Nat.zero_add] at hb; omega)
    rw [hr] at hr2
    simp only [Result.ok.injEq] at hr2
    exact .inr (by rw [hr2.1]; rfl)
  · by_cases hroom : n + m ≤ cap
    · have hfit : n * i.size + news.length ≤ cur.size := by rw [hl, hcs, ← Nat.add_mul]; exact Nat.mul_le_mul_right _ hroom
      have hr2 := run_append_room (P := P) w t ty e i ht hi g n cap cur hg a m c news hl hnews h1 hroom hfit
      rw [hr] at hr2
      simp only [Result.ok.injEq] at hr2
      exact .inl (by rw [hr2.1]; rfl)
    · have holds : ∀ j u, xs[j]? = some u → w.cell? ((⟨g, 0, none⟩ : Addr).add j) = some u := hown.cells (g := g) rfl
      have hr2 := run_append_grow (P := P) w t ty e i z ht hi hz ⟨g, 0, none⟩ n cap xs hown.1 holds a m c news hl hnews (by omega) (by omega) (growslice_fits (by omega) hbytes)
      rw [hr] at hr2
      simp only [Result.ok.injEq] at hr2
      exact .inr (by rw [hr2.1]; rfl)

theorem wpListIn_append_at {F : Fence} {n : Nat} {P : Program} (w : World) {ops : Array Oper} {rest : List Oper} {o : Oper} {a : Act} {Q : Exit → Act → World → Prop}
    (hg : o.guard = none) (s x : Operand) (t : TypeId) (hop : o.op = Op.call { callee := Callee.builtin Builtin.append, args := #[s, x], argTypes := #[t, t] })
    (base : Nat) (e : TypeId) (i : TypeInfo) (z : Value) (size bytes : Nat) (h1 : P.underlying t = some (.slice e)) (h2 : P.info? e = some i) (h3 : i.zero = some z) (h4 : i.size = size) (h5 : i.bytes = bytes) (h6 : z.cells.size = size) (h7 : 0 < size)
    (v : Value) (k : Nat) (xs : List Value) (hs : a.eval s = v) (hown : w.ownsRow base e size v k xs) (ad : Addr) (m c : Nat) (news : List Value) (hx : a.eval x = .slice (some ad) m c) (hn : news.length = m * size)
    (hc : ∀ j u, news[j]? = some u → w.cell? (ad.add j) = some u) (h1c : ∀ u ∈ news, u.oneCell' = true) (b1 : k + m ≤ maxLen) (b2 : (k + m) * bytes ≤ 140737488355328) (b3 : base ≤ w.heap.size) (b4 : 0 < m)
    (hK : ∀ v' w', w'.ownsRow base e size v' (k + m) (xs ++ news) → w.grownBy w' v.ownBlock → (v'.ownBlock = v.ownBlock ∨ v'.ownBlock = some w.heap.size) → wpListIn F n P ops Q rest (a.put o.dst v') w') :
    wpListIn F n P ops Q (o :: rest) a w := by
  refine wpListIn_plain hg fun K hK' => ?_
  obtain ⟨v', w', hrun, r1, r2, r3⟩ := run_append_at (P := P) w base t o.type e i z size bytes h1 h2 h3 h4 h5 h6 h7 v k xs hown ad m c news hn hc h1c b1 b2 b3 b4
  unfold Oper.wpIn
  refine ⟨?_, ?_⟩
  · simp [Oper.about, hop, resolve, Target.leads, Sem.run_pure]
  · rw [Oper.semAt_plain F _ _ (by rw [hop]; intro c hc'; cases hc')]
    simp [execOp, hop, resolve, invoke, builtin, hs, hx, hrun, Result.andThen]
    exact hK' _ _ (hK v' w' r1 r2 r3)

theorem wpList_append_at {P : Program} (w : World) {ops : Array Oper} {rest : List Oper} {o : Oper} {a : Act} {Q : Exit → Act → World → Prop}
    (hg : o.guard = none) (s x : Operand) (t : TypeId) (hop : o.op = Op.call { callee := Callee.builtin Builtin.append, args := #[s, x], argTypes := #[t, t] })
    (base : Nat) (e : TypeId) (i : TypeInfo) (z : Value) (size bytes : Nat) (h1 : P.underlying t = some (.slice e)) (h2 : P.info? e = some i) (h3 : i.zero = some z) (h4 : i.size = size) (h5 : i.bytes = bytes) (h6 : z.cells.size = size) (h7 : 0 < size)
    (v : Value) (k : Nat) (xs : List Value) (hs : a.eval s = v) (hown : w.ownsRow base e size v k xs) (ad : Addr) (m c : Nat) (news : List Value) (hx : a.eval x = .slice (some ad) m c) (hn : news.length = m * size)
    (hc : ∀ j u, news[j]? = some u → w.cell? (ad.add j) = some u) (h1c : ∀ u ∈ news, u.oneCell' = true) (b1 : k + m ≤ maxLen) (b2 : (k + m) * bytes ≤ 140737488355328) (b3 : base ≤ w.heap.size) (b4 : 0 < m)
    (hK : ∀ v' w', w'.ownsRow base e size v' (k + m) (xs ++ news) → w.grownBy w' v.ownBlock → (v'.ownBlock = v.ownBlock ∨ v'.ownBlock = some w.heap.size) → wpList P ops Q rest (a.put o.dst v') w') :
    wpList P ops Q (o :: rest) a w := by
  refine wpList_plain hg fun K hK' => ?_
  obtain ⟨v', w', hrun, r1, r2, r3⟩ := run_append_at (P := P) w base t o.type e i z size bytes h1 h2 h3 h4 h5 h6 h7 v k xs hown ad m c news hn hc h1c b1 b2 b3 b4
  unfold Oper.wp execOp
  simp only [hop, resolve, invoke, builtin, Sem.run_bind, Sem.run_pure, Result.andThen_ok, List.map_toArray, List.map_cons, List.map_nil, hs, hx, hrun]
  exact hK' _ _ (hK v' w' r1 r2 r3)
/-- A block that is neither the old row nor a new one is not the row. -/
theorem not_row {v v' : Value} {z g : Nat} (hat : v'.ownBlock = v.ownBlock ∨ v'.ownBlock = some z) (h1 : v.ownBlock ≠ some g) (h2 : g < z) : some g ≠ v'.ownBlock := by
  intro e
  rcases hat with h | h
  · exact h1 (h.symm.trans e.symm)
  · rw [h] at e
    simp at e
    omega
theorem old_row {w : World} {base : Nat} {e : TypeId} {size n g : Nat} {v : Value} {xs : List Value} (h : w.ownsRow base e size v n xs) (hg : w.heap.size ≤ g) : v.ownBlock ≠ some g := fun e' => by
  have := (h.lt g e').2
  omega

/-- Behind an append to the box's slice and the store back: nothing else has turned. tmp: the block of the values that are appended. -/
theorem KpX.appended {X : Nat} {W w1 : World} {n₀ : Nat} {t e : TypeId} {size : Nat} {v v' : Value} {k m : Nat} {xs ys : List Value} {tmp : Obj}
    (hv : Boxed W X t v) (hte : t ≠ e) (hrow : W.ownsRow n₀ e size v k xs) (hown' : w1.ownsRow n₀ e size v' m ys) (hgrow : (W.alloc tmp).grownBy w1 v.ownBlock)
    (hat : v'.ownBlock = v.ownBlock ∨ v'.ownBlock = some (W.alloc tmp).heap.size) : KpX X W (w1.setCell ⟨X, 0, none⟩ v') := by
  have hv1 : Boxed w1 X t v := (hv.alloc tmp).kept hgrow (hv.not_row hte hrow)
  have hg2 := grownBy_setCell' w1 X v'
  have hsz : W.heap.size ≤ (w1.setCell ⟨X, 0, none⟩ v').heap.size := by have h1 := hgrow.size; have h2 := hg2.size; simp at h1; omega
  have hpw : ∀ j, Pts W X j ↔ v.ownBlock = some j := fun j => by
    unfold Pts
    rw [hv.cell]
    simp
  have hpw' : ∀ j, Pts (w1.setCell ⟨X, 0, none⟩ v') X j ↔ v'.ownBlock = some j := fun j => by
    unfold Pts
    rw [(hv1.set v').cell]
    simp
  refine ⟨hsz, fun i o hi _ hx hp => ?_, fun j hj => ?_, fun _ j hj => ?_⟩
  · have hil := (Array.getElem?_eq_some_iff.1 hi).1
    have h1 : (W.alloc tmp).heap[i]? = some o := ((World.grownBy_alloc W tmp none).block i hil (by simp)).trans hi
    have h2 : w1.heap[i]? = some o := (hgrow.block i (by simp; omega) (fun e => hp ((hpw i).2 e.symm))).trans h1
    exact (hg2.block i (Array.getElem?_eq_some_iff.1 h2).1 (by simp [hx])).trans h2
  · rw [hpw'] at hj
    rcases hat with h | h
    · exact .inl ((hpw j).2 (h.symm.trans hj))
    · rw [h] at hj
      simp at hj
      exact .inr (by omega)
  · rw [hpw'] at hj
    have := (hown'.lt j hj).2
    exact Nat.lt_of_lt_of_le this hg2.size
end Go.Proofs.YtjmfcnblkojejaaDoor

namespace Go.Proofs.YtjmfcnblkojejaaDoor
open Go.RowKit Go.Shelf Go.Lib Go.Sort

/-- Four stores, one behind the other, into the cells of a struct. -/
theorem four_cells {w : World} {g : Nat} {u0 u1 u2 u3 : Value} (h0 : w.cell? ⟨g, 0, none⟩ = some u0) (h1 : w.cell? ⟨g, 1, none⟩ = some u1) (h2 : w.cell? ⟨g, 2, none⟩ = some u2) (h3 : w.cell? ⟨g, 3, none⟩ = some u3) (v0 v1 v2 v3 : Value) :
    ((((w.setCell ⟨g, 0, none⟩ v0).setCell ⟨g, 1, none⟩ v1).setCell ⟨g, 2, none⟩ v2).setCell ⟨g, 3, none⟩ v3).cell? ⟨g, 0, none⟩ = some v0 ∧
    ((((w.setCell ⟨g, 0, none⟩ v0).setCell ⟨g, 1, none⟩ v1).setCell ⟨g, 2, none⟩ v2).setCell ⟨g, 3, none⟩ v3).cell? ⟨g, 1, none⟩ = some v1 ∧
    ((((w.setCell ⟨g, 0, none⟩ v0).setCell ⟨g, 1, none⟩ v1).setCell ⟨g, 2, none⟩ v2).setCell ⟨g, 3, none⟩ v3).cell? ⟨g, 2, none⟩ = some v2 ∧
    ((((w.setCell ⟨g, 0, none⟩ v0).setCell ⟨g, 1, none⟩ v1).setCell ⟨g, 2, none⟩ v2).setCell ⟨g, 3, none⟩ v3).cell? ⟨g, 3, none⟩ = some v3 := by
  have o1 : ∀ (W : World) (x y : Nat) (v : Value), x ≠ y → (W.setCell ⟨g, x, none⟩ v).cell? ⟨g, y, none⟩ = W.cell? ⟨g, y, none⟩ := fun W x y v h => World.cell?_setCell_other _ _ _ _ (fun e => h (by cases e; rfl))
  have e0 := World.cell?_setCell_same w ⟨g, 0, none⟩ v0 h0
  have e1 := World.cell?_setCell_same (w.setCell ⟨g, 0, none⟩ v0) ⟨g, 1, none⟩ v1 ((o1 _ 0 1 _ (by decide)).trans h1)
  have e2 := World.cell?_setCell_same ((w.setCell ⟨g, 0, none⟩ v0).setCell ⟨g, 1, none⟩ v1) ⟨g, 2, none⟩ v2 ((o1 _ 1 2 _ (by decide)).trans ((o1 _ 0 2 _ (by decide)).trans h2))
  have e3 := World.cell?_setCell_same (((w.setCell ⟨g, 0, none⟩ v0).setCell ⟨g, 1, none⟩ v1).setCell ⟨g, 2, none⟩ v2) ⟨g, 3, none⟩ v3 ((o1 _ 2 3 _ (by decide)).trans ((o1 _ 1 3 _ (by decide)).trans ((o1 _ 0 3 _ (by decide)).trans h3)))
  exact ⟨(o1 _ 3 0 _ (by decide)).trans ((o1 _ 2 0 _ (by decide)).trans ((o1 _ 1 0 _ (by decide)).trans e0)), (o1 _ 3 1 _ (by decide)).trans ((o1 _ 2 1 _ (by decide)).trans e1), (o1 _ 3 2 _ (by decide)).trans e2, e3⟩

set_option maxRecDepth 100000 in
set_option maxHeartbeats 1000000 in
theorem gap_any (a : Option Addr) (len cap : Nat) (rest lo hi : Int) (w : World) :
    Calls Tryd.prog 97 #[.agg #[.slice a len cap, .int .i64 rest], .int .i64 lo, .int .i64 hi] w fun x w' => x = .returned (aggC (gapC rest lo hi)) ∧ RowKit.Below w.heap.size w w' := by
  unfold aggC gapC
  go_enter Tryd.func97, Tryd.ntmps97
  go_wp2
  obtain ⟨wa, hwa⟩ : ∃ wa, wa = (w.alloc (.cells #[.slice a len cap, .int .i64 rest] 25)).alloc (.cells #[.int .i64 0, .int .i64 0, .string ⟨#[]⟩, .int .i64 0] 35) := ⟨_, rfl⟩
  have c1 : wa.cell? ⟨w.heap.size, 1, none⟩ = some (.int .i64 rest) := by rw [hwa]; simp [go_sem]
  have d0 : wa.cell? ⟨w.heap.size + 1, 0, none⟩ = some (.int .i64 0) := by rw [hwa]; simp [go_sem]
  have d1 : wa.cell? ⟨w.heap.size + 1, 1, none⟩ = some (.int .i64 0) := by rw [hwa]; simp [go_sem]
  have d2 : wa.cell? ⟨w.heap.size + 1, 2, none⟩ = some (.string ⟨#[]⟩) := by rw [hwa]; simp [go_sem]
  have d3 : wa.cell? ⟨w.heap.size + 1, 3, none⟩ = some (.int .i64 0) := by rw [hwa]; simp [go_sem]
  have f0 : ∀ j, wa.frozen? ⟨w.heap.size + 1, j, none⟩ = false := fun j => by rw [hwa]; simp [go_sem]
  have hz : wa.heap.size = w.heap.size + 2 := by rw [hwa]; simp
  have hba : RowKit.Below w.heap.size w wa := by rw [hwa]; exact ((Below.refl _ _).alloc (Nat.le_refl _) _).alloc (by simp) _
  rw [← hwa]
  have HBA := Lib.hid hba
  have F0 := Lib.hid f0
  clear hwa hba f0
  have hcall := Lib.hid (fun W => text_any W)
  go_region_with (go_at_call 52; refine (hcall.out _).mono ?_; rintro x w1 ⟨rfl, hb⟩; have HB := Lib.hid hb; have hzd : w.heap.size + 1 < (wa.drew).heap.size := (by simp [hz]); have e1 := (hb.cell (p := ⟨w.heap.size, 1, none⟩) (Nat.lt_of_succ_lt hzd)).trans c1; have g0 := (hb.cell (p := ⟨w.heap.size + 1, 0, none⟩) hzd).trans d0; have g1 := (hb.cell (p := ⟨w.heap.size + 1, 1, none⟩) hzd).trans d1; have g2 := (hb.cell (p := ⟨w.heap.size + 1, 2, none⟩) hzd).trans d2; have g3 := (hb.cell (p := ⟨w.heap.size + 1, 3, none⟩) hzd).trans d3; have k0 := (hb.frozen (p := ⟨w.heap.size + 1, 0, none⟩) hzd).trans (F0.out 0); have k1 := (hb.frozen (p := ⟨w.heap.size + 1, 1, none⟩) hzd).trans (F0.out 1); have k2 := (hb.frozen (p := ⟨w.heap.size + 1, 2, none⟩) hzd).trans (F0.out 2); have k3 := (hb.frozen (p := ⟨w.heap.size + 1, 3, none⟩) hzd).trans (F0.out 3); clear hb)
  all_goals
    go_wp2
    obtain ⟨z0, z1, z2, z3⟩ := four_cells g0 g1 g2 g3 (.int .i64 lo) (.int .i64 hi) (.string zS) (.int .i64 rest)
    have hb1 := HBA.out.trans (((Below.refl wa.heap.size wa).drew.trans HB.out).mono HBA.out.size)
    have hbz := (((hb1.setCell (p := ⟨w.heap.size + 1, 0, none⟩) (by simp) (.int .i64 lo)).setCell (p := ⟨w.heap.size + 1, 1, none⟩) (by simp) (.int .i64 hi)).setCell (p := ⟨w.heap.size + 1, 2, none⟩) (by simp) (.string zS)).setCell (p := ⟨w.heap.size + 1, 3, none⟩) (by simp) (.int .i64 rest)
    have HBZ := Lib.hid hbz
    clear hbz hb1
    generalize (((w1.setCell ⟨w.heap.size + 1, 0, none⟩ (.int .i64 lo)).setCell ⟨w.heap.size + 1, 1, none⟩ (.int .i64 hi)).setCell ⟨w.heap.size + 1, 2, none⟩ (.string zS)).setCell ⟨w.heap.size + 1, 3, none⟩ (.int .i64 rest) = wz at z0 z1 z2 z3 HBZ ⊢
    refine bodyPost_ret (v := .agg #[.int .i64 lo, .int .i64 hi, .string zS, .int .i64 rest]) (by simp [results, Tryd.results97, go_sem, z0, z1, z2, z3]) rfl ⟨rfl, HBZ.out⟩
end Go.Proofs.YtjmfcnblkojejaaDoor

namespace Go.Proofs.YtjmfcnblkojejaaDoor
open Go.RowKit Go.Shelf Go.Lib Go.Sort

attribute [local go_sem] Oper.semAt_some

abbrev SegD := { c : CaseD // okB c = true }
def encs (x : SegD) : Array Value := #[aggC x.1]
def vals (l : List SegD) : List CaseD := l.map (·.1)
theorem vals_snoc (l : List SegD) (x : SegD) : vals (l ++ [x]) = vals l ++ [x.1] := by simp [vals]
theorem vals_ok (l : List SegD) : ∀ c ∈ vals l, okB c = true := fun c hc => by
  simp only [vals, List.mem_map] at hc
  obtain ⟨x, _, rfl⟩ := hc
  exact x.2

theorem cell_cells {W : World} {b o : Nat} {v : Value} (h : W.cell? ⟨b, o, none⟩ = some v) : ∃ q, W.heap[b]? = some q ∧ q.isCells = true := by
  unfold World.cell? at h
  simp only at h
  split at h
  · rename_i c e f hb
    exact ⟨_, hb, rfl⟩
  · simp at h

theorem KpX.cell {X : Nat} {W W' : World} (h : KpX X W W') {b o : Nat} {v : Value} (hX : b ≠ X) (hp : ¬ Pts W X b) (hc : W.cell? ⟨b, o, none⟩ = some v) : W'.cell? ⟨b, o, none⟩ = some v := by
  obtain ⟨q, hq, hcells⟩ := cell_cells hc
  have := h.keep b q hq hcells hX hp
  rw [World.cell?_of_block (w := W) (a := ⟨b, o, none⟩) (this.trans hq.symm)]
  exact hc
theorem KpX.row {X : Nat} {W W' : World} (h : KpX X W W') {b off : Nat} {d : Array CaseD} (hX : b ≠ X) (hp : ¬ Pts W X b) (hR : RowC W b off d) : RowC W' b off d :=
  ⟨Nat.lt_of_lt_of_le hR.old h.size, fun j hj => h.cell hX hp (hR.low j hj), fun j hj => h.cell hX hp (hR.high j hj), fun j hj => h.cell hX hp (hR.target j hj), fun j hj => h.cell hX hp (hR.weight j hj)⟩

/-- What the iterator reads between two rounds: its box, the cases; the loop's own row lies in a younger block. -/
structure ItAt (n₀ X B b off cap : Nat) (d : Array CaseD) (rest : Int) (W : World) : Prop where
  c0 : W.cell? ⟨B, 0, none⟩ = some (.slice (some ⟨b, off, none⟩) d.size cap)
  c1 : W.cell? ⟨B, 1, none⟩ = some (.int .i64 rest)
  row : RowC W b off d
  size : n₀ ≤ W.heap.size
  Xlt : X < n₀
  Blt : B < n₀
  blt : b < n₀
  XB : X ≠ B
  Xb : X ≠ b
  pts : ∀ j, Pts W X j → n₀ ≤ j ∧ j < W.heap.size

section
variable {n₀ X B b off cap : Nat} {d : Array CaseD} {rest : Int} {W W' : World}
theorem ItAt.kp (h : ItAt n₀ X B b off cap d rest W) (k : KpX X W W') : ItAt n₀ X B b off cap d rest W' := by
  have pB : ¬ Pts W X B := fun hp => by have := (h.pts B hp).1; have := h.Blt; omega
  have pb : ¬ Pts W X b := fun hp => by have := (h.pts b hp).1; have := h.blt; omega
  refine ⟨k.cell h.XB.symm pB h.c0, k.cell h.XB.symm pB h.c1, k.row h.Xb.symm pb h.row, Nat.le_trans h.size k.size, h.Xlt, h.Blt, h.blt, h.XB, h.Xb, fun j hj => ?_⟩
  refine ⟨?_, k.lt (fun i hi => (h.pts i hi).2) j hj⟩
  rcases k.pts j hj with h1 | h1
  · exact (h.pts j h1).1
  · exact Nat.le_trans h.size h1
theorem ItAt.below (h : ItAt n₀ X B b off cap d rest W) (k : RowKit.Below W.heap.size W W') : ItAt n₀ X B b off cap d rest W' := by
  have hs := h.size
  have hx := h.Xlt
  exact h.kp (KpX.of_below (by omega) k)
/-- A block that the iterator has laid itself is none of the loop's. -/
theorem ItAt.own (h : ItAt n₀ X B b off cap d rest W) {W2 W3 : World} (hb : RowKit.Below (W.heap.size + 1) W2 W3) (_hz : W2.heap.size = W.heap.size + 1) (hW : RowKit.Below W.heap.size W W2) : ¬ Pts W3 X W.heap.size := by
  have hs := h.size
  have hx := h.Xlt
  intro hp
  have e3 : W3.heap[X]? = W2.heap[X]? := hb.block X (by omega)
  have e2 : W2.heap[X]? = W.heap[X]? := hW.block X (by omega)
  have := (h.pts _ ((Pts.of_heap (e3.trans e2)).1 hp)).2
  omega
end
theorem abides_below {J : List SegD → World → Prop} {N : Nat} (hJ : AbidesFrom N J) {pre : List SegD} {W W' : World} (h : J pre W) (hb : RowKit.Below W.heap.size W W') : J pre W' :=
  hJ pre W W' none h (grown_of_below hb) (fun r e => by cases e)

set_option maxRecDepth 100000 in
set_option maxHeartbeats 2000000 in
theorem segIn_walk (n n₀ X B b off cap l : Nat) (d : Array CaseD) (rest : Int) (hn : 1 ≤ n) (hok : SwOK d rest) (J Jx : List SegD → World → Prop) (N : Nat) (hJ : AbidesFrom N J)
    (hY : ∀ pre x W, J pre W → pre.length < 17 → YieldAt Fence.wide (n - 1) Tryd.prog l (encs x) W fun e W' =>
      (e = .returned (.bool true) ∧ J (pre ++ [x]) W' ∧ KpX X W W') ∨ (e = .returned (.bool false) ∧ Jx (pre ++ [x]) W'))
    (W : World) (hI : ItAt n₀ X B b off cap d rest W) (h0 : J [] W) :
    CallsIn Fence.wide n Tryd.prog 96 #[.func (.yield l) #[] #[], .pointer (some ⟨B, 0, none⟩)] W fun e W' => (∃ v, e = .returned v) ∧
      ((∃ ys, vals ys = segs d rest ∧ J ys W') ∨ (∃ pre, True ∧ Jx pre W')) := by
  have HO := Lib.hid hok
  have HI := Lib.hid hI
  have HJ0 := Lib.hid h0
  have HJ := Lib.hid hJ
  have HY := Lib.hid hY
  have h8 : (d.size : Int) ≤ 8 := by have := hok.size; omega
  have c0 := hI.c0
  clear hok hI h0 hJ hY
  refine callsIn_of_wp Tryd.func96 rfl trivial ?_ rfl
  simp only [Tryd.ntmps96, List.size_toArray, List.length_cons, List.length_nil, Nat.reduceAdd, Nat.reduceSub, Array.replicate_succ, Array.replicate_zero, List.push_toArray, List.append_toArray, List.nil_append, List.cons_append]
  gi_wp2
  clear c0
  gi_loopw [3, 9] (fun v i wr => ∃ (k : Nat) (pre : List SegD), i = .int .i64 k ∧ v = .int .i64 (nextTo d k) ∧ k ≤ d.size ∧ Hid (vals pre = segTo d rest k) ∧ Hid (J pre wr) ∧ Hid (ItAt n₀ X B b off cap d rest wr)) (fun _ i _ => d.size - (intOf i).toNat)
  case atStart => exact ⟨0, [], rfl, rfl, Nat.zero_le _, rfl, HJ0.out, HI.out⟩
  case round =>
    obtain ⟨k, pre, rfl, rfl, hk, HV, HJk, HIk⟩ := hrel
    obtain ⟨nx, hnx⟩ : ∃ nx, nx = nextTo d k := ⟨_, rfl⟩
    have hnb := nextTo_bounds HO.out k hk
    rw [← hnx] at hnb ⊢
    have HNX := Lib.hid hnx
    clear hnx
    obtain ⟨hn0, hn32⟩ := hnb
    have b0 := HIk.out.c0
    have b1 := HIk.out.c1
    have hBs : B < wr.heap.size := Nat.lt_of_lt_of_le HIk.out.Blt HIk.out.size
    by_cases hlt : k < d.size
    · have hx := HIk.out.row
      have x0 := hx.low k hlt
      have x1 := hx.high k hlt
      have x2 := hx.target k hlt
      have x3 := hx.weight k hlt
      have hcase := HO.out.case k hlt
      have hle := nextTo_le HO.out k hlt
      clear hx
      obtain ⟨x, hxe⟩ : ∃ x, x = d[k]! := ⟨_, rfl⟩
      rw [← hxe] at x0 x1 x2 x3 hcase hle
      rw [← HNX.out] at hle
      have XE := Lib.hid hxe
      clear hxe
      have l1 := caseB_low hcase
      have l2 := caseB_high hcase
      obtain ⟨l11, l12⟩ := l1
      obtain ⟨l21, l22⟩ := l2
      have HC := Lib.hid hcase
      clear hcase
      have hpl : pre.length ≤ 14 := by
        have h1 := (segTo_length d rest k).2
        rw [← HV.out] at h1
        have h2 : (vals pre).length = pre.length := by simp [vals]
        omega
      -- the loop variable's box
      obtain ⟨wb, hwb⟩ : ∃ wb, wb = wr.alloc (.cells #[.int .i64 x.low, .int .i64 x.high, .string x.target, .int .i64 x.weight] 35) := ⟨_, rfl⟩
      have hzb : wb.heap.size = wr.heap.size + 1 := by rw [hwb]; simp
      have hbb : RowKit.Below wr.heap.size wr wb := by rw [hwb]; exact (Below.refl _ _).alloc (Nat.le_refl _) _
      have d0 : wb.cell? ⟨wr.heap.size, 0, none⟩ = some (.int .i64 x.low) := by rw [hwb]; simp
      have d1 : wb.cell? ⟨wr.heap.size, 1, none⟩ = some (.int .i64 x.high) := by rw [hwb]; simp
      have d2 : wb.cell? ⟨wr.heap.size, 2, none⟩ = some (.string x.target) := by rw [hwb]; simp
      have d3 : wb.cell? ⟨wr.heap.size, 3, none⟩ = some (.int .i64 x.weight) := by rw [hwb]; simp
      have HWB := Lib.hid hwb
      have HBB := Lib.hid hbb
      have HZB := Lib.hid hzb
      have HD := Lib.hid (⟨d0, d1, d2, d3⟩ : _ ∧ _ ∧ _ ∧ _)
      have HIb := Lib.hid (HIk.out.below hbb)
      clear hwb hbb hzb d0 d1 d2 d3
      have hrest := rest_bounds HO.out
      have HRS := Lib.hid hrest
      clear hrest
      have hXr : wr.heap.size ≠ X := by have := HIk.out.Xlt; have := HIk.out.size; omega
      have HN2 := Lib.hid (fun (w2 : World) (hb : RowKit.Below wb.heap.size wb w2) => HIk.out.own (W2 := wb) (W3 := w2) (HZB.out ▸ hb) HZB.out HBB.out)
      have HNX1 := Lib.hid (show nextTo d (k + 1) = x.high + 1 by rw [XE.out]; rfl)
      by_cases hg : nx < x.low
      · gi_wp2_with fail
        rw [← HWB.out]
        refine ⟨trivial, ?_⟩
        refine (callsIn_wide.2 (gap_any (some ⟨b, off, none⟩) d.size cap rest nx (x.low - 1) wb)).mono ?_
        rintro e w2 ⟨rfl, hb2⟩
        have HB2 := Lib.hid hb2
        have hz2 := hb2.size
        clear hb2
        have hlt2 : wr.heap.size < w2.heap.size := by have := HZB.out; omega
        obtain ⟨fn, tmps, assign, body, hy, hR⟩ := HY.out pre ⟨gapC rest nx (x.low - 1), gap_ok hn0 (by omega) (by omega) HRS.out.1 HRS.out.2⟩ w2 (abides_below HJ.out (abides_below HJ.out HJk.out HBB.out) HB2.out) (by omega)
        dsimp only [encs] at hy
        have HR := Lib.hid hR
        clear hR
        gi_wp2_with fail
        refine HR.out.mono ?_
        rintro e W3 (⟨rfl, hJ3, hk3⟩ | ⟨rfl, hJx3⟩)
        · have HN3 := Lib.hid (fun hp => (hk3.pts wr.heap.size hp).elim (HN2.out w2 HB2.out) (fun h => Nat.lt_irrefl _ (Nat.lt_of_lt_of_le hlt2 h)))
          have hbz : wr.heap.size < wb.heap.size := by have := HZB.out; omega
          have e0 := hk3.cell hXr (HN2.out w2 HB2.out) ((HB2.out.cell (p := ⟨wr.heap.size, 0, none⟩) hbz).trans HD.out.1)
          have e1 := hk3.cell hXr (HN2.out w2 HB2.out) ((HB2.out.cell (p := ⟨wr.heap.size, 1, none⟩) hbz).trans HD.out.2.1)
          have e2 := hk3.cell hXr (HN2.out w2 HB2.out) ((HB2.out.cell (p := ⟨wr.heap.size, 2, none⟩) hbz).trans HD.out.2.2.1)
          have e3 := hk3.cell hXr (HN2.out w2 HB2.out) ((HB2.out.cell (p := ⟨wr.heap.size, 3, none⟩) hbz).trans HD.out.2.2.2)
          have HI3 := Lib.hid ((HIb.out.below HB2.out).kp hk3)
          have HJ3 := Lib.hid hJ3
          clear hy hk3 hJ3 HR
          obtain ⟨fn, tmps, assign, body, hy, hR⟩ := HY.out _ ⟨x, okB_of_case HC.out⟩ W3 HJ3.out (by simp; omega)
          dsimp only [encs, aggC] at hy
          have HR := Lib.hid hR
          clear hR
          gi_wp2_with fail
          refine HR.out.mono ?_
          rintro e W4 (⟨rfl, hJ4, hk4⟩ | ⟨rfl, hJx4⟩)
          · have q1 := hk4.cell hXr HN3.out e1
            have HI4 := Lib.hid (HI3.out.kp hk4)
            have HJ4 := Lib.hid hJ4
            clear hy hk4 hJ4 HR e0 e1 e2 e3
            gi_wp2
            go_roundw
            case rel =>
              refine ⟨k + 1, _, by go_num, by rw [HNX1.out], by omega, ?_, HJ4.out, HI4.out⟩
              show vals _ = _
              rw [vals_snoc, vals_snoc, HV.out]
              show _ = segTo d rest k ++ (if nextTo d k < d[k]!.low then [gapC rest (nextTo d k) (d[k]!.low - 1)] else []) ++ [d[k]!]
              rw [← XE.out, ← HNX.out, if_pos hg]
            case measure => simp [intOf]; omega
          · gi_wp2
            refine bodyPost_ret (results_none rfl _ _ _) rfl ?_
            exact ⟨⟨_, rfl⟩, .inr ⟨_, trivial, hJx4⟩⟩
        · gi_wp2
          refine bodyPost_ret (results_none rfl _ _ _) rfl ?_
          exact ⟨⟨_, rfl⟩, .inr ⟨_, trivial, hJx3⟩⟩
      · have hg' : (decide (nx < x.low)) = false := by simpa using hg
        obtain ⟨fn, tmps, assign, body, hy, hR⟩ := HY.out pre ⟨x, okB_of_case HC.out⟩ wb (abides_below HJ.out HJk.out HBB.out) (by omega)
        dsimp only [encs, aggC] at hy
        rw [HWB.out] at hy
        have HR := Lib.hid hR
        clear hR
        gi_wp2_with fail
        refine ⟨trivial, ?_⟩
        gi_wp2_with fail
        refine ⟨fun _ h => (by cases h), ?_⟩
        gi_wp2_with fail
        rw [← HWB.out]
        refine HR.out.mono ?_
        rintro e W3 (⟨rfl, hJ3, hk3⟩ | ⟨rfl, hJx3⟩)
        · have q1 := hk3.cell hXr (HN2.out wb (Below.refl _ _)) HD.out.2.1
          have HI3 := Lib.hid (HIb.out.kp hk3)
          have HJ3 := Lib.hid hJ3
          clear hy hk3 hJ3 HR
          gi_wp2
          go_roundw
          case rel =>
            refine ⟨k + 1, _, by go_num, by rw [HNX1.out], by omega, ?_, HJ3.out, HI3.out⟩
            show vals _ = _
            rw [vals_snoc, HV.out]
            show _ = segTo d rest k ++ (if nextTo d k < d[k]!.low then [gapC rest (nextTo d k) (d[k]!.low - 1)] else []) ++ [d[k]!]
            rw [← XE.out, ← HNX.out, if_neg (by omega), List.append_nil]
          case measure => simp [intOf]; omega
        · gi_wp2
          refine bodyPost_ret (results_none rfl _ _ _) rfl ?_
          exact ⟨⟨_, rfl⟩, .inr ⟨_, trivial, hJx3⟩⟩
    · have hke : k = d.size := by omega
      have HKE := Lib.hid hke
      clear hke
      have hpl : pre.length ≤ 16 := by
        have h1 := (segTo_length d rest k).2
        rw [← HV.out] at h1
        have h2 : (vals pre).length = pre.length := by simp [vals]
        omega
      have hrest := rest_bounds HO.out
      have HRS := Lib.hid hrest
      clear hrest
      gi_wp2_with fail
      · have hle : nx ≤ 31 := by assumption
        refine ⟨trivial, ?_⟩
        refine (callsIn_wide.2 (gap_any (some ⟨b, off, none⟩) d.size cap rest nx 31 wr)).mono ?_
        rintro e w2 ⟨rfl, hb2⟩
        have HB2 := Lib.hid hb2
        clear hb2
        obtain ⟨fn, tmps, assign, body, hy, hR⟩ := HY.out pre ⟨gapC rest nx 31, gap_ok hn0 hle (by omega) HRS.out.1 HRS.out.2⟩ w2 (abides_below HJ.out HJk.out HB2.out) (by omega)
        dsimp only [encs] at hy
        have HR := Lib.hid hR
        clear hR
        gi_wp2_with fail
        refine HR.out.mono ?_
        rintro e W3 (⟨rfl, hJ3, hk3⟩ | ⟨rfl, hJx3⟩)
        · have HJ3 := Lib.hid hJ3
          clear hy hk3 hJ3 HR
          gi_wp2
          go_end0
          refine ⟨⟨_, rfl⟩, .inl ⟨_, ?_, HJ3.out⟩⟩
          rw [vals_snoc, HV.out, HKE.out]
          unfold segs
          rw [← HKE.out, ← HNX.out, if_pos hle]
        · gi_wp2
          go_end0
          exact ⟨⟨_, rfl⟩, .inr ⟨_, trivial, hJx3⟩⟩
      · have hle : 31 < nx := by assumption
        go_end0
        refine ⟨⟨_, rfl⟩, .inl ⟨pre, ?_, HJk.out⟩⟩
        rw [HV.out]
        unfold segs
        rw [← HKE.out, ← HNX.out, if_neg (by omega), List.append_nil]

/-- What segmentsIn hands back: all segments, in order. -/
theorem segIn_stops (n X B b off cap : Nat) (d : Array CaseD) (rest : Int) (w : World) (hn : 1 ≤ n) (hok : SwOK d rest) (c0 : w.cell? ⟨B, 0, none⟩ = some (.slice (some ⟨b, off, none⟩) d.size cap)) (c1 : w.cell? ⟨B, 1, none⟩ = some (.int .i64 rest))
    (hR : RowC w b off d) (hX : X < w.heap.size) (hB : B < w.heap.size) (hXB : X ≠ B) (hXb : X ≠ b) (hp : ∀ j, ¬ Pts w X j) :
    SeqStopsK Fence.wide n Tryd.prog 96 #[.pointer (some ⟨B, 0, none⟩)] (fun x : SegD => #[Value.agg #[.int .i64 x.1.low, .int .i64 x.1.high, .string x.1.target, .int .i64 x.1.weight]]) (KpX X) (fun ys => vals ys = segs d rest) (fun _ => True) 17 w := fun l J Jx W hW hJ _ hY h0 => by
  have hx : W.heap[X]? = w.heap[X]? := hW.block X hX
  refine segIn_walk n w.heap.size X B b off cap l d rest hn hok J Jx _ hJ hY W ⟨(hW.cell (p := ⟨B, 0, none⟩) hB).trans c0, (hW.cell (p := ⟨B, 1, none⟩) hB).trans c1, hR.below hW, hW.size, hX, hB, hR.old, hXB, hXb, fun j hj => absurd ((Pts.of_heap hx).1 hj) (hp j)⟩ h0
end Go.Proofs.YtjmfcnblkojejaaDoor

namespace Go.Proofs.YtjmfcnblkojejaaDoor
open Go.RowKit Go.Shelf Go.Lib Go.Sort

def flatL (l : List CaseD) : List Value := l.flatMap encC
theorem flatL_snoc (l : List CaseD) (x : CaseD) : flatL l ++ encC x = flatL (l ++ [x]) := by simp [flatL]
theorem flatL_length : ∀ l : List CaseD, (flatL l).length = l.length * 4
  | [] => rfl
  | c :: l => by
    have ih := flatL_length l
    show (encC c ++ flatL l).length = _
    rw [List.length_append, ih, List.length_cons, show (encC c).length = 4 from rfl]
    omega
theorem flatL_get : ∀ (l : List CaseD) (j r : Nat), r < 4 → (flatL l)[j * 4 + r]? = (l[j]?).bind fun c => (encC c)[r]?
  | [], j, r, _ => by simp [flatL]
  | c :: l, 0, r, hr => by
    show (encC c ++ flatL l)[0 * 4 + r]? = _
    rw [List.getElem?_append_left (by rw [show (encC c).length = 4 from rfl]; omega)]
    simp
  | c :: l, j + 1, r, hr => by
    show (encC c ++ flatL l)[(j + 1) * 4 + r]? = _
    rw [List.getElem?_append_right (by rw [show (encC c).length = 4 from rfl]; omega), show (encC c).length = 4 from rfl, show (j + 1) * 4 + r - 4 = j * 4 + r by omega, flatL_get l j r hr]
    simp
theorem toArray_get (l : List CaseD) (j : Nat) : l.toArray[j]! = l[j]! := by simp
theorem owns_row {w : World} {base g n cap : Nat} {l : List CaseD} (ho : w.ownsRow base 35 4 (.slice (some ⟨g, 0, none⟩) n cap) n (flatL l)) : RowC w g 0 l.toArray := by
  have hn : n = l.length := by have h1 := ho.1; rw [flatL_length] at h1; omega
  have hg : g < w.heap.size := (ho.lt g rfl).2
  have hc : ∀ j r, j < l.length → r < 4 → w.cell? ⟨g, 0 + j * 4 + r, none⟩ = (encC l[j]!)[r]? := fun j r hj hr => by
    rw [Nat.zero_add, ho.cellAt (j * 4 + r) (by omega), flatL_get l j r hr]
    simp [hj]
  refine ⟨hg, fun j hj => ?_, fun j hj => ?_, fun j hj => ?_, fun j hj => ?_⟩
  all_goals
    have hj' : j < l.length := by simpa using hj
    rw [toArray_get]
  · exact hc j 0 hj' (by decide)
  · exact hc j 1 hj' (by decide)
  · exact hc j 2 hj' (by decide)
  · exact hc j 3 hj' (by decide)
theorem infoC : (Tryd.prog.info? 35).map (fun i => (i.zero, i.size, i.bytes)) = some (some (.agg #[.int .i64 0, .int .i64 0, .string ⟨#[]⟩, .int .i64 0]), 4, 40) := by kernel_rfl
def zeroC : Value := .agg #[.int .i64 0, .int .i64 0, .string ⟨#[]⟩, .int .i64 0]
theorem cells_new (W : World) (c : CaseD) (T : TypeId) : ∀ j u, (encC c)[j]? = some u → (W.alloc (.cells #[.int .i64 c.low, .int .i64 c.high, .string c.target, .int .i64 c.weight] T)).cell? ((⟨W.heap.size, 0, none⟩ : Addr).add j) = some u := fun j u hj => by
  match j, hj with
  | 0, hj => simp only [encC, List.getElem?_cons_zero, Option.some.injEq] at hj; subst hj; simp [Addr.add]
  | 1, hj => simp [encC] at hj; subst hj; simp [Addr.add]
  | 2, hj => simp [encC] at hj; subst hj; simp [Addr.add]
  | 3, hj => simp [encC] at hj; subst hj; simp [Addr.add]
  | j + 4, hj => simp [encC] at hj
theorem cells_at {W : World} {g : Nat} {v0 v1 v2 v3 : Value} {T : TypeId} (hg : g = W.heap.size) : ∀ j u, [v0, v1, v2, v3][j]? = some u → (W.alloc (.cells #[v0, v1, v2, v3] T)).cell? ((⟨g, 0, none⟩ : Addr).add j) = some u := fun j u hj => by
  subst hg
  match j, hj with
  | 0, hj => simp at hj; subst hj; simp [Addr.add]
  | 1, hj => simp at hj; subst hj; simp [Addr.add]
  | 2, hj => simp at hj; subst hj; simp [Addr.add]
  | 3, hj => simp at hj; subst hj; simp [Addr.add]
  | j + 4, hj => simp at hj
theorem below_append {a wr w1 : World} {B : Nat} {v : Value} {base : Nat} {e : TypeId} {size n : Nat} {xs : List Value} {tmp : Obj} (hb : RowKit.Below B a wr) (hB : B ≤ wr.heap.size) (hg : (wr.alloc tmp).grownBy w1 v.ownBlock) (ho : wr.ownsRow base e size v n xs) (hbase : B ≤ base) : RowKit.Below B a w1 :=
  (hb.alloc hB tmp).grown hg (by simp; omega) (fun q hq => Nat.le_trans hbase (ho.lt q hq).1)
theorem owns_not_nil {w : World} {base : Nat} {e : TypeId} {size n : Nat} {v : Value} {xs : List Value} (h : w.ownsRow base e size v (n + 1) xs) : v ≠ .slice none 0 0 := fun e' => by
  rcases h.2 with ⟨_, h0⟩ | ⟨g, cap, cur, h0, _⟩
  · omega
  · rw [e'] at h0
    cases h0
theorem owns_base {w : World} {base base' : Nat} {e : TypeId} {size n : Nat} {v : Value} {xs : List Value} (h : w.ownsRow base e size v n xs) (hb : base' ≤ base) : w.ownsRow base' e size v n xs := by
  refine ⟨h.1, ?_⟩
  rcases h.2 with hn | ⟨g, cap, cur, hv, hbg, r⟩
  · exact .inl hn
  · exact .inr ⟨g, cap, cur, hv, Nat.le_trans hb hbg, r⟩
end Go.Proofs.YtjmfcnblkojejaaDoor

namespace Go.Proofs.YtjmfcnblkojejaaDoor
open Go.RowKit Go.Shelf Go.Lib Go.Sort

/-- A slice value that a call has made: it owns the cases of a list. -/
def OwnsC (base : Nat) (v : Value) (l : List CaseD) (w : World) : Prop := w.ownsRow base 35 4 v l.length (flatL l)

set_option maxRecDepth 100000 in
set_option maxHeartbeats 2000000 in
theorem l2Segments_any (b off cap : Nat) (d : Array CaseD) (rest : Int) (w : World) (hR : RowC w b off d) (hok : SwOK d rest) :
    Calls Tryd.prog 51 #[.agg #[.slice (some ⟨b, off, none⟩) d.size cap, .int .i64 rest]] w fun x w' => ∃ v, x = .returned v ∧ OwnsC w.heap.size v (segs d rest) w' ∧ v ≠ .slice none 0 0 ∧ RowKit.Below w.heap.size w w' := by
  have HR := Lib.hid hR
  have HO := Lib.hid hok
  have h8 : (d.size : Int) ≤ 8 := by have := hok.size; omega
  have hrest := rest_bounds hok
  obtain ⟨i0, hi, hi0, hi1, hi2⟩ := info_parts infoC
  obtain ⟨wa, hwa⟩ : ∃ wa, wa = (w.alloc (.cells #[.slice (some ⟨b, off, none⟩) d.size cap, .int .i64 rest] 25)).alloc (.cells #[] 35) := ⟨_, rfl⟩
  have c0 : wa.cell? ⟨w.heap.size, 0, none⟩ = some (.slice (some ⟨b, off, none⟩) d.size cap) := by rw [hwa]; simp [go_sem]
  have c1 : wa.cell? ⟨w.heap.size, 1, none⟩ = some (.int .i64 rest) := by rw [hwa]; simp [go_sem]
  have hza : wa.heap.size = w.heap.size + 2 := by rw [hwa]; simp
  have hba : RowKit.Below w.heap.size w wa := by rw [hwa]; exact ((Below.refl _ _).alloc (Nat.le_refl _) _).alloc (by simp) _
  have hown : wa.ownsRow (w.heap.size + 1) 35 4 (.slice (some ⟨w.heap.size + 1, 0, none⟩) 0 0) 0 [] := by
    rw [hwa]
    have := World.ownsRow_made (base := w.heap.size + 1) (e := 35) (size := 4) (w.alloc (.cells #[.slice (some ⟨b, off, none⟩) d.size cap, .int .i64 rest] 25)) #[] 0 (by simp) (by unfold maxLen; omega) rfl
    simpa using this
  have HA := Lib.hid hba
  have HOW := Lib.hid hown
  have HZA := Lib.hid hza
  have C1 := Lib.hid c1
  have HRS := Lib.hid hrest
  clear hR hok hba hown hza hrest
  go_enter Tryd.func51, Tryd.ntmps51
  go_wp2_with fail
  rw [← hwa]
  clear hwa c0 c1
  go_loopw [3, 4, 11] (fun v nx i wr => ∃ k : Nat, i = .int .i64 k ∧ nx = .int .i64 (nextTo d k) ∧ k ≤ d.size ∧ Hid (OwnsC (w.heap.size + 1) v (segTo d rest k) wr) ∧ Hid (v ≠ .slice none 0 0) ∧ Hid (RowKit.Below (w.heap.size + 1) wa wr) ∧ wa.heap.size ≤ wr.heap.size) (fun _ _ i _ => d.size - (intOf i).toNat)
  case atStart => exact ⟨0, rfl, rfl, Nat.zero_le _, HOW.out, (by intro h; cases h), Below.refl _ _, Nat.le_refl _⟩
  case round =>
    obtain ⟨k, rfl, rfl, hk, HOk, HNN, HW, hw2⟩ := hrel
    obtain ⟨nx, hnx⟩ : ∃ nx, nx = nextTo d k := ⟨_, rfl⟩
    have hnb := nextTo_bounds HO.out k hk
    rw [← hnx] at hnb ⊢
    have HNX := Lib.hid hnx
    clear hnx
    obtain ⟨hn0, hn32⟩ := hnb
    have HWW := Lib.hid (HA.out.trans (HW.out.mono (Nat.le_succ _)))
    have hlen := (segTo_length d rest k).2
    obtain ⟨L, hL⟩ : ∃ L, L = segTo d rest k := ⟨_, rfl⟩
    rw [← hL] at hlen HOk
    have HL := Lib.hid hL
    clear hL
    have r1 := (HW.out.cell (p := ⟨w.heap.size, 1, none⟩) (Nat.lt_succ_self _)).trans C1.out
    have hzl : w.heap.size < wr.heap.size := by have := HZA.out; omega
    by_cases hlt : k < d.size
    · have hx := HR.out.below HWW.out
      have x0 := hx.low k hlt
      have x1 := hx.high k hlt
      have x2 := hx.target k hlt
      have x3 := hx.weight k hlt
      have hcase := HO.out.case k hlt
      have hle := nextTo_le HO.out k hlt
      clear hx
      obtain ⟨x, hxe⟩ : ∃ x, x = d[k]! := ⟨_, rfl⟩
      rw [← hxe] at x0 x1 x2 x3 hcase hle
      rw [← HNX.out] at hle
      have XE := Lib.hid hxe
      clear hxe
      have l1 := caseB_low hcase
      have l2 := caseB_high hcase
      obtain ⟨l11, l12⟩ := l1
      obtain ⟨l21, l22⟩ := l2
      clear hcase
      have HNX1 := Lib.hid (show nextTo d (k + 1) = x.high + 1 by rw [XE.out]; rfl)
      have HS1 := Lib.hid (show segTo d rest (k + 1) = L ++ (if nx < x.low then [gapC rest nx (x.low - 1)] else []) ++ [x] by rw [HL.out, HNX.out, XE.out]; rfl)
      by_cases hg : nx < x.low
      · have hnr := old_row HOk.out (Nat.le_refl _)
        have HNR := Lib.hid hnr
        clear hnr
        go_wp2_with (first
          | (at_builtin; refine wpList_append_at _ rfl (.tmp 19) (.tmp 27) 23 rfl (w.heap.size + 1) 35 i0 zeroC 4 40 Tryd.underlying23 hi hi0 hi1 hi2 rfl (by decide) _ _ _ rfl ((World.ownsRow.alloc HOk.out _).alloc _) ⟨wr.heap.size + 1, 0, none⟩ 1 1 (encC (gapC rest nx (x.low - 1))) rfl rfl ?c1 (encC_one _) (by unfold maxLen; omega) (by omega) (by simp; omega) (by decide) ?_)
          | fail)
        case c1 => exact cells_at (by simp)
        intro v1 w1 hown1 hgrow1 hat1
        rw [flatL_snoc] at hown1
        have q0 := hgrow1.cell (a := ⟨wr.heap.size, 0, none⟩) (v := .int .i64 x.low) (by simp) (Ne.symm HNR.out)
        have q1 := hgrow1.cell (a := ⟨wr.heap.size, 1, none⟩) (v := .int .i64 x.high) (by simp) (Ne.symm HNR.out)
        have q2 := hgrow1.cell (a := ⟨wr.heap.size, 2, none⟩) (v := .string x.target) (by simp) (Ne.symm HNR.out)
        have q3 := hgrow1.cell (a := ⟨wr.heap.size, 3, none⟩) (v := .int .i64 x.weight) (by simp) (Ne.symm HNR.out)
        have HB1 := Lib.hid (below_append (HW.out.alloc (by omega) _) (by simp; omega) hgrow1 (World.ownsRow.alloc HOk.out _) (Nat.le_refl _))
        have hz1 : wr.heap.size + 2 ≤ w1.heap.size := by have := hgrow1.size; simpa using this
        have HN1 := Lib.hid (not_row hat1 HNR.out (by omega))
        have HO1 := Lib.hid hown1
        clear hown1 hgrow1 hat1
        go_wp2_with (first
          | (at_builtin; refine wpList_append_at _ rfl (.tmp 29) (.tmp 31) 23 rfl (w.heap.size + 1) 35 i0 zeroC 4 40 Tryd.underlying23 hi hi0 hi1 hi2 rfl (by decide) _ _ _ rfl (World.ownsRow.alloc HO1.out _) ⟨w1.heap.size, 0, none⟩ 1 1 (encC x) rfl rfl ?c1 (encC_one _) (by unfold maxLen; omega) (by omega) (by simp; omega) (by decide) ?_)
          | fail)
        case c1 => exact cells_at rfl
        intro v2 w2 hown2 hgrow2 _
        rw [flatL_snoc] at hown2
        have p1 := hgrow2.cell (a := ⟨wr.heap.size, 1, none⟩) (v := .int .i64 x.high) (by rw [World.cell?_alloc_lt _ _ _ (by show wr.heap.size < _; omega)]; exact q1) HN1.out
        have HB2 := Lib.hid (below_append HB1.out (by omega) hgrow2 HO1.out (Nat.le_refl _))
        have hz2 : wr.heap.size + 2 ≤ w2.heap.size := by have := hgrow2.size; simp at this; omega
        have HO2 := Lib.hid hown2
        have HNV := Lib.hid (owns_not_nil hown2)
        clear hown2 hgrow2 q0 q1 q2 q3
        go_wp2
        go_roundw
        case rel =>
          refine ⟨k + 1, by go_num, by rw [HNX1.out], by omega, ?_, HNV.out, HB2.out, by omega⟩
          show OwnsC _ _ _ _
          rw [HS1.out, if_pos hg]
          unfold OwnsC
          simpa using HO2.out
        case measure => simp [intOf]; omega
      · have hnr := old_row HOk.out (Nat.le_refl _)
        have HNR := Lib.hid hnr
        clear hnr
        go_wp2_with (first
          | (at_builtin; refine wpList_append_at _ rfl (.tmp 29) (.tmp 31) 23 rfl (w.heap.size + 1) 35 i0 zeroC 4 40 Tryd.underlying23 hi hi0 hi1 hi2 rfl (by decide) _ _ _ rfl ((World.ownsRow.alloc HOk.out _).alloc _) ⟨wr.heap.size + 1, 0, none⟩ 1 1 (encC x) rfl rfl ?c1 (encC_one _) (by unfold maxLen; omega) (by omega) (by simp; omega) (by decide) ?_)
          | fail)
        case c1 => exact fun _ _ h => h
        intro v2 w2 hown2 hgrow2 _
        rw [flatL_snoc] at hown2
        have p1 := hgrow2.cell (a := ⟨wr.heap.size, 1, none⟩) (v := .int .i64 x.high) (by simp) (Ne.symm HNR.out)
        have HB2 := Lib.hid (below_append (HW.out.alloc (by omega) _) (by simp; omega) hgrow2 (World.ownsRow.alloc HOk.out _) (Nat.le_refl _))
        have hz2 : wr.heap.size + 2 ≤ w2.heap.size := by have := hgrow2.size; simpa using this
        have HO2 := Lib.hid hown2
        have HNV := Lib.hid (owns_not_nil hown2)
        clear hown2 hgrow2
        go_wp2
        go_roundw
        case rel =>
          refine ⟨k + 1, by go_num, by rw [HNX1.out], by omega, ?_, HNV.out, HB2.out, by omega⟩
          show OwnsC _ _ _ _
          rw [HS1.out, if_neg (by omega), List.append_nil]
          unfold OwnsC
          simpa using HO2.out
        case measure => simp [intOf]; omega
    · have hke : k = d.size := by omega
      have HKE := Lib.hid hke
      clear hke
      have HSE := Lib.hid (show segs d rest = L ++ (if nx ≤ 31 then [gapC rest nx 31] else []) by rw [HL.out, HNX.out, HKE.out]; rfl)
      go_wp2_with (first
          | (at_builtin; refine wpList_append_at _ rfl (.tmp 39) (.tmp 44) 23 rfl (w.heap.size + 1) 35 i0 zeroC 4 40 Tryd.underlying23 hi hi0 hi1 hi2 rfl (by decide) _ _ _ rfl (World.ownsRow.alloc HOk.out _) ⟨wr.heap.size, 0, none⟩ 1 1 (encC (gapC rest nx 31)) rfl rfl ?c1 (encC_one _) (by unfold maxLen; omega) (by omega) (by simp; omega) (by decide) ?_)
          | fail)
      case c1 => exact cells_at rfl
      · intro v2 w2 hown2 hgrow2 _
        rw [flatL_snoc] at hown2
        have hle : nx ≤ 31 := by assumption
        have HB2 := Lib.hid (below_append HW.out (by omega) hgrow2 HOk.out (Nat.le_refl _))
        have HO2 := Lib.hid hown2
        have HNV := Lib.hid (owns_not_nil hown2)
        clear hown2 hgrow2
        go_wp2
        go_ret
        refine ⟨_, rfl, ?_, HNV.out, HA.out.trans (HB2.out.mono (Nat.le_succ _))⟩
        rw [HSE.out, if_pos hle]
        unfold OwnsC
        simpa using owns_base HO2.out (Nat.le_succ _)
      · have hle : 31 < nx := by assumption
        go_ret
        refine ⟨_, rfl, ?_, HNN.out, HWW.out⟩
        rw [HSE.out, if_neg (by omega), List.append_nil]
        exact owns_base HOk.out (Nat.le_succ _)
end Go.Proofs.YtjmfcnblkojejaaDoor

namespace Go.Proofs.YtjmfcnblkojejaaDoor
open Go.RowKit Go.Shelf Go.Lib Go.Sort

attribute [local go_sem] Oper.semAt_some

theorem owns_form {base : Nat} {v : Value} {l : List CaseD} {w : World} (h : OwnsC base v l w) (hn : v ≠ .slice none 0 0) : ∃ g cap, v = .slice (some ⟨g, 0, none⟩) l.length cap ∧ base ≤ g ∧ l.length ≤ cap ∧ cap ≤ maxLen := by
  rcases h.2 with ⟨h0, _⟩ | ⟨g, cap, cur, h0, hb, _, h1, h2, _⟩
  · exact absurd h0 hn
  · exact ⟨g, cap, h0, hb, h1, h2⟩
noncomputable def gapsI (d : Array CaseD) (rest : Int) : Int := if swB d rest = true then (gapsN d rest : Int) else -1

set_option maxRecDepth 100000 in
set_option maxHeartbeats 1000000 in
theorem specGaps_any (b off cap : Nat) (d : Array CaseD) (rest : Int) (w : World) (hR : RowC w b off d) (hcap : d.size ≤ cap) (hmax : cap ≤ maxLen) :
    Calls Tryd.prog 13 #[.agg #[.slice (some ⟨b, off, none⟩) d.size cap, .int .i64 rest]] w fun x w' => x = .returned (.int .i64 (gapsI d rest)) ∧ RowKit.Below w.heap.size w w' := by
  have hv := fun W (hW : RowKit.Below w.heap.size w W) => specValid_any b off cap d rest W (hR.below hW) hcap hmax
  have hk := fun W (hW : RowKit.Below w.heap.size w W) (ho : SwOK d rest) => l2Segments_any b off cap d rest W (hR.below hW) ho
  have HK := Lib.hid hk
  obtain ⟨wa, hwa⟩ : ∃ wa, wa = w.alloc (.cells #[.slice (some ⟨b, off, none⟩) d.size cap, .int .i64 rest] 25) := ⟨_, rfl⟩
  have c0 : wa.cell? ⟨w.heap.size, 0, none⟩ = some (.slice (some ⟨b, off, none⟩) d.size cap) := by rw [hwa]; simp
  have c1 : wa.cell? ⟨w.heap.size, 1, none⟩ = some (.int .i64 rest) := by rw [hwa]; simp
  have hz : w.heap.size < wa.heap.size := by rw [hwa]; simp
  have hba : RowKit.Below w.heap.size w wa := by rw [hwa]; exact (Below.refl _ _).alloc (Nat.le_refl _) _
  have HA := Lib.hid hba
  have C0 := Lib.hid c0
  have C1 := Lib.hid c1
  have HWA := Lib.hid hwa
  clear hba c0 c1 hwa hk hR
  cases hs : swB d rest
  all_goals
    simp only [hs] at hv
    have HV := Lib.hid hv
    have HS := Lib.hid hs
    clear hv hs
    go_enter Tryd.func13, Tryd.ntmps13
    go_wp2_with fail
    rw [← HWA.out]
    refine (HV.out _ HA.out).mono ?_
    rintro x w1 ⟨rfl, hb⟩
    have HB := Lib.hid hb
    have hz1 := hb.size
    have a0 := (hb.cell (p := ⟨w.heap.size, 0, none⟩) hz).trans C0.out
    have a1 := (hb.cell (p := ⟨w.heap.size, 1, none⟩) hz).trans C1.out
    clear hb
    go_wp2_with fail
  · go_ret
    exact ⟨retI (by rw [gapsI, if_neg (by rw [HS.out]; exact Bool.false_ne_true)]), HA.out.trans (HB.out.mono (by omega))⟩
  · have HO := Lib.hid ((swB_iff _ _).1 HS.out)
    have h8 : (d.size : Int) ≤ 8 := by have := HO.out.size; omega
    have HWB := Lib.hid (HA.out.trans (HB.out.mono (by omega)))
    have h17 := segs_length HO.out
    have HE := Lib.hid (gapsN_length HO.out)
    obtain ⟨n, hn⟩ : ∃ n, n = (segs d rest).length := ⟨_, rfl⟩
    rw [← hn] at h17 HE
    have HN := Lib.hid hn
    clear hn
    go_region_with (go_at_call 51; refine (HK.out _ HWB.out.drew HO.out).mono ?_; rintro x w2 ⟨v, rfl, ho, hnn, hb2⟩; obtain ⟨g, cp, hvv, _, _, hcp⟩ := owns_form ho hnn; rw [← HN.out] at hvv; subst hvv; have e0 := (hb2.cell (p := ⟨w.heap.size, 0, none⟩) (Nat.lt_of_lt_of_le hz hz1)).trans a0; have HB2 := Lib.hid (HWB.out.drew.trans (hb2.mono HWB.out.drew.size)); clear ho hnn hb2)
    all_goals
      go_wp2
      go_ret
      exact ⟨retI (by rw [gapsI, if_pos HS.out]; have := HE.out; rw [IntWalk.i64_in _ (by omega)]; omega), HB2.out⟩

/-! the program's -/
theorem grown_below {W W' : World} (h : W.grownBy W' none) : RowKit.Below W.heap.size W W' := (Below.refl _ _).grown h (Nat.le_refl _) (fun k e => by cases e)
def cntZ (l : List CaseD) : Int := (l.filter fun c => c.target.toList == zS.toList).length
theorem cntZ_snoc (l : List CaseD) (x : CaseD) : cntZ (l ++ [x]) = cntZ l + (if (x.target.toList == zS.toList) = true then 1 else 0) := by
  unfold cntZ
  rw [List.filter_append, List.length_append]
  cases h : (x.target.toList == zS.toList) <;> simp [h]
theorem cntZ_le (l : List CaseD) : 0 ≤ cntZ l ∧ cntZ l ≤ l.length := by
  unfold cntZ
  have := List.length_filter_le (fun c : CaseD => c.target.toList == zS.toList) l
  omega
/-- A block that holds one case. -/
def Box4 (W : World) (B : Nat) (x : CaseD) : Prop := W.heap[B]? = some (.cells #[.int .i64 x.low, .int .i64 x.high, .string x.target, .int .i64 x.weight] 35 (0, 0))
theorem Box4.new (W : World) (x : CaseD) : Box4 (W.alloc (.cells #[.int .i64 x.low, .int .i64 x.high, .string x.target, .int .i64 x.weight] 35)) W.heap.size x := World.alloc_heap_new W _
theorem Box4.lt {W : World} {B : Nat} {x : CaseD} (h : Box4 W B x) : B < W.heap.size := (Array.getElem?_eq_some_iff.1 h).1
theorem Box4.kept {W W' : World} {row : Option Nat} {B : Nat} {x : CaseD} (h : Box4 W B x) (hg : W.grownBy W' row) (hne : some B ≠ row) : Box4 W' B x := (hg.block B h.lt hne).trans h
theorem box4_own (B : Nat) (x : CaseD) : Own (fun (_ : Unit) W => Box4 W B x) := fun _ X Y row hs hg hrow =>
  hs.kept hg (fun e' => by obtain ⟨o, ho, hc⟩ := hrow B e'.symm; rw [show X.heap[B]? = _ from hs] at ho; cases ho; cases hc)
theorem Box4.cells {W : World} {B : Nat} {x : CaseD} (h : Box4 W B x) : W.cell? ⟨B, 0, none⟩ = some (.int .i64 x.low) ∧ W.cell? ⟨B, 1, none⟩ = some (.int .i64 x.high) ∧ W.cell? ⟨B, 2, none⟩ = some (.string x.target) ∧ W.cell? ⟨B, 3, none⟩ = some (.int .i64 x.weight) := by
  refine ⟨?_, ?_, ?_, ?_⟩ <;> simp [World.cell?, show W.heap[B]? = _ from h]

set_option maxHeartbeats 400000 in
theorem segmentsIn_any (v : Option Addr) (n cap : Nat) (rest : Int) (w : World) :
    Calls Tryd.prog 49 #[.agg #[.slice v n cap, .int .i64 rest]] w fun x w' => x = .returned (.func (.func 96) #[] #[.pointer (some ⟨w.heap.size, 0, none⟩)]) ∧ w' = w.alloc (.cells #[.slice v n cap, .int .i64 rest] 25) := by
  go_enter Tryd.func49, Tryd.ntmps49
  go_wp2
  go_ret
  exact ⟨rfl, rfl⟩

set_option maxRecDepth 100000 in
set_option maxHeartbeats 2000000 in
theorem implGaps_any (b off cap : Nat) (d : Array CaseD) (rest : Int) (w : World) (hR : RowC w b off d) (hE : ErrAt w) (hcap : d.size ≤ cap) (hmax : cap ≤ maxLen) :
    Calls Tryd.prog 12 #[.agg #[.slice (some ⟨b, off, none⟩) d.size cap, .int .i64 rest]] w fun x w' => x = .returned (.int .i64 (gapsI d rest)) ∧ RowKit.Below w.heap.size w w' := by
  have hv := fun W (hW : RowKit.Below w.heap.size w W) => switchValid_any b off cap d rest W (hR.below hW) (hE.below hW) hcap hmax
  have HR := Lib.hid hR
  obtain ⟨wa, hwa⟩ : ∃ wa, wa = w.alloc (.cells #[.slice (some ⟨b, off, none⟩) d.size cap, .int .i64 rest] 25) := ⟨_, rfl⟩
  have c0 : wa.cell? ⟨w.heap.size, 0, none⟩ = some (.slice (some ⟨b, off, none⟩) d.size cap) := by rw [hwa]; simp
  have c1 : wa.cell? ⟨w.heap.size, 1, none⟩ = some (.int .i64 rest) := by rw [hwa]; simp
  have hz : wa.heap.size = w.heap.size + 1 := by rw [hwa]; simp
  have hba : RowKit.Below w.heap.size w wa := by rw [hwa]; exact (Below.refl _ _).alloc (Nat.le_refl _) _
  have HA := Lib.hid hba
  have C0 := Lib.hid c0
  have C1 := Lib.hid c1
  have HWA := Lib.hid hwa
  clear hba c0 c1 hwa hR hE
  refine (callsIn_wide (n := 5)).1 ?_
  cases hs : swB d rest
  all_goals
    simp only [hs] at hv
    have HV := Lib.hid hv
    have HS := Lib.hid hs
    clear hv hs
    refine callsIn_of_wp_marks Tryd.func12 rfl trivial ?_ rfl
    simp only [Tryd.ntmps12, List.size_toArray, List.length_cons, List.length_nil, Nat.reduceAdd, Nat.reduceSub, Array.replicate_succ, Array.replicate_zero, List.push_toArray, List.append_toArray, List.nil_append, List.cons_append]
    gi_wp2_with fail
    rw [← HWA.out]
    refine ⟨trivial, ?_⟩
    refine (callsIn_wide.2 (HV.out _ HA.out)).mono ?_
    rintro x w1 ⟨rfl, hb⟩
    have HB := Lib.hid hb
    have hz1 := hb.size
    have a0 := (hb.cell (p := ⟨w.heap.size, 0, none⟩) (by rw [hz]; exact Nat.lt_succ_self _)).trans C0.out
    have a1 := (hb.cell (p := ⟨w.heap.size, 1, none⟩) (by rw [hz]; exact Nat.lt_succ_self _)).trans C1.out
    clear hb
    have hwz : w.heap.size < w1.heap.size := by omega
    gi_wp2_with fail
  · refine ⟨_, results_tmp rfl _ _ _, ?_, HA.out.trans (HB.out.mono (by omega))⟩
    exact retI (a := -1) (b := gapsI d rest) (by rw [gapsI, if_neg (by rw [HS.out]; exact Bool.false_ne_true)])
  · have HO := Lib.hid ((swB_iff _ _).1 HS.out)
    have HWB := Lib.hid (HA.out.trans (HB.out.mono (by omega)))
    refine ⟨trivial, ?_⟩
    refine (callsIn_wide.2 (segmentsIn_any (some ⟨b, off, none⟩) d.size cap rest _)).mono ?_
    rintro e w2 ⟨rfl, rfl⟩
    gi_wp2_with fail
    have bX := (Boxed.new w1 3 (.int .i64 0)).alloc (.cells #[.slice (some ⟨b, off, none⟩) d.size cap, .int .i64 rest] 25)
    obtain ⟨W0, hW0⟩ : ∃ W0, W0 = (w1.alloc (.cells #[.int .i64 0] 3)).alloc (.cells #[.slice (some ⟨b, off, none⟩) d.size cap, .int .i64 rest] 25) := ⟨_, rfl⟩
    have e0 : W0.cell? ⟨w1.heap.size + 1, 0, none⟩ = some (.slice (some ⟨b, off, none⟩) d.size cap) := by rw [hW0]; simp [go_sem]
    have e1 : W0.cell? ⟨w1.heap.size + 1, 1, none⟩ = some (.int .i64 rest) := by rw [hW0]; simp [go_sem]
    have hsz : W0.heap.size = w1.heap.size + 2 := by rw [hW0]; simp
    have hB0 : RowKit.Below w1.heap.size w1 W0 := by rw [hW0]; exact ((Below.refl _ _).alloc (Nat.le_refl _) _).alloc (by simp) _
    rw [← hW0] at bX ⊢
    clear hW0
    have hRW := HR.out.below (HWB.out.trans (hB0.mono (by omega)))
    have hbl : b < w1.heap.size := (HR.out.below HWB.out).old
    have hnp : ∀ j, ¬ Pts W0 w1.heap.size j := fun j ⟨u, hu, hj⟩ => by rw [bX.cell] at hu; cases hu; cases hj
    have hx0 : w1.heap.size < W0.heap.size := by omega
    have hseq := segIn_stops 4 w1.heap.size (w1.heap.size + 1) b off cap d rest W0 (by decide) HO.out e0 e1 hRW hx0 (by omega) (by omega) (by omega) hnp
    have HSEQ := Lib.hid hseq
    have HB0 := Lib.hid hB0
    clear hseq hRW hnp e0 e1 hB0
    refine wpIn_rangeFunc_ownH rfl (by decide) (gf := 96) (lb := #[.pointer (some ⟨w1.heap.size + 1, 0, none⟩)]) rfl trivial (enters_of Tryd.func96 (by kernel_rfl) rfl)
      HSEQ.out KpX.trans (kpX_b hx0) (Below.refl _ _) (fun _ => rfl)
      (fun pre W => Boxed W w1.heap.size 3 (.int .i64 (cntZ (vals pre))) ∧ RowKit.Below w1.heap.size w1 W)
      (fun _ _ _ => False)
      (OwnFrom.and (Own.from (boxed_own _ _ _) _) (ownFrom_below (Nat.le_refl _) (by omega)))
      (fun _ _ _ _ _ hs _ _ => hs)
      ⟨bX, HB0.out⟩
      (fun x a' W => ∃ Bx, w1.heap.size < Bx ∧ Box4 W Bx x.1 ∧ a' = { tmps := #[.agg #[.slice (some ⟨b, off, none⟩) d.size cap, .int .i64 rest], .pointer (some ⟨w.heap.size, 0, none⟩), .int .i64 0, .pointer (some ⟨w1.heap.size, 0, none⟩), .pointer (some ⟨Bx, 0, none⟩), .agg #[.slice (some ⟨b, off, none⟩) d.size cap, .int .i64 rest], .bool true, .bool false, .agg #[.slice (some ⟨b, off, none⟩) d.size cap, .int .i64 rest], .func (.func 96) #[] #[.pointer (some ⟨w1.heap.size + 1, 0, none⟩)], .agg #[.int .i64 x.1.low, .int .i64 x.1.high, .string x.1.target, .int .i64 x.1.weight], undef, undef, undef, undef, undef, undef, undef], defers := [] })
      (fun x a' _ X Y row hs hg hr => by obtain ⟨Bx, h1, h2, h3⟩ := hs; exact ⟨Bx, h1, box4_own Bx x.1 () X Y row h2 hg (fun r e => (hr r e).2), h3⟩)
      ?assign ?body ?done ?stop
    case assign =>
      rintro l pre x W K ⟨bX1, hB1⟩ hK
      gi_wp2
      exact hK _ _ ((KeepsOthers.alloc _ _).from _) (KpX.alloc bX1.lt _) ⟨bX1.alloc _, hB1.alloc hB1.size _⟩ ⟨W.heap.size, bX1.lt, Box4.new W x.1, rfl⟩
    case body =>
      rintro l pre x a' W hl ⟨r, hr⟩ ⟨bX1, hB1⟩ ⟨Bx, hBx, b4, rfl⟩ hlt
      have hmx : Tryd.prog.follows .mixedOrders = true := by kernel_rfl
      have hBxl := b4.lt
      have d2 := b4.cells.2.2.1
      have hcz := cntZ_le (vals pre)
      have hvl : (vals pre).length = pre.length := by simp [vals]
      have hsn := cntZ_snoc (vals pre) x.1
      rw [← vals_snoc] at hsn
      have HSN := Lib.hid hsn
      obtain ⟨cz, hcze⟩ : ∃ cz, cz = cntZ (vals pre) := ⟨_, rfl⟩
      rw [← hcze] at bX1 hcz HSN
      have BX1 := Lib.hid bX1
      have HB1 := Lib.hid hB1
      have hXl := bX1.lt
      have htx := Lib.hid (fun W => text_any W)
      clear hsn hcze bX1 hB1 hr b4
      have hcz1 : 0 ≤ cz := hcz.1
      have hcz2 : cz ≤ 17 := by have := hcz.2; omega
      clear hcz hvl
      cases hq : (x.1.target.toList == zS.toList)
      all_goals
        have HQ := Lib.hid hq
        gi_wp2
        gi_region_with_o (refine ⟨trivial, ?_⟩; gi_at_call 52; refine (CallsIn.inRound l (callsIn_wide.2 (htx.out _))).mono ?_; rintro e w' ⟨rfl, hb⟩; have q2 := (hb.cell (p := ⟨Bx, 2, none⟩) hBxl).trans d2; have HBT := Lib.hid hb; have BX2 := Lib.hid (BX1.out.kept (grown_of_below ((Below.refl _ W).drew.trans hb)) (by simp)); have HG := Lib.hid (grown_of_below ((Below.refl _ W).drew.trans hb)); have cX2 := BX2.out.cell; have fX2 := BX2.out.frozen; clear hb)
        all_goals gi_wp2
      iterate 3
        · have he : cntZ (vals (pre ++ [x])) = cz := by rw [HSN.out, HQ.out]; simp
          exact ⟨(KeepsOthers.of_grownBy HG.out (fun j o e _ => by cases e)).from _, KpX.of_grown hXl HG.out, by rw [he]; exact BX2.out, HB1.out.trans ((grown_below HG.out).mono HB1.out.size)⟩
      iterate 3
        · have he : cntZ (vals (pre ++ [x])) = cz + 1 := by rw [HSN.out, HQ.out]; simp
          exact ⟨((KeepsOthers.of_grownBy HG.out (fun j o e _ => by cases e)).trans (KeepsOthers.setCell _ _ _)).from _, (KpX.of_grown hXl HG.out).trans (KpX.set BX2.out _ rfl), by rw [he]; exact BX2.out.set _, (HB1.out.trans ((grown_below HG.out).mono HB1.out.size)).setCell (p := ⟨w1.heap.size, 0, none⟩) (Nat.le_refl _) _⟩
    case done =>
      rintro D ys W hD hv ⟨bX1, hB1⟩ hK
      have cX := bX1.cell
      gi_wp2
      refine ⟨by simp, .inl ⟨_, _, rfl, run_takeDeferred hK, ?_⟩⟩
      refine ⟨_, results_tmp rfl _ _ _, ?_, ?_⟩
      · exact retI (a := cntZ (segs d rest)) (b := gapsI d rest) (by rw [gapsI, if_pos HS.out]; rfl)
      · exact HWB.out.trans ((hB1.trans (belowK_b (w := w1) (Nat.le_refl _) W D _ _ (by omega) hK rfl rfl)).mono (by omega))
    case stop =>
      rintro D c pre W _ _ h _
      exact h.elim
end Go.Proofs.YtjmfcnblkojejaaDoor
