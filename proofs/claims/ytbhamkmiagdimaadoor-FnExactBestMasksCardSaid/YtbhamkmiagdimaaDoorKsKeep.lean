
/- What the body of a loop over an iterator leaves alone: every block of cells but one box and the row that the box's slice lies in; the append's law with where the new row lies. No program. -/
import Derived.RangeFuncNested
import Derived.RangeFuncBound
import Derived.RangeFuncCalls
import Derived.RangeFuncLeaves
import Derived.RangeFuncBox
import Derived.Shelf.Abstract
import Derived.Shelf.RegionOpen
import Derived.WalkKit
import Derived.OwnWalkIn
import Derived.TacticsInMore
import Derived.LoopNIn
import Derived.LoopIn
import Derived.Maps.AppendAt
namespace Go.Proofs.YtbhamkmiagdimaaDoor
open Go.RowKit Go.Shelf

/-- Box X holds a slice whose row is block j. -/
def Pts (W : World) (X j : Nat) : Prop := ∃ u, W.cell? ⟨X, 0, none⟩ = some u ∧ u.ownBlock = some j
theorem Pts.of_heap {W W' : World} {X j : Nat} (h : W'.heap[X]? = W.heap[X]?) : Pts W' X j ↔ Pts W X j := by
  have e : W'.cell? ⟨X, 0, none⟩ = W.cell? ⟨X, 0, none⟩ := World.cell?_of_block (a := ⟨X, 0, none⟩) h
  unfold Pts
  rw [e]

structure KpX (X : Nat) (W W' : World) : Prop where
  size : W.heap.size ≤ W'.heap.size
  keep : ∀ i o, W.heap[i]? = some o → o.isCells = true → i ≠ X → ¬ Pts W X i → W'.heap[i]? = some o
  pts : ∀ j, Pts W' X j → Pts W X j ∨ W.heap.size ≤ j
  lt : (∀ i, Pts W X i → i < W.heap.size) → ∀ j, Pts W' X j → j < W'.heap.size

theorem KpX.refl (X : Nat) (W : World) : KpX X W W := ⟨Nat.le_refl _, fun _ _ h _ _ _ => h, fun _ h => .inl h, fun h => h⟩
theorem KpX.trans {X : Nat} {A B C : World} (h : KpX X A B) (k : KpX X B C) : KpX X A C := by
  refine ⟨Nat.le_trans h.size k.size, fun i o hi ho hx hp => k.keep i o (h.keep i o hi ho hx hp) ho hx fun hpb => ?_, fun j hj => ?_, fun hl => k.lt (h.lt hl)⟩
  · rcases h.pts i hpb with h1 | h1
    · exact hp h1
    · have := (Array.getElem?_eq_some_iff.1 hi).1
      omega
  · rcases k.pts j hj with h1 | h1
    · exact h.pts j h1
    · exact .inr (Nat.le_trans h.size h1)
theorem KpX.of_grown {X : Nat} {W W' : World} (hX : X < W.heap.size) (hg : W.grownBy W' none) : KpX X W W' := by
  have hx : W'.heap[X]? = W.heap[X]? := hg.block X hX (by simp)
  refine ⟨hg.size, fun i o hi _ _ _ => (hg.block i (Array.getElem?_eq_some_iff.1 hi).1 (by simp)).trans hi, fun j hj => .inl ((Pts.of_heap hx).1 hj), fun hl j hj => ?_⟩
  exact Nat.lt_of_lt_of_le (hl j ((Pts.of_heap hx).1 hj)) hg.size
theorem grown_of_below {W W' : World} (h : Below W.heap.size W W') : W.grownBy W' none := ⟨h.os, h.tape, h.output, h.size, fun k hk _ => h.block k hk⟩
theorem KpX.of_below {X : Nat} {W W' : World} (hX : X < W.heap.size) (h : Below W.heap.size W W') : KpX X W W' := KpX.of_grown hX (grown_of_below h)
theorem KpX.alloc {X : Nat} {W : World} (hX : X < W.heap.size) (o : Obj) : KpX X W (W.alloc o) := KpX.of_grown hX (World.grownBy_alloc W o none)
/-- The law's own book-keeping. -/
theorem kpX_b {X : Nat} {w : World} (hX : X < w.heap.size) (W : World) (l : Nat) (o o' : Obj) (hl : w.heap.size ≤ l) (h : W.heap[l]? = some o) (ho : o.isCells = false) (_ : o.isWalk = false) : KpX X W (W.putObj l o') := by
  have hg := grownBy_putObj' W l o'
  have hl2 := (Array.getElem?_eq_some_iff.1 h).1
  have hx : (W.putObj l o').heap[X]? = W.heap[X]? := hg.block X (by omega) (by simp; omega)
  refine ⟨hg.size, fun i q hi hq _ _ => ?_, fun j hj => .inl ((Pts.of_heap hx).1 hj), fun hlt j hj => Nat.lt_of_lt_of_le (hlt j ((Pts.of_heap hx).1 hj)) hg.size⟩
  have hne : i ≠ l := fun e => by
    subst e
    rw [h] at hi
    cases hi
    rw [ho] at hq
    cases hq
  exact (hg.block i (Array.getElem?_eq_some_iff.1 hi).1 (by simp [hne])).trans hi
/-- A store of a value that is no slice into the box. -/
theorem KpX.set {X : Nat} {W : World} {t : TypeId} {u : Value} (hb : Boxed W X t u) (u' : Value) (hn : u'.ownBlock = none) : KpX X W (W.setCell ⟨X, 0, none⟩ u') := by
  have hg := grownBy_setCell' W X u'
  have hp : ∀ j, ¬ Pts (W.setCell ⟨X, 0, none⟩ u') X j := by
    rintro j ⟨v, hv, hj⟩
    rw [(hb.set u').cell] at hv
    cases hv
    rw [hn] at hj
    cases hj
  exact ⟨hg.size, fun i o hi _ hx _ => (hg.block i (Array.getElem?_eq_some_iff.1 hi).1 (by simp [hx])).trans hi, fun j hj => absurd hj (hp j), fun _ j hj => absurd hj (hp j)⟩

/-- The append's law, with where the row lies behind it. -/
theorem run_append_at {P : Program} (w : World) (base : Nat) (t ty e : TypeId) (i : TypeInfo) (z : Value) (size bytes : Nat) (ht : P.underlying t = some (.slice e)) (hi : P.info? e = some i) (hz : i.zero = some z)
    (hsize : i.size = size) (hby : i.bytes = bytes) (hzs : z.cells.size = size) (hsz : 0 < size)
    (v : Value) (n : Nat) (xs : List Value) (hown : w.ownsRow base e size v n xs)
    (a : Addr) (m c : Nat) (news : List Value) (hl : news.length = m * size) (hnews : ∀ j u, news[j]? = some u → w.cell? (a.add j) = some u) (h1 : ∀ u ∈ news, u.oneCell' = true)
    (h63 : n + m ≤ maxLen) (hbytes : (n + m) * bytes ≤ 140737488355328) (hbase : base ≤ w.heap.size) (hm : 0 < m) :
    ∃ v' w', (Builtin.append_ #[t, t] ty #[v, .slice (some a) m c]).run P w = .ok v' w' ∧ w'.ownsRow base e size v' (n + m) (xs ++ news) ∧ w.grownBy w' v.ownBlock ∧
      (v'.ownBlock = v.ownBlock ∨ v'.ownBlock = some w.heap.size) := by
  obtain ⟨v', w', hr, h2, h3, _⟩ := run_append_own (P := P) w base t ty e i z size bytes ht hi hz hsize hby hzs hsz v n xs hown a m c news hl hnews h1 h63 hbytes hbase
  refine ⟨v', w', hr, h2, h3, ?_⟩
  subst hsize
  subst hby
  have hsmall : n + m ≤ 9223372036854775807 := by simp only [maxLen] at h63; omega
  rcases hown.2 with ⟨rfl, rfl⟩ | ⟨g, cap, cur, rfl, hbg, hg, hnc, hcm, hcs, htake⟩
  · have hr2 := run_append_nil (P := P) w t ty e i z ht hi hz a m c news hl hnews hm (by omega) (by have hb := hbytes; simp only [Nat.zero_add] at hb; omega)
    rw [hr] at hr2
    simp only [Result.ok.injEq] at hr2
    exact .inr (by rw [hr2.1]; rfl)
  · by_cases hroom : n + m ≤ cap
    · have hfit : n * i.size + news.length ≤ cur.size := by rw [hl, hcs, ← Nat.add_mul]; exact Nat.mul_le_mul_right _ hroom
      have hr2 := run_append_room (P := P) w t ty e i ht hi g n cap cur hg a m c news hl hnews h1 hroom hfit
      rw [hr] at hr2
      simp only [Result.ok.injEq] at hr2
      exact .inl (by rw [hr2.1]; rfl)
    · have holds : ∀ j u, xs[j]? = some u → w.cell? ((⟨g, 0, none⟩ : Addr).add j) = some u := hown.cells (g := g) rfl
      have hr2 := run_append_grow (P := P) w t ty e i z ht hi hz ⟨g, 0, none⟩ n cap xs hown.1 holds a m c news hl hnews (by omega) (by omega) (growslice_fits (by omega) hbytes)
      rw [hr] at hr2
      simp only [Result.ok.injEq] at hr2
      exact .inr (by rw [hr2.1]; rfl)

theorem wpListIn_append_at {F : Fence} {n : Nat} {P : Program} (w : World) {ops : Array Oper} {rest : List Oper} {o : Oper} {a : Act} {Q : Exit → Act → World → Prop}
    (hg : o.guard = none) (s x : Operand) (t : TypeId) (hop : o.op = Op.call { callee := Callee.builtin Builtin.append, args := #[s, x], argTypes := #[t, t] })
    (base : Nat) (e : TypeId) (i : TypeInfo) (z : Value) (size bytes : Nat) (h1 : P.underlying t = some (.slice e)) (h2 : P.info? e = some i) (h3 : i.zero = some z) (h4 : i.size = size) (h5 : i.bytes = bytes) (h6 : z.cells.size = size) (h7 : 0 < size)
    (v : Value) (k : Nat) (xs : List Value) (hs : a.eval s = v) (hown : w.ownsRow base e size v k xs) (ad : Addr) (m c : Nat) (news : List Value) (hx : a.eval x = .slice (some ad) m c) (hn : news.length = m * size)
    (hc : ∀ j u, news[j]? = some u → w.cell? (ad.add j) = some u) (h1c : ∀ u ∈ news, u.oneCell' = true) (b1 : k + m ≤ maxLen) (b2 : (k + m) * bytes ≤ 140737488355328) (b3 : base ≤ w.heap.size) (b4 : 0 < m)
    (hK : ∀ v' w', w'.ownsRow base e size v' (k + m) (xs ++ news) → w.grownBy w' v.ownBlock → (v'.ownBlock = v.ownBlock ∨ v'.ownBlock = some w.heap.size) → wpListIn F n P ops Q rest (a.put o.dst v') w') :
    wpListIn F n P ops Q (o :: rest) a w := by
  refine wpListIn_plain hg fun K hK' => ?_
  obtain ⟨v', w', hrun, r1, r2, r3⟩ := run_append_at (P := P) w base t o.type e i z size bytes h1 h2 h3 h4 h5 h6 h7 v k xs hown ad m c news hn hc h1c b1 b2 b3 b4
  unfold Oper.wpIn
  refine ⟨?_, ?_⟩
  · simp [Oper.about, hop, resolve, Target.leads, Sem.run_pure]
  · rw [Oper.semAt_plain F _ _ (by rw [hop]; intro c hc'; cases hc')]
    simp [execOp, hop, resolve, invoke, builtin, hs, hx, hrun, Result.andThen]
    exact hK' _ _ (hK v' w' r1 r2 r3)

theorem wpList_append_at {P : Program} (w : World) {ops : Array Oper} {rest : List Oper} {o : Oper} {a : Act} {Q : Exit → Act → World → Prop}
    (hg : o.guard = none) (s x : Operand) (t : TypeId) (hop : o.op = Op.call { callee := Callee.builtin Builtin.append, args := #[s, x], argTypes := #[t, t] })
    (base : Nat) (e : TypeId) (i : TypeInfo) (z : Value) (size bytes : Nat) (h1 : P.underlying t = some (.slice e)) (h2 : P.info? e = some i) (h3 : i.zero = some z) (h4 : i.size = size) (h5 : i.bytes = bytes) (h6 : z.cells.size = size) (h7 : 0 < size)
    (v : Value) (k : Nat) (xs : List Value) (hs : a.eval s = v) (hown : w.ownsRow base e size v k xs) (ad : Addr) (m c : Nat) (news : List Value) (hx : a.eval x = .slice (some ad) m c) (hn : news.length = m * size)
    (hc : ∀ j u, news[j]? = some u → w.cell? (ad.add j) = some u) (h1c : ∀ u ∈ news, u.oneCell' = true) (b1 : k + m ≤ maxLen) (b2 : (k + m) * bytes ≤ 140737488355328) (b3 : base ≤ w.heap.size) (b4 : 0 < m)
    (hK : ∀ v' w', w'.ownsRow base e size v' (k + m) (xs ++ news) → w.grownBy w' v.ownBlock → (v'.ownBlock = v.ownBlock ∨ v'.ownBlock = some w.heap.size) → wpList P ops Q rest (a.put o.dst v') w') :
    wpList P ops Q (o :: rest) a w := by
  refine wpList_plain hg fun K hK' => ?_
  obtain ⟨v', w', hrun, r1, r2, r3⟩ := run_append_at (P := P) w base t o.type e i z size bytes h1 h2 h3 h4 h5 h6 h7 v k xs hown ad m c news hn hc h1c b1 b2 b3 b4
  unfold Oper.wp execOp
  simp only [hop, resolve, invoke, builtin, Sem.run_bind, Sem.run_pure, Result.andThen_ok, List.map_toArray, List.map_cons, List.map_nil, hs, hx, hrun]
  exact hK' _ _ (hK v' w' r1 r2 r3)
/-- A block that is neither the old row nor a new one is not the row. -/
theorem not_row {v v' : Value} {z g : Nat} (hat : v'.ownBlock = v.ownBlock ∨ v'.ownBlock = some z) (h1 : v.ownBlock ≠ some g) (h2 : g < z) : some g ≠ v'.ownBlock := by
  intro e
  rcases hat with h | h
  · exact h1 (h.symm.trans e.symm)
  · rw [h] at e
    simp at e
    omega
theorem old_row {w : World} {base : Nat} {e : TypeId} {size n g : Nat} {v : Value} {xs : List Value} (h : w.ownsRow base e size v n xs) (hg : w.heap.size ≤ g) : v.ownBlock ≠ some g := fun e' => by
  have := (h.lt g e').2
  omega

/-- Behind an append to the box's slice and the store back: nothing else has turned. tmp: the block of the values that are appended. -/
theorem KpX.appended {X : Nat} {W w1 : World} {n₀ : Nat} {t e : TypeId} {size : Nat} {v v' : Value} {k m : Nat} {xs ys : List Value} {tmp : Obj}
    (hv : Boxed W X t v) (hte : t ≠ e) (hrow : W.ownsRow n₀ e size v k xs) (hown' : w1.ownsRow n₀ e size v' m ys) (hgrow : (W.alloc tmp).grownBy w1 v.ownBlock)
    (hat : v'.ownBlock = v.ownBlock ∨ v'.ownBlock = some (W.alloc tmp).heap.size) : KpX X W (w1.setCell ⟨X, 0, none⟩ v') := by
  have hv1 : Boxed w1 X t v := (hv.alloc tmp).kept hgrow (hv.not_row hte hrow)
  have hg2 := grownBy_setCell' w1 X v'
  have hsz : W.heap.size ≤ (w1.setCell ⟨X, 0, none⟩ v').heap.size := by have h1 := hgrow.size; have h2 := hg2.size; simp at h1; omega
  have hpw : ∀ j, Pts W X j ↔ v.ownBlock = some j := fun j => by
    unfold Pts
    rw [hv.cell]
    simp
  have hpw' : ∀ j, Pts (w1.setCell ⟨X, 0, none⟩ v') X j ↔ v'.ownBlock = some j := fun j => by
    unfold Pts
    rw [(hv1.set v').cell]
    simp
  refine ⟨hsz, fun i o hi _ hx hp => ?_, fun j hj => ?_, fun _ j hj => ?_⟩
  · have hil := (Array.getElem?_eq_some_iff.1 hi).1
    have h1 : (W.alloc tmp).heap[i]? = some o := ((World.grownBy_alloc W tmp none).block i hil (by simp)).trans hi
    have h2 : w1.heap[i]? = some o := (hgrow.block i (by simp; omega) (fun e => hp ((hpw i).2 e.symm))).trans h1
    exact (hg2.block i (Array.getElem?_eq_some_iff.1 h2).1 (by simp [hx])).trans h2
  · rw [hpw'] at hj
    rcases hat with h | h
    · exact .inl ((hpw j).2 (h.symm.trans hj))
    · rw [h] at hj
      simp at hj
      exact .inr (by omega)
  · rw [hpw'] at hj
    have := (hown'.lt j hj).2
    exact Nat.lt_of_lt_of_le this hg2.size
end Go.Proofs.YtbhamkmiagdimaaDoor
