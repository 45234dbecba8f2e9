
/- Slices of integers that calls have made: compared, marked, found marked; a copy that can be written. -/
import Derived.Test.YtmhloojnekjfhaaDoorKsIntArg
import Derived.Test.YtmhloojnekjfhaaDoorKsBoxN
namespace Go.Proofs.YtmhloojnekjfhaaDoor
open Go.RowKit Go.Shelf Go.Lib Go.Sort

theorem retIM {a b : Int} (h : a = b) : Ending.returned (.int .i64 a) = .returned (.int .i64 b) := by rw [h]
structure HotI (W : World) (g N k m : Nat) : Prop where
  lt : g < W.heap.size
  has : ∀ t, t < N → ∃ u, W.cell? ⟨g, t, none⟩ = some u
  cold : ∀ t, t < N → W.frozen? ⟨g, t, none⟩ = false
  marked : ∀ t, t < m → W.cell? ⟨g, t, none⟩ = some (.int .i64 ((k + t : Nat) : Int))
theorem HotI.below {W W' : World} {g N k m : Nat} (h : HotI W g N k m) (hb : RowKit.Below W.heap.size W W') : HotI W' g N k m :=
  ⟨Nat.lt_of_lt_of_le h.lt hb.size, fun t ht => by obtain ⟨u, hu⟩ := h.has t ht; exact ⟨u, (hb.cell (p := ⟨g, t, none⟩) h.lt).trans hu⟩, fun t ht => (hb.frozen (p := ⟨g, t, none⟩) h.lt).trans (h.cold t ht),
    fun t ht => (hb.cell (p := ⟨g, t, none⟩) h.lt).trans (h.marked t ht)⟩
theorem HotI.set {W : World} {g N k m : Nat} (h : HotI W g N k m) (hm : m < N) : HotI (W.setCell ⟨g, m, none⟩ (.int .i64 ((k + m : Nat) : Int))) g N k (m + 1) := by
  refine ⟨by rw [World.size_setCell]; exact h.lt, fun t ht => ?_, fun t ht => by rw [World.frozen?_setCell]; exact h.cold t ht, fun t ht => ?_⟩
  · by_cases e : t = m
    · subst e
      obtain ⟨u, hu⟩ := h.has t ht
      exact ⟨_, World.cell?_setCell_same _ _ _ hu⟩
    · obtain ⟨u, hu⟩ := h.has t ht
      exact ⟨u, (World.cell?_setCell_other _ _ _ _ (fun q => e (by cases q; rfl))).trans hu⟩
  · by_cases e : t = m
    · subst e
      obtain ⟨u, hu⟩ := h.has t hm
      exact World.cell?_setCell_same _ _ _ hu
    · exact (World.cell?_setCell_other _ _ _ _ (fun q => e (by cases q; rfl))).trans (h.marked t (by omega))
theorem grownN_trans {A B C : World} {row : Option Nat} (h : A.grownBy B row) (k : B.grownBy C row) : A.grownBy C row :=
  ⟨k.os.trans h.os, k.tape.trans h.tape, k.output.trans h.output, Nat.le_trans h.size k.size, fun j hj hne => (k.block j (Nat.lt_of_lt_of_le hj h.size) hne).trans (h.block j hj hne)⟩

set_option maxRecDepth 100000 in
set_option maxHeartbeats 1000000 in
theorem markRowN_any (g n cap k : Nat) (w : World) (h : HotI w g n k 0) (hn : n ≤ 1048576) (hk : k ≤ 99999999) :
    Calls Tryd.prog 27 #[.slice (some ⟨g, 0, none⟩) n cap, .int .i64 k] w fun x w' => x = .returned (.int .i64 ((k + n : Nat) : Int)) ∧ HotI w' g n k n ∧ w.grownBy w' (some g) := by
  have HH := Lib.hid h
  have hn' : (n : Int) ≤ 1048576 := by omega
  have hk' : (k : Int) ≤ 99999999 := by omega
  clear h
  go_enter Tryd.func27, Tryd.ntmps27
  go_wp2
  go_loopw [1, 5] (fun kv i wr => ∃ j : Nat, i = .int .i64 j ∧ kv = .int .i64 ((k + j : Nat) : Int) ∧ j ≤ n ∧ Hid (HotI wr g n k j) ∧ Hid (w.grownBy wr (some g))) (fun _ i _ => n - (Lib.intOf i).toNat)
  case atStart => exact ⟨0, rfl, rfl, Nat.zero_le _, HH.out, grown_reflN _ _⟩
  case round =>
    obtain ⟨j, rfl, rfl, hj, HM, HG⟩ := hrel
    by_cases hlt : j < n
    · have hjn : (j : Int) < (n : Int) := by omega
      obtain ⟨u0, c0⟩ := HM.out.has j hlt
      have f0 := HM.out.cold j hlt
      have M1 := Lib.hid (HM.out.set hlt)
      have G1 := Lib.hid (grownN_trans HG.out (grown_setN (grown_reflN wr (some g)) j (.int .i64 ((k + j : Nat) : Int))))
      have e0 : ((k + j : Nat) : Int) = (k : Int) + (j : Int) := by omega
      rw [e0] at M1 G1
      clear e0
      go_wp2
      go_roundw
      case rel => exact ⟨j + 1, by go_num, congrArg (Value.int .i64) (by omega), by omega, M1.out, G1.out⟩
      case measure => simp [Lib.intOf]; omega
    · have hjn : j = n := by omega
      subst hjn
      go_wp2_with fail
      go_ret
      exact ⟨retIM (by omega), HM.out, HG.out⟩

set_option maxHeartbeats 400000 in
theorem markNilN_any (p : Option Addr) (cap k : Nat) (w : World) : Calls Tryd.prog 27 #[.slice p 0 cap, .int .i64 k] w fun x w' => x = .returned (.int .i64 k) ∧ w = w' := by
  go_enter Tryd.func27, Tryd.ntmps27
  go_wp2
  refine wp_loop_rounds 1 ?_
  rw [rounds_succ]
  go_wp2
  go_ret
  exact ⟨rfl, rfl⟩
set_option maxHeartbeats 400000 in
theorem heldNilN_any (p : Option Addr) (cap k : Nat) (w : World) : Calls Tryd.prog 29 #[.slice p 0 cap, .int .i64 k] w fun x w' => x = .returned (.int .i64 k) ∧ w = w' := by
  go_enter Tryd.func29, Tryd.ntmps29
  go_wp2
  refine wp_loop_rounds 1 ?_
  rw [rounds_succ]
  go_wp2
  go_ret
  exact ⟨rfl, rfl⟩

set_option maxRecDepth 100000 in
set_option maxHeartbeats 1000000 in
theorem heldRowN_any (g n cap k : Nat) (w : World) (h : HotI w g n k n) (hn : n ≤ 1048576) (hk : k ≤ 99999999) :
    Calls Tryd.prog 29 #[.slice (some ⟨g, 0, none⟩) n cap, .int .i64 k] w fun x w' => x = .returned (.int .i64 ((k + n : Nat) : Int)) ∧ RowKit.Below w.heap.size w w' := by
  have HH := Lib.hid h
  have hn' : (n : Int) ≤ 1048576 := by omega
  have hk' : (k : Int) ≤ 99999999 := by omega
  clear h
  go_enter Tryd.func29, Tryd.ntmps29
  go_wp2
  go_loopw [1, 5] (fun kv i wr => ∃ j : Nat, i = .int .i64 j ∧ kv = .int .i64 ((k + j : Nat) : Int) ∧ j ≤ n ∧ Hid (RowKit.Below w.heap.size w wr)) (fun _ i _ => n - (Lib.intOf i).toNat)
  case atStart => exact ⟨0, rfl, rfl, Nat.zero_le _, Below.refl _ _⟩
  case round =>
    obtain ⟨j, rfl, rfl, hj, HW⟩ := hrel
    by_cases hlt : j < n
    · have hjn : (j : Int) < (n : Int) := by omega
      have c0 := (HH.out.below HW.out).marked j hlt
      rw [show ((k + j : Nat) : Int) = (k : Int) + (j : Int) from by omega] at c0
      go_wp2
      go_roundw
      case rel => exact ⟨j + 1, by go_num, congrArg (Value.int .i64) (by omega), by omega, HW.out⟩
      case measure => simp [Lib.intOf]; omega
    · have hjn : j = n := by omega
      subst hjn
      go_wp2_with fail
      go_ret
      exact ⟨retIM (by omega), HW.out⟩

set_option maxHeartbeats 400000 in
theorem eqNilN_any (p q : Option Addr) (c1 c2 : Nat) (w : World) : Calls Tryd.prog 23 #[.slice p 0 c1, .slice q 0 c2] w fun x w' => x = .returned (.bool true) ∧ w = w' := by
  go_enter Tryd.func23, Tryd.ntmps23
  go_wp2
  refine wp_loop_rounds 1 ?_
  rw [rounds_succ]
  go_wp2
  go_ret
  exact ⟨rfl, rfl⟩

/-! owned slices -/
theorem ownsN_form {base : Nat} {v : Value} {l : List Int} {w : World} (h : OwnsN base v l w) : (v = .slice none 0 0 ∧ l.length = 0) ∨ ∃ g cap, v = .slice (some ⟨g, 0, none⟩) l.length cap ∧ RowN w g 0 l.toArray ∧ HotI w g l.length 1 0 := by
  rcases h.2 with ⟨h0, h1⟩ | ⟨g, cap, cur, h0, hb, hh, h3⟩
  · exact .inl ⟨h0, h1⟩
  · have hl : g < w.heap.size := (Array.getElem?_eq_some_iff.1 hh).1
    subst h0
    have hc : ∀ t, t < l.length → w.cell? ⟨g, t, none⟩ = some (.int .i64 l.toArray[t]!) := fun t ht => by
      rw [World.ownsRow.cellAt h t (by simpa using ht)]
      simp [ht]
    refine .inr ⟨g, cap, rfl, ⟨hl, fun j hj => ?_⟩, ⟨hl, fun t ht => ⟨_, hc t ht⟩, fun t _ => by simp [World.frozen?, hh], fun t ht => absurd ht (Nat.not_lt_zero t)⟩⟩
    rw [Nat.zero_add]
    exact hc j (by simpa using hj)
theorem eqOwnN_any {b1 b2 : Nat} {v1 v2 : Value} {l : List Int} {w : World} (h1 : OwnsN b1 v1 l w) (h2 : OwnsN b2 v2 l w) (hn : l.length ≤ 1048576) :
    Calls Tryd.prog 23 #[v1, v2] w fun x w' => x = .returned (.bool true) ∧ RowKit.Below w.heap.size w w' := by
  by_cases h0 : l.length = 0
  · have n1 : ∃ p c, v1 = .slice p 0 c := by
      rcases ownsN_form h1 with ⟨h, _⟩ | ⟨g, c, h, _⟩
      · exact ⟨_, _, h⟩
      · exact ⟨some ⟨g, 0, none⟩, c, by rw [h, h0]⟩
    have n2 : ∃ p c, v2 = .slice p 0 c := by
      rcases ownsN_form h2 with ⟨h, _⟩ | ⟨g, c, h, _⟩
      · exact ⟨_, _, h⟩
      · exact ⟨some ⟨g, 0, none⟩, c, by rw [h, h0]⟩
    obtain ⟨p, c, rfl⟩ := n1
    obtain ⟨q, e, rfl⟩ := n2
    exact (eqNilN_any p q c e w).mono fun _ _ ⟨a, b⟩ => ⟨a, b ▸ Below.refl _ _⟩
  · rcases ownsN_form h1 with ⟨_, h⟩ | ⟨g1, c1, rfl, r1, _⟩
    · exact absurd h h0
    · rcases ownsN_form h2 with ⟨_, h⟩ | ⟨g2, c2, rfl, r2, _⟩
      · exact absurd h h0
      · have := eqIntS_same g1 c1 g2 c2 l.toArray w r1 r2 (by simpa using hn)
        simpa using this
def FormN (v : Value) (n : Nat) : Prop := (v = .slice none 0 0 ∧ n = 0) ∨ ∃ g cap, v = .slice (some ⟨g, 0, none⟩) n cap
theorem owns_formN {base : Nat} {v : Value} {l : List Int} {w : World} (h : OwnsN base v l w) : FormN v l.length := by
  rcases ownsN_form h with h0 | ⟨g, cap, h0, _⟩
  · exact .inl h0
  · exact .inr ⟨g, cap, h0⟩
/-- What a slice value holds is marked. -/
def MarkedN (w : World) (v : Value) (n : Nat) : Prop := ∀ g, v.ownBlock = some g → HotI w g n 1 n
theorem MarkedN.below {w w' : World} {v : Value} {n : Nat} (h : MarkedN w v n) (hb : RowKit.Below w.heap.size w w') : MarkedN w' v n := fun g hg => (h g hg).below hb
theorem markOwnN_any {base : Nat} {v : Value} {l : List Int} {w : World} (h : OwnsN base v l w) (hn : l.length ≤ 1048576) :
    Calls Tryd.prog 27 #[v, .int .i64 1] w fun x w' => x = .returned (.int .i64 ((1 + l.length : Nat) : Int)) ∧ MarkedN w' v l.length ∧ w.grownBy w' v.ownBlock := by
  rcases ownsN_form h with ⟨rfl, h0⟩ | ⟨g, cap, rfl, _, hh⟩
  · rw [h0]
    exact (markNilN_any none 0 1 w).mono fun _ _ ⟨a, b⟩ => ⟨a, (fun g hg => by cases hg), (by rw [← b]; exact grown_reflN _ _)⟩
  · exact (markRowN_any g l.length cap 1 w hh hn (by omega)).mono fun _ _ ⟨a, b, c⟩ => ⟨a, (fun g' hg => by cases hg; exact b), c⟩
theorem heldOwnN_any {v : Value} {n : Nat} {w : World} (hf : FormN v n) (h : MarkedN w v n) (hn : n ≤ 1048576) :
    Calls Tryd.prog 29 #[v, .int .i64 1] w fun x w' => x = .returned (.int .i64 ((1 + n : Nat) : Int)) ∧ RowKit.Below w.heap.size w w' := by
  rcases hf with ⟨rfl, rfl⟩ | ⟨g, cap, rfl⟩
  · exact (heldNilN_any none 0 1 w).mono fun _ _ ⟨a, b⟩ => ⟨a, b ▸ Below.refl _ _⟩
  · exact heldRowN_any g n cap 1 w (h g rfl) hn (by omega)
theorem ownsN_below {B : Nat} {v : Value} {l : List Int} {w w' : World} (h : OwnsN B v l w) (hb : RowKit.Below w.heap.size w w') : OwnsN B v l w' := by
  refine ⟨h.1, ?_⟩
  rcases h.2 with h2 | ⟨g, cap, cur, h3, h4, h5, h6⟩
  · exact .inl h2
  · exact .inr ⟨g, cap, cur, h3, h4, (hb.block g (Array.getElem?_eq_some_iff.1 h5).1).trans h5, h6⟩
theorem ownsN_grown {B : Nat} {v : Value} {l : List Int} {w w' : World} {row : Option Nat} (h : OwnsN B v l w) (hg : w.grownBy w' row) (hne : v.ownBlock = none ∨ v.ownBlock ≠ row) : OwnsN B v l w' := World.ownsRow.kept h hg hne
theorem not_blockN {B g : Nat} {v : Value} {l : List Int} {w : World} (h : OwnsN B v l w) (hg : w.heap.size ≤ g ∨ g < B) : v.ownBlock = none ∨ v.ownBlock ≠ some g := by
  cases hv : v.ownBlock with
  | none => exact .inl rfl
  | some q =>
    refine .inr fun e => ?_
    have := World.ownsRow.lt h q hv
    cases e
    omega
theorem not_sameN {B0 B1 : Nat} {v0 v1 : Value} {l0 l1 : List Int} {w0 w1 : World} (h0 : OwnsN B0 v0 l0 w0) (h1 : OwnsN B1 v1 l1 w1) (h : w0.heap.size ≤ B1) : v0.ownBlock = none ∨ v0.ownBlock ≠ v1.ownBlock := by
  cases hv : v0.ownBlock with
  | none => exact .inl rfl
  | some q =>
    refine .inr fun e => ?_
    have a := World.ownsRow.lt h0 q hv
    have b := World.ownsRow.lt h1 q e.symm
    omega
theorem frozen_of_block {w w' : World} {g t : Nat} (h : w'.heap[g]? = w.heap[g]?) : w'.frozen? ⟨g, t, none⟩ = w.frozen? ⟨g, t, none⟩ := by simp [World.frozen?, h]
theorem decide_negN {m : Int} (h : 0 ≤ m) : decide (m < 0) = false := by simp; omega

/-! a copy that can be written -/
theorem HotI.of_holds {w : World} {g : Nat} {o : Array Int} (k : Nat) (h : Holds encN w g 0 o) (hg : g < w.heap.size) : HotI w g o.size k 0 :=
  ⟨hg, fun t ht => ⟨_, by have := (h t ht).1; rwa [Nat.zero_add] at this⟩, fun t ht => by have := (h t ht).2; rwa [Nat.zero_add] at this, fun t ht => absurd ht (Nat.not_lt_zero t)⟩
end Go.Proofs.YtmhloojnekjfhaaDoor
